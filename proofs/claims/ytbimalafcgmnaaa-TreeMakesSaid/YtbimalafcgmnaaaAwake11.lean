/- Contract of layer 11's law's awake. -/
import Derived.Test.YtbimalafcgmnaaaMk11
import Derived.Test.YtbimalafcgmnaaaSet11
import Derived.Test.YtbimalafcgmnaaaTright
namespace Go.Proofs.Ytbimalafcgmnaaa
open Go.RowKit
set_option linter.unusedVariables false
set_option maxRecDepth 100000
set_option linter.unusedSimpArgs false

theorem Ks.lit {w : World} {g : Nat} (hg : w.heap.size = g) (L : List Tq) (h : ∀ x ∈ L, Tv w g x.1 x.2.1 x.2.2) : Ks (w.alloc (.cells (five L).toArray 25)) (g + 1) (some ⟨g, 0, none⟩) L := by
  have hb : Below g w (w.alloc (.cells (five L).toArray 25)) := (Below.refl _ _).alloc (by omega) _
  have hW : Whole (w.alloc (.cells (five L).toArray 25)) g 25 (five L).toArray := by rw [← hg]; exact Whole.made _ _ _
  intro i hi
  obtain ⟨f0, f1, f2, f3, f4⟩ := five_get L i hi
  refine ⟨g, 0, rfl, by omega, ⟨?_, ?_, ?_, ?_, ?_⟩, ((h _ (List.getElem_mem hi)).keep hb).more (by omega)⟩ <;> rw [Nat.zero_add, hW.at_] <;> simpa
theorem Kv.lit {w : World} {g n : Nat} (hg : w.heap.size = g) (L : List Tq) (hn : L.length = n) (h : ∀ x ∈ L, Tv w g x.1 x.2.1 x.2.2) (hm : n ≤ 1000000) : Kv (w.alloc (.cells (five L).toArray 25)) (g + 1) (.slice (some ⟨g, 0, none⟩) n n) (L.map (·.1)) := by
  subst hn
  exact Kv.of_list rfl (Nat.le_refl _) (by unfold maxLen; omega) (fun h => by cases h) (Ks.lit hg L h)

abbrev keyK : ByteArray := ⟨#[107]⟩
abbrev dictE : Tn := .mk 4 0 ⟨#[]⟩ [] []
abbrev int5 : Tn := .mk 1 5 ⟨#[]⟩ [] []
abbrev dictK : Tn := .mk 4 0 ⟨#[]⟩ [keyK] [int5]
theorem dict_set : dictE.set keyK int5 = dictK := rfl
theorem dict_get : dictK.get keyK = some int5 := by rw [← dict_set]; exact Tn.get_set rfl _ _
theorem dict_none : dictE.get keyK = none := rfl
theorem few_plain {k n : Int} {s : ByteArray} : (Tn.mk k n s [] []).Few := .mk (by simp [Tn.keys]) (by simp [Tn.kids]) (fun u hu => by cases hu)
theorem few_dict : dictK.Few := .mk (by simp [Tn.keys]) (by simp [Tn.kids]) (fun u hu => by
  have : u = int5 := by simpa [Tn.kids] using hu
  subst this
  exact few_plain)
theorem right_a : (Tn.mk 2 0 ⟨#[97]⟩ [] []).right 0 = 0 := by decide +kernel
theorem right_z : Tn.zero.right 0 = 9 := by decide +kernel
theorem depth_1 : (Tn.listOf []).depth = 1 := by decide +kernel
theorem depth_2 : (Tn.listOf [Tn.listOf []]).depth = 2 := by decide +kernel

set_option maxHeartbeats 1000000 in
theorem awake11 (w : World) : Calls Try.prog 8 #[] w fun e w' => e = .returned (.bool true) ∧ Below w.heap.size w w' := by
  go_enter Try.func8, Try.ntmps8
  go_wp2_with fail
  refine (dict11_any _).mono ?_
  rintro e w1 ⟨rfl, hb1⟩
  have HB1 := Lib.hid hb1
  clear hb1
  go_wp2_with fail
  refine (int11_any 5 _).mono ?_
  rintro e w2 ⟨rfl, hb2⟩
  have HB2 := Lib.hid (HB1.out.trans (hb2.mono HB1.out.size))
  clear hb2
  go_wp2_with fail
  have C3 := Lib.hid (set11_any (t := dictE) (x := int5) few_plain few_plain (w := w2) (B := 0) (C := 0) (tv_plain (by omega) (by omega) (tsmall (by simp [ByteArray.size]))) keyK (tsmall (by simp [ByteArray.size])) (tv_plain (by omega) (by omega) (tsmall (by simp [ByteArray.size]))))
  rw [dict_set] at C3
  refine (C3.out).mono ?_
  rintro e w3 ⟨sk, sq, rfl, ht3, hb3⟩
  have HB3 := Lib.hid (HB2.out.trans (hb3.mono HB2.out.size))
  have C4 := Lib.hid (get11_any few_dict ht3 keyK)
  rw [dict_get] at C4
  clear hb3 ht3 C3
  go_wp2_with fail
  refine (C4.out).mono ?_
  rintro e w4 ⟨xk, xq, rfl, ht4, hb4⟩
  have ht4' : Tv w4 w4.heap.size int5 xk xq := ht4
  obtain ⟨Ak, ck, Aq, cq, g1, u0, u1, rfl, rfl, hg1, hal1, hW1, hst1, hx1, hc1, hz1⟩ := var11 ht4'
  have HW1 := Lib.hid hW1
  have HX1 := Lib.hid hx1
  have HB4 : Hid (Below w.heap.size w u1) := Lib.hid ((HB3.out.trans (hb4.mono HB3.out.size)).trans (hc1.mono (by have := HB3.out.size; have := hb4.size; omega)))
  clear hb4 ht4 ht4' C4 hW1 hx1 hc1 hz1
  go_wp2_with (refine wpList_store_whole rfl rfl rfl rfl rfl HW1.out (treeI rfl) rfl (by simp [Value.oneCell']) ?_; try rw [hst1])
  refine (dict11_any _).mono ?_
  rintro e w5 ⟨rfl, hb5⟩
  have HB5 := Lib.hid (HB4.out.trans (hb5.mono HB4.out.size))
  have HX5 := Lib.hid (HX1.out.keep hb5)
  clear hb5
  have C6 := Lib.hid (get11_any (few_plain : dictE.Few) (w := w5) (B := 0) (tv_plain (by omega) (by omega) (tsmall (by simp [ByteArray.size]))) keyK)
  rw [dict_none] at C6
  go_wp2_with fail
  refine (C6.out).mono ?_
  rintro e w6 ⟨xk, xq, rfl, ht6, hb6⟩
  have ht6' : Tv w6 w6.heap.size Tn.zero xk xq := ht6
  obtain ⟨Bk, dk, Bq, dq, g2, u2, u3, rfl, rfl, hg2, hal2, hW2, hst2, hx2, hc2, hz2⟩ := var11 ht6'
  have HW2 := Lib.hid hW2
  have HX6 := HX5.out.keep hb6
  have HX7 := Lib.hid (HX6.below hc2 (by rw [← hg2]; exact HX6.lt))
  have HB7 : Hid (Below w.heap.size w u3) := Lib.hid ((HB5.out.trans (hb6.mono HB5.out.size)).trans (hc2.mono (by have := HB5.out.size; have := hb6.size; omega)))
  clear hb6 ht6 ht6' C6 hW2 hx2 hc2 hz2 HX6
  go_wp2_with (refine wpList_store_whole rfl rfl rfl rfl rfl HW2.out (treeI rfl) rfl (by simp [Value.oneCell']) ?_; try rw [hst2])
  have C8 := Lib.hid (fun (W : World) => list11_any (w := W) (Kv.nil W 0) (by simp) (fun u hu => by cases hu))
  refine (C8.out _).mono ?_
  rintro e w8 ⟨lk, lq, rfl, ht8, hb8⟩
  have HB8 := Lib.hid (HB7.out.trans (hb8.mono HB7.out.size))
  have HX8 := Lib.hid (HX7.out.keep hb8)
  have C9 := Lib.hid (depth11_any (SizeOf.sizeOf (Tn.listOf []) + 1) _ (Nat.lt_succ_self _) (by rw [depth_1]; omega) ht8)
  rw [depth_1] at C9
  clear hb8 ht8
  go_wp2_with fail
  refine (C9.out).mono ?_
  rintro e w9 ⟨rfl, hb9⟩
  have HB9 := Lib.hid (HB8.out.trans (hb9.mono HB8.out.size))
  have HX9 := Lib.hid (HX8.out.keep hb9)
  clear hb9 C9
  go_wp2_with fail
  refine (C8.out _).mono ?_
  rintro e w10 ⟨lk, lq, rfl, ht10, hb10⟩
  obtain ⟨Lk, kc, ek, _⟩ := ht10.keys
  obtain ⟨Lq, qc, eq, _⟩ := ht10.kids
  subst ek eq
  have HB10 := Lib.hid (HB9.out.trans (hb10.mono HB9.out.size))
  have HX10 := Lib.hid (HX9.out.keep hb10)
  obtain ⟨v1, hv1⟩ : ∃ v1, w10.heap.size = v1 := ⟨_, rfl⟩
  have hkv := Kv.lit (n := 1) hv1 [(Tn.listOf [], Value.slice Lk (Tn.listOf []).keys.length kc, Value.slice Lq (Tn.listOf []).kids.length qc)] rfl (fun y hy => by rw [List.mem_singleton] at hy; subst hy; rw [← hv1]; exact ht10) (by omega)
  have hbA : Below v1 w10 (w10.alloc (.cells (five [(Tn.listOf [], Value.slice Lk (Tn.listOf []).keys.length kc, Value.slice Lq (Tn.listOf []).kids.length qc)]).toArray 25)) := (Below.refl _ _).alloc (by omega) _
  obtain ⟨wA, hwA⟩ : ∃ wA, w10.alloc (.cells #[.int .i64 (Tn.listOf []).kind, .int .i64 (Tn.listOf []).n, .string (Tn.listOf []).s, .slice Lk (Tn.listOf []).keys.length kc, .slice Lq (Tn.listOf []).kids.length qc] 25) = wA := ⟨_, rfl⟩
  have hwA' : w10.alloc (.cells (five [(Tn.listOf [], Value.slice Lk (Tn.listOf []).keys.length kc, Value.slice Lq (Tn.listOf []).kids.length qc)]).toArray 25) = wA := hwA
  rw [hwA'] at hkv hbA
  have C11 := Lib.hid (list11_any hkv (by simp) (fun u hu => by
    have : u = Tn.listOf [] := by simpa using hu
    subst this
    exact Tn.Few.list (by simp) (fun u hu => by cases hu)))
  have HBA := Lib.hid (HB10.out.trans (hbA.mono (by have := HB10.out.size; omega)))
  have HXA := Lib.hid (HX10.out.below hbA (by have := HX10.out.lt; omega))
  clear hb10 ht10 hkv hbA hwA'
  go_wp2_with fail
  refine (C11.out).mono ?_
  rintro e w11 ⟨lk, lq, rfl, ht11, hb11⟩
  have HB11 := Lib.hid (HBA.out.trans (hb11.mono HBA.out.size))
  have HX11 := Lib.hid (HXA.out.keep hb11)
  have C12 := Lib.hid (depth11_any (SizeOf.sizeOf (Tn.listOf [Tn.listOf []]) + 1) _ (Nat.lt_succ_self _) (by rw [depth_2]; omega) ht11)
  rw [depth_2] at C12
  clear hb11 ht11
  go_wp2_with fail
  refine (C12.out).mono ?_
  rintro e w12 ⟨rfl, hb12⟩
  have HB12 := Lib.hid (HB11.out.trans (hb12.mono HB11.out.size))
  have HX12 := Lib.hid (HX11.out.keep hb12)
  clear hb12 C12
  obtain ⟨m0, m1, m2, m3, m4⟩ := HX12.out.cells
  have e0 : int5.kind = 1 := rfl
  have e1 : int5.n = 5 := rfl
  rw [e0] at m0
  rw [e1] at m1
  go_wp2_with fail
  refine (text11_any ⟨#[97]⟩ _).mono ?_
  rintro e w13 ⟨rfl, hb13⟩
  have HB13 := Lib.hid (HB12.out.trans (hb13.mono HB12.out.size))
  clear hb13
  have C14 := Lib.hid (right11_any (t := .mk 2 0 ⟨#[97]⟩ [] []) (w := w13) (B := 0) (tv_plain (by omega) (by omega) (tsmall (by simp [ByteArray.size]))))
  rw [right_a] at C14
  go_wp2_with fail
  refine (C14.out).mono ?_
  rintro e w14 ⟨rfl, hb14⟩
  have HB14 := Lib.hid (HB13.out.trans (hb14.mono HB13.out.size))
  clear hb14
  have C15 := Lib.hid (right11_any (t := Tn.zero) (w := w14) (B := 0) (Tv.zero _ _))
  rw [right_z] at C15
  go_wp2_with fail
  refine (C15.out).mono ?_
  rintro e w15 ⟨rfl, hb15⟩
  have HB15 := Lib.hid (HB14.out.trans (hb15.mono HB14.out.size))
  clear hb15
  go_wp2_with fail
  go_ret
  exact ⟨rfl, HB15.out⟩
end Go.Proofs.Ytbimalafcgmnaaa
