/- Contracts of the reference's small functions of layer 13. -/
import Derived.Test.YtldjdoebappkoaaGreatDoorDm
import Derived.Test.YtldjdoebappkoaaGreatDoorPC
import Derived.Test.YtldjdoebappkoaaGreatDoorPK
import Derived.Test.YtldjdoebappkoaaGreatDoorPF
import Derived.Test.YtldjdoebappkoaaGreatDoorPA
import Derived.Lib.ConvBytes
namespace Go.Proofs.YtldjdoebappkoaaGreatDoor
open Go.RowKit
set_option linter.unusedVariables false
set_option maxRecDepth 100000
set_option linter.unusedSimpArgs false
open Gm

theorem results_peer {fn : Func} {p : Tmp} {tmps : Array Value} {w : World} {g : Nat} {cs : Array Value} (h : fn.results = #[.cell p 32])
    (hp : tmps.getD p undef = .pointer (some ⟨g, 0, none⟩)) (hg : Whole w g 32 cs) (hc : cs.size = 2) :
    (results fn tmps).run Tryz.prog w = .ok (.agg cs) w := by
  have hp' : tmps[p]?.getD undef = .pointer (some ⟨g, 0, none⟩) := by simpa using hp
  simp [results, h, hp', asAddr, run_loadVar_row w g 32 32 cs (0, 0) _ hg Tryz.underlying32 rfl (peerI hc)]

theorem rtext13_any (s : ByteArray) (w : World) :
    Calls Tryz.prog 60 #[.string s] w fun e w' => e = .returned (.agg #[.int .i64 2, .int .i64 0, .string s, .slice none 0 0, .slice none 0 0]) ∧ Below w.heap.size w w' := by
  obtain ⟨g, w0, hg, hal, hY, hb, hs⟩ := var_tree w
  have HY := Lib.hid hY
  have HB := Lib.hid hb
  clear hY hb
  go_enter Tryz.func60, Tryz.ntmps60
  go_wp2_with (refine wpList_store_whole rfl rfl rfl rfl rfl HY.out (treeI rfl) rfl (by simp [Value.oneCell']) ?_)
  refine bodyPost_ret (v := .agg #[.int .i64 2, .int .i64 0, .string s, .slice none 0 0, .slice none 0 0]) ?_ rfl ⟨rfl, below_row (by rw [hg]; exact HB.out) (by omega) _⟩
  exact results_tree rfl rfl (HY.out.row _) rfl

theorem rid13_any (u : Nat) (hu : u < 18446744073709551616) (w : World) :
    Calls Tryz.prog 61 #[.int .u64 (u : Int)] w fun e w' => e = .returned (.string (Dm.idS u)) ∧ Below w.heap.size w w' := by
  go_enter Tryz.func61, Tryz.ntmps61
  go_wp2_with fail
  refine (fixr_any u 8 w hu (by omega) (by omega)).mono ?_
  rintro e w1 ⟨v, rfl, ho, hb⟩
  rw [show Bm.fixI u 8 = Bm.fix 8 u from Bm.fixI_good (n := u) (k := 8) (by omega) (by omega)] at ho
  have hcv := conv_own (P := Tryz.prog) Tryz.underlying59 Tryz.underlying5 Tryz.underlying9 ho
  rw [show strOf (Bm.fix 8 u) = Dm.idS u from rfl] at hcv
  have HB := Lib.hid hb
  clear ho hb
  go_wp2_with fail
  go_ret
  exact ⟨rfl, HB.out⟩

set_option maxHeartbeats 1000000 in
theorem rpeer13_any (p : Nat × Nat) (h1 : p.1 < 18446744073709551616) (h2 : p.2 < 65536) (w : World) :
    Calls Tryz.prog 62 #[.agg #[.int .u64 (p.1 : Int), .int .u16 (p.2 : Int)]] w fun e w' => e = .returned (.string (Dm.peerS p)) ∧ Below w.heap.size w w' := by
  obtain ⟨p1, p2⟩ := p
  change p1 < 18446744073709551616 at h1
  change p2 < 65536 at h2
  obtain ⟨S, hS⟩ : ∃ S, Hid (Dm.peerS (p1, p2) = S) := ⟨_, Lib.hid rfl⟩
  rw [hS.out]
  show Calls Tryz.prog 62 #[.agg #[.int .u64 (p1 : Int), .int .u16 (p2 : Int)]] w fun e w' => e = .returned (.string S) ∧ Below w.heap.size w w'
  obtain ⟨b, w1, hb, hal, hW, hB⟩ : ∃ b w1, w.heap.size = b ∧ w.alloc (.cells #[.int .u64 (p1 : Int), .int .u16 (p2 : Int)] 32) = w1 ∧ Whole w1 b 32 #[.int .u64 (p1 : Int), .int .u16 (p2 : Int)] ∧ Below b w w1 := ⟨_, _, rfl, rfl, Whole.made _ _ _, (Below.refl _ _).alloc (Nat.le_refl _) _⟩
  have hlt := hW.lt
  have HW := Lib.hid hW
  have HB : Hid (Below w.heap.size w w1) := Lib.hid (by rw [hb]; exact hB)
  have z1 := Lib.hid (strOf_size (Bm.fix 8 p1))
  have z2 := Lib.hid (strOf_size (Bm.fix 2 p2))
  rw [Bm.fix_length] at z1 z2
  have HJ : Hid (strOf (Bm.fix 8 p1) ++ strOf (Bm.fix 2 p2) = S) := Lib.hid (by rw [← hS.out]; unfold Dm.peerS; show _ = strOf (Bm.fix 8 p1 ++ Bm.fix 2 p2); exact strOf_append _ _)
  have D1 := Lib.hid (fun W => rid13_any p1 h1 W)
  unfold Dm.idS at D1
  have D2 := Lib.hid (fun W => fixr_any p2 2 W (Nat.lt_trans h2 (by omega)) (by omega) (by omega))
  rw [show Bm.fixI p2 2 = Bm.fix 2 p2 from Bm.fixI_good (n := p2) (k := 2) (by omega) (by omega)] at D2
  obtain ⟨l2, hl2⟩ : ∃ l, Hid (Bm.fix 2 p2 = l) := ⟨_, Lib.hid rfl⟩
  rw [hl2.out] at D2 z2 HJ
  obtain ⟨sA, hsA⟩ : ∃ s, Hid (strOf (Bm.fix 8 p1) = s) := ⟨_, Lib.hid rfl⟩
  rw [hsA.out] at D1 z1 HJ
  obtain ⟨sB, hsB⟩ : ∃ s, Hid (strOf l2 = s) := ⟨_, Lib.hid rfl⟩
  rw [hsB.out] at z2 HJ
  have hz : ¬ 9223372036854775807 < sA.size + sB.size := by rw [z1.out, z2.out]; omega
  have HL2 := Lib.hid hl2.out
  have hwr : IntKind.u64.wrap (p2 : Int) = (p2 : Int) := by rw [IntKind.wrap_u64]; omega
  clear hW hB h1 h2
  go_enter Tryz.func62, Tryz.ntmps62
  go_wp2_with fail
  refine wp_region_plans (fun W => Whole W b 32 #[.int .u64 (p1 : Int), .int .u16 (p2 : Int)]) [(0, true), (1, true), (3, true), (4, true), (5, true), (2, false), (6, false), (7, true), (8, true), (9, true)] (by kernel_rfl) (by kernel_rfl) rfl (by kernel_rfl) (fun _ _ _ _ _ h => h) (HW.out.below (Below.refl _ _).drew HW.out.lt) ?_
  iterate 5
    refine alongs_take (v := ?_) rfl (by rfl) ?_ ?_
    rotate_left
    · intro W hW; have hW' : Whole W b 32 #[.int .u64 (p1 : Int), .int .u16 (p2 : Int)] := hW; have d0 := hW'.at_ 0; have d1 := hW'.at_ 1; simp at d0 d1; clear hW hW'; go_simp; try with_reducible rfl
    simp only [Act.put, List.setIfInBounds_toArray, List.set_cons_zero, List.set_cons_succ]
  have HB1 := Lib.hid HB.out.drew
  have HW1 := Lib.hid (HW.out.below (Below.refl _ _).drew HW.out.lt)
  refine alongs_step rfl (fun K hK => ?_)
  go_simp
  refine (D1.out _).mono ?_
  rintro e w2 ⟨rfl, hb2⟩
  have HB2 := Lib.hid (HB1.out.trans (hb2.mono HB1.out.size))
  have HB12 := Lib.hid hb2
  refine hK.out (fun W => Whole W b 32 #[.int .u64 (p1 : Int), .int .u16 (p2 : Int)]) _ _ (fun W hW => hW) (HW1.out.below hb2 HW1.out.lt) ?_
  clear hK K hb2
  try simp only [Act.put, List.setIfInBounds_toArray, List.set_cons_zero, List.set_cons_succ]
  refine alongs_step rfl (fun K hK => ?_)
  go_simp
  refine (D2.out _).mono ?_
  rintro e w3 ⟨v3, rfl, ho3, hb3⟩
  have HB3 := Lib.hid (HB2.out.trans (hb3.mono HB2.out.size))
  refine hK.out (fun W => Whole W b 32 #[.int .u64 (p1 : Int), .int .u16 (p2 : Int)] ∧ (convert 59 9 v3).run Tryz.prog W = .ok (.string sB) W) _ _ (fun W hW => hW.1) ?_ ?_
  · exact ⟨(HW1.out.below HB12.out HW1.out.lt).below hb3 (HW1.out.below HB12.out HW1.out.lt).lt, by have h := conv_own (P := Tryz.prog) Tryz.underlying59 Tryz.underlying5 Tryz.underlying9 ho3; rw [hsB.out] at h; exact h⟩
  clear hK K hb3 ho3
  try simp only [Act.put, List.setIfInBounds_toArray, List.set_cons_zero, List.set_cons_succ]
  iterate 3
    refine alongs_take (v := ?_) rfl (by rfl) ?_ ?_
    rotate_left
    · intro W hW; have hcv := hW.2; clear hW; go_simp; try with_reducible rfl
    simp only [Act.put, List.setIfInBounds_toArray, List.set_cons_zero, List.set_cons_succ]
  refine alongs_done ?_
  go_wp2_with fail
  go_ret
  exact ⟨by rw [← HJ.out]; rfl, HB3.out⟩

theorem be_lt (l : List Nat) (hb : ∀ x ∈ l, x < 256) (k : Nat) : Bm.be (l.take k) < 256 ^ k := by
  rcases Nat.le_total k l.length with h | h
  · exact Bm.be_take l hb k h
  · rw [List.take_of_length_le h]
    have := Bm.be_take l hb l.length (Nat.le_refl _)
    rw [List.take_length] at this
    exact Nat.lt_of_lt_of_le this (Nat.pow_le_pow_right (by omega) h)
set_option maxHeartbeats 1000000 in
theorem rword13_any (s : ByteArray) (i n : Nat) (hi : i ≤ 1000) (hn : n ≤ 8) (w : World) :
    Calls Tryz.prog 56 #[.string s, .int .i64 (i : Int), .int .i64 (n : Int)] w fun e w' => e = .returned (.int .u64 (Dm.word s i n : Int)) ∧ w' = w := by
  have T := Txt.nums s
  obtain ⟨r, hr⟩ : ∃ r, Hid (Dm.word s i n = r) := ⟨_, Lib.hid rfl⟩
  have HR : Hid (r = Bm.be (((nums s).drop i).take n)) := Lib.hid hr.out.symm
  rw [hr.out]
  obtain ⟨l, hl⟩ : ∃ l, Hid (nums s = l) := ⟨_, Lib.hid rfl⟩
  rw [hl.out] at T HR
  have hsz := T.size
  have HT := Lib.hid T
  have HBy := Lib.hid (fun k => be_lt (l.drop i) (fun x hx => T.byte x (List.mem_of_mem_drop hx)) k)
  clear T hr hl
  go_enter Tryz.func56, Tryz.ntmps56
  go_wp2_with fail
  go_loopw [7, 8] (fun u v wr => ∃ (k j a : Nat), v = .int .i64 (j : Int) ∧ k ≤ n ∧ Hid (i + k = j) ∧ u = .int .u64 (a : Int) ∧ Hid (a = Bm.be ((l.drop i).take k)) ∧ wr = w) (fun _ v _ => i + n - (intOf v).toNat)
  case atStart => exact ⟨0, i, 0, rfl, by omega, Lib.hid rfl, rfl, Lib.hid (by simp [Bm.be]), rfl⟩
  case round =>
    obtain ⟨k, j, a, rfl, hk, Hj, rfl, Ha, rfl⟩ := hrel
    have hj1 : j ≤ 1008 := by have := Hj.out; omega
    by_cases h1 : k < n
    · have h1' : j < i + n := by have := Hj.out; omega
      have h2' : (j : Int) < (i : Int) + (n : Int) := by omega
      by_cases h3 : j < l.length
      · have hat : ∀ (h : j < s.size), (s[j]'h).toNat = l.getD j 0 := fun h => HT.out.at_ j h
        obtain ⟨c, hc⟩ : ∃ c, l.getD j 0 = c := ⟨_, rfl⟩
        rw [hc] at hat
        have hc8 : c < 256 := by rw [← hc]; simp [List.getD, List.getElem?_eq_getElem h3]; exact HT.out.byte _ (List.getElem_mem h3)
        have ha : a * 256 + 255 < 18446744073709551616 := by
          have h := HBy.out k
          rw [← Ha.out] at h
          have : 256 ^ k ≤ 256 ^ 7 := Nat.pow_le_pow_right (by omega) (by omega)
          have e : (256 : Nat) ^ 7 = 72057594037927936 := by decide
          omega
        have HA2 : Hid (a * 256 + c = Bm.be ((l.drop i).take (k + 1))) := Lib.hid (by
          rw [Bm.be_next (l.drop i) k (by rw [List.length_drop]; have := Hj.out; omega), ← Ha.out]
          congr 1
          rw [← hc]
          simp [List.getD, Hj.out])
        clear hc
        go_wp2_with fail
        go_roundw
        case rel => exact ⟨k + 1, j + 1, a * 256 + c, by go_num, by omega, Lib.hid (by have := Hj.out; omega), by go_num, HA2, by first | rfl | trivial⟩
        case measure => simp [intOf]; omega
      · have h3' : ¬ (j : Int) < (l.length : Int) := by omega
        have HE : Hid (a = r) := Lib.hid (by
          rw [Ha.out, HR.out]
          congr 1
          rw [List.take_of_length_le (by rw [List.length_drop]; have := Hj.out; omega), List.take_of_length_le (by rw [List.length_drop]; have := Hj.out; omega)])
        go_wp2_with fail
        go_ret
        exact ⟨by rw [HE.out]; rfl, rfl⟩
    · have hkn : k = n := by omega
      subst hkn
      have HE : Hid (a = r) := Lib.hid (by rw [Ha.out, HR.out])
      have h2' : ¬ (j : Int) < (i : Int) + (k : Int) := by have := Hj.out; omega
      go_wp2_with fail
      go_ret
      exact ⟨by rw [HE.out]; rfl, rfl⟩

set_option maxHeartbeats 1000000 in
theorem rone13_any (s : ByteArray) (w : World) :
    Calls Tryz.prog 57 #[.string s] w fun e w' => e = .returned (.agg #[.int .u64 ((Dm.one s).1 : Int), .int .u16 ((Dm.one s).2 : Int)]) ∧ Below w.heap.size w w' := by
  obtain ⟨g, w0, hg, hal, hY, hb, hs⟩ : ∃ g w0, w.heap.size = g ∧ w.alloc (.cells #[.int .u64 0, .int .u16 0] 32) = w0 ∧ Whole w0 g 32 #[.int .u64 0, .int .u16 0] ∧ Below g w w0 ∧ w0.heap.size = g + 1 := ⟨_, _, rfl, rfl, Whole.made _ _ _, (Below.refl _ _).alloc (Nat.le_refl _) _, by simp⟩
  have HY := Lib.hid hY
  have HB := Lib.hid hb
  have D := Lib.hid (fun W => rword13_any s 0 8 (by omega) (by omega) W)
  have E := Lib.hid (fun W => rword13_any s 8 2 (by omega) (by omega) W)
  have HX : Hid (Dm.one s = (Dm.word s 0 8, Dm.word s 8 2)) := Lib.hid rfl
  have h2 : Dm.word s 8 2 < 65536 := by
    have := be_lt ((nums s).drop 8) (fun x hx => (Txt.nums s).byte x (List.mem_of_mem_drop hx)) 2
    have e : (256 : Nat) ^ 2 = 65536 := by decide
    unfold Dm.word
    omega
  rw [HX.out]
  obtain ⟨x, hx⟩ : ∃ r, Hid (Dm.word s 0 8 = r) := ⟨_, Lib.hid rfl⟩
  obtain ⟨y, hy⟩ : ∃ r, Hid (Dm.word s 8 2 = r) := ⟨_, Lib.hid rfl⟩
  rw [hx.out] at D ⊢
  rw [hy.out] at E h2 ⊢
  clear hY hb HX
  have hwr : IntKind.u16.wrap (y : Int) = (y : Int) := by rw [IntKind.wrap_u16]; omega
  go_enter Tryz.func57, Tryz.ntmps57
  go_wp2_with fail
  refine (D.out _).mono ?_
  rintro e w1 ⟨rfl, rfl⟩
  go_wp2_with fail
  refine (E.out _).mono ?_
  rintro e w1 ⟨rfl, rfl⟩
  go_wp2_with (refine wpList_store_whole rfl rfl rfl rfl rfl HY.out (peerI rfl) rfl (by simp [Value.oneCell']) ?_)
  refine bodyPost_ret (v := .agg #[.int .u64 (x : Int), .int .u16 (y : Int)]) ?_ rfl ⟨rfl, below_row (by rw [hg]; exact HB.out) (by omega) _⟩
  exact results_peer rfl rfl (HY.out.row _) rfl
end Go.Proofs.YtldjdoebappkoaaGreatDoor
