/- Contract of the reference's Print of layer 12; slices of bytes. -/
import Derived.Test.YtphanlkobkkgfaaRben12
import Derived.Lib.ConvBytes
namespace Go.Proofs.Ytphanlkobkkgfaa
open Go.RowKit
set_option linter.unusedVariables false
set_option maxRecDepth 100000
set_option linter.unusedSimpArgs false

/-- the value is a slice of the bytes l -/
def Pc (w : World) (B : Nat) (v : Value) (l : List Nat) : Prop := ∃ A c, v = .slice A l.length c ∧ Sees .u8 w B A l ∧ (A = none → c = 0) ∧ l.length ≤ c ∧ c ≤ maxLen
theorem Pc.below {w w' : World} {B : Nat} {v : Value} {l : List Nat} (h : Pc w B v l) (hb : Below B w w') : Pc w' B v l := by
  obtain ⟨A, c, e, hs, r⟩ := h
  exact ⟨A, c, e, hs.below hb, r⟩
theorem Pc.more {w : World} {B B' : Nat} {v : Value} {l : List Nat} (h : Pc w B v l) (hB : B ≤ B') : Pc w B' v l := by
  obtain ⟨A, c, e, hs, r⟩ := h
  exact ⟨A, c, e, hs.more hB, r⟩
theorem Pc.nil (w : World) (B : Nat) : Pc w B (.slice none 0 0) [] := ⟨none, 0, rfl, fun h => absurd h (by simp), fun _ => rfl, Nat.le_refl _, by unfold maxLen; omega⟩
theorem Pc.keep {w w' : World} {v : Value} {l : List Nat} (h : Pc w w.heap.size v l) (hb : Below w.heap.size w w') : Pc w' w'.heap.size v l := (h.below hb).more hb.size
/-- '[]byte(s)' -/
theorem conv_str12 {w : World} {s : ByteArray} {l : List Nat} (T : Txt s l) (hl : l.length ≤ 1000000000) :
    ∃ c w', (convert 9 28 (.string s)).run Try.prog w = .ok (.slice (some ⟨w.heap.size, 0, none⟩) l.length c) w' ∧ Pc w' w'.heap.size (.slice (some ⟨w.heap.size, 0, none⟩) l.length c) l ∧ Below w.heap.size w w' := by
  refine ⟨grownCap w s.size 0 5, Lib.bytesWorld w 5 s, by rw [Lib.run_convert_string_bytes w _ _ 5 s Try.underlying9 Try.underlying28 Try.underlying5, T.size], ⟨_, _, rfl, ?_, (fun h => by cases h), ?_, ?_⟩, ?_⟩
  · intro hl
    refine ⟨_, 0, rfl, by rw [Lib.bytesWorld_size]; omega, fun i hi => ?_⟩
    rw [Nat.zero_add, Lib.bytesWorld_cell w _ s i (by rw [T.size]; exact hi)]
    have h := T.at_ i (by rw [T.size]; exact hi)
    rw [← h]
    have hi' : i < s.data.toList.length := by
      have e : s.data.toList.length = s.size := Array.length_toList
      rw [e, T.size]
      exact hi
    simp [List.getD, List.getElem?_eq_getElem hi']
    rfl
  · rw [← T.size]; exact grownCap_ge _ _ _ _
  · exact grownCap_le_maxLen _ _ _ _ (by rw [T.size]; unfold maxLen; omega)
  · exact ⟨by unfold Lib.bytesWorld World.freeze; split <;> rfl, by unfold Lib.bytesWorld World.freeze; split <;> rfl, by unfold Lib.bytesWorld World.freeze; split <;> rfl, by rw [Lib.bytesWorld_size]; omega, fun i hi => Lib.bytesWorld_at_old w _ s i hi⟩

theorem rprint12_any {t : Tn} (hlim : t.Lim) (hint : Bn.Ints t) (hnod : t.nodes ≤ 400) {w : World} {B : Nat} {vk vq : Value} (H : Tv w B t vk vq) :
    Calls Try.prog 10 #[tval t vk vq] w fun e w' => ∃ v, e = .returned (.tuple #[v, .int .i64 ((Bn.print t).2 : Int)]) ∧ Pc w' w'.heap.size v (Bn.print t).1 ∧ Below w.heap.size w w' := by
  obtain ⟨b, w1, hs, hal, hT, hb1⟩ := boxedT H
  have HT := Lib.hid hT
  have HB1 := Lib.hid hb1
  have hbw := hT.lt
  obtain ⟨c0, c1, c2, c3, c4⟩ := hT.cells
  have HCt := Lib.hid (fun W (h : Below w1.heap.size w1 W) => (HT.out.keep h).cells)
  have C1 := Lib.hid (rRight11_any hT.tv)
  have C2 := Lib.hid (fun W (h : Below w1.heap.size w1 W) => rbytes12_any (SizeOf.sizeOf t + 1) t (Nat.lt_succ_self _) hlim hint hnod (HT.out.keep h).tv)
  have hln : (Bn.ben t).length ≤ 3200000 := by have := Bn.ben_len t hlim hint; omega
  have HLn := Lib.hid hln
  have HBy := Lib.hid (Bn.ben_byte (SizeOf.sizeOf t + 1) t (Nat.lt_succ_self _))
  have HP1 : Hid (t.right 0 = 0 → Bn.print t = (Bn.ben t, 0)) := Lib.hid (fun h => by unfold Bn.print; rw [if_pos h])
  have HP2 : Hid (¬ t.right 0 = 0 → Bn.print t = ([], t.right 0)) := Lib.hid (fun h => by unfold Bn.print; rw [if_neg h])
  obtain ⟨Ak, ck, ek, _⟩ := hT.tv.keys
  obtain ⟨A, c, eq, _⟩ := hT.tv.kids
  subst ek eq
  obtain ⟨r, hr⟩ : ∃ r, Hid (t.right 0 = r) := ⟨_, rfl⟩
  rw [hr.out] at C1 HP1 HP2
  obtain ⟨X, hX⟩ : ∃ X, Hid (Bn.ben t = X) := ⟨_, rfl⟩
  rw [hX.out] at C2 HLn HBy HP1
  unfold tcells at hal
  unfold tval at C1 C2
  unfold tval
  clear hT H hb1 hln hlim hint hnod
  by_cases h0 : r = 0
  case neg =>
    rw [HP2.out h0]
    have q1 : ((r : Int) != 0) = true := by simp; omega
    have q2 : ((r : Int) == 0) = false := by simp; omega
    go_enter Try.func10, Try.ntmps10
    go_wp2_with fail
    refine (C1.out).mono ?_
    rintro e w2 ⟨rfl, hb2⟩
    have HB2 := Lib.hid (HB1.out.trans (hb2.mono (by omega)))
    clear hb2
    go_wp2_with fail
    go_ret2
    exact ⟨_, rfl, Pc.nil _ _, by first | (rw [hs]; exact HB2.out) | exact HB2.out⟩
  have HPe := Lib.hid (HP1.out h0)
  rw [HPe.out]
  subst h0
  clear HP1 HP2
  go_enter Try.func10, Try.ntmps10
  go_wp2_with fail
  refine (C1.out).mono ?_
  rintro e w2 ⟨rfl, hb2⟩
  have HB2 := Lib.hid (HB1.out.trans (hb2.mono (by omega)))
  have HC2 := Lib.hid hb2
  obtain ⟨d0, d1, d2, d3, d4⟩ := HCt.out w2 hb2
  clear hb2
  go_wp2_with fail
  refine (C2.out _ HC2.out).mono ?_
  rintro e w3 ⟨rfl, hb3⟩
  have HB3 := Lib.hid (HB2.out.trans (hb3.mono (by have := HB2.out.size; omega)))
  obtain ⟨cc, w4, hcv, hpc, hb4⟩ := conv_str12 (w := w3) (Txt.of HBy.out) (by have := HLn.out; omega)
  have HPc := Lib.hid hpc
  have HB4 := Lib.hid (HB3.out.trans (hb4.mono (by have := HB3.out.size; omega)))
  clear hb3 hb4 hpc
  go_wp2_with fail
  go_ret2
  exact ⟨_, rfl, HPc.out, by first | (rw [hs]; exact HB4.out) | exact HB4.out⟩
end Go.Proofs.Ytphanlkobkkgfaa
