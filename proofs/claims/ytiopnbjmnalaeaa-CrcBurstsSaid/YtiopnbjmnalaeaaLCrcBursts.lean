/- The walk of the law CrcBursts: it answers true, and nothing that was there has turned. -/
import Derived.Test.YtiopnbjmnalaeaaAwake2
import Derived.Test.YtiopnbjmnalaeaaFrame
import Derived.Test.YtiopnbjmnalaeaaRegion
namespace Go.Proofs.Ytiopnbjmnalaeaa
open Go.RowKit
set_option linter.unusedVariables false

theorem toList_inj {a b : ByteArray} (h : a.toList = b.toList) : a = b := by
  rw [ByteArray.toList_eq, ByteArray.toList_eq] at h
  apply ByteArray.ext
  exact Array.toList_inj.1 h
theorem strOf_inj {a b : List Nat} (ha : ∀ x ∈ a, x < 256) (hb : ∀ x ∈ b, x < 256) (h : strOf a = strOf b) : a = b := by
  unfold strOf at h
  injection h with h
  have h1 : a.map UInt8.ofNat = b.map UInt8.ofNat := by simpa using h
  have h2 := congrArg (List.map UInt8.toNat) h1
  have e : ∀ l : List Nat, (∀ x ∈ l, x < 256) → (l.map UInt8.ofNat).map UInt8.toNat = l := by
    intro l hl
    rw [List.map_map]
    conv => rhs; rw [← List.map_id l]
    refine List.map_congr_left fun x hx => ?_
    simp [UInt8.toNat_ofNat', Nat.mod_eq_of_lt (hl x hx)]
  rwa [e a ha, e b hb] at h2

set_option maxRecDepth 100000 in
set_option maxHeartbeats 400000 in
theorem crcBursts_walk (a : Option Addr) (len cap : Nat) (l : List Nat) (p m : Int) (w : World) (h : Row .u8 w a len cap l) (wp : (Lit.int .i64 p).wf = true) (wm : (Lit.int .u32 m).wf = true) :
    Calls Try.prog 7 #[.slice a len cap, .int .i64 p, .int .u32 m] w fun e w' => e = .returned (.bool true) ∧ Below w.heap.size w w' := by
  have hb := h.byte
  obtain ⟨hl, hs, _, hle, hmx, _⟩ := h
  unfold maxLen at hmx
  obtain ⟨p0, p1⟩ := bounds_i64 wp
  obtain ⟨m0, m1⟩ := bounds_u32 wm
  clear wp wm
  obtain ⟨m, rfl⟩ := Int.eq_ofNat_of_zero_le m0
  have hlen : len ≤ 9223372036854775807 := by omega
  by_cases h600 : 600 < len
  · go_enter Try.func7, Try.ntmps7
    go_wp2_with fail
    refine (awake2_any _).mono ?_
    rintro e w1 ⟨rfl, hb⟩
    have HB := Lib.hid hb
    clear hb
    go_wp2_with fail
    go_ret
    exact ⟨rfl, HB.out⟩
  · have C0 := Lib.hid (flip_any w.heap.size a l len cap p m w hl (by omega) hs hb (Nat.le_refl _) p0 p1 (by omega))
    have hFb := Cm.flip_byte l p m hb
    have hFl := (Cm.flip_length l p m).trans hl
    have hburst : ∃ e, ((Cm.sum (Cm.flip l p m) : Int) == (Cm.sum l : Int)) = e ∧ ((strOf (Cm.flip l p m)).toList == (strOf l).toList) = e := by
      by_cases e : Cm.flip l p m = l
      · exact ⟨true, by rw [e]; simp, by rw [e]; simp⟩
      · refine ⟨false, ?_, ?_⟩
        · have h1 : ¬ Cm.sum (Cm.flip l p m) = Cm.sum l := fun h => e (Cm.burst l p m hb (by omega) h)
          simp; omega
        · have h1 : ¬ (strOf (Cm.flip l p m)).toList = (strOf l).toList := fun h => e (strOf_inj hFb hb (toList_inj h))
          simpa using h1
    have Hl := Lib.hid hl
    have Hs := Lib.hid hs
    have Hb := Lib.hid hb
    have HFb := Lib.hid hFb
    have HFl := Lib.hid hFl
    have Hburst := Lib.hid hburst
    clear hl hs hb hFb hFl hburst
    go_enter Try.func7, Try.ntmps7
    go_wp2_with fail
    refine C0.out.mono ?_
    rintro e w1 ⟨g, rfl, hg, hI, hb1⟩
    rw [HFl.out]
    have Hb1 := Lib.hid hb1
    have HI := Lib.hid hI
    have c1 : Hid (∀ W, Below w1.heap.size w1 W → (convert 22 9 (.slice a len cap)).run Try.prog W = .ok (.string (strOf l)) W) := fun W hW =>
      conv_sees Try.underlying22 Try.underlying5 Try.underlying9 len cap Hl.out ((Hs.out.below Hb1.out).below (hW.mono Hb1.out.size))
    have c2 : Hid (∀ W, Below w1.heap.size w1 W → (convert 22 9 (.slice (some ⟨g, 0, none⟩) len len)).run Try.prog W = .ok (.string (strOf (Cm.flip l p m))) W) := fun W hW =>
      conv_sees Try.underlying22 Try.underlying5 Try.underlying9 len len HFl.out (HI.out.below hW HI.out.lt).sees
    have D1 := Lib.hid (fun W (h : Below w1.heap.size w1 W) => sum_any _ (some ⟨g, 0, none⟩) (Cm.flip l p m) len len W HFl.out hlen (HI.out.below h HI.out.lt).sees HFb.out)
    have D2 := Lib.hid (fun W (h : Below w1.heap.size w1 W) => sum_any _ a l len cap W Hl.out hlen ((Hs.out.below Hb1.out).below (h.mono Hb1.out.size)) Hb.out)
    clear hb1 hI
    obtain ⟨F, HF⟩ : ∃ F, Hid (Cm.flip l p m = F) := ⟨_, rfl⟩
    rw [HF.out] at c2 D1 Hburst
    clear HFb HFl HI C0
    obtain ⟨eB, hsum, hstr⟩ := Hburst.out
    clear Hburst
    go_wp2_with fail
    refine wp_region_plan (S := fun W => Below w1.heap.size w1 W ∧ (convert 22 9 (.slice a len cap)).run Try.prog W = .ok (.string (strOf l)) W ∧ (convert 22 9 (.slice (some ⟨g, 0, none⟩) len len)).run Try.prog W = .ok (.string (strOf F)) W) [(0, true), (2, true), (5, true), (6, true), (7, true), (8, true), (9, true), (1, false), (3, false), (4, true), (10, true), (11, true), (12, false), (13, true), (14, true)] (by kernel_rfl) (by kernel_rfl) rfl (by kernel_rfl) (fun _ _ _ _ _ h => h) ⟨(Below.refl _ _).drew, c1.out _ (Below.refl _ _).drew, c2.out _ (Below.refl _ _).drew⟩ ?_
    iterate 7
      refine along_take (v := ?_) rfl (by rfl) ?_ ?_
      rotate_left
      · intro W hW
        obtain ⟨_, hW1, hW2⟩ := hW
        go_simp
        try with_reducible rfl
      simp only [Act.put, List.setIfInBounds_toArray, List.set_cons_zero, List.set_cons_succ]
    refine along_step rfl (fun K hK => ?_)
    go_simp
    refine (D1.out _ (Below.refl _ _).drew).mono ?_
    rintro e w2 ⟨rfl, rfl⟩
    refine hK.out _ _ ⟨(Below.refl _ _).drew, c1.out _ (Below.refl _ _).drew, c2.out _ (Below.refl _ _).drew⟩ ?_
    clear hK K
    refine along_step rfl (fun K hK => ?_)
    go_simp
    refine (D2.out _ (Below.refl _ _).drew).mono ?_
    rintro e w2 ⟨rfl, rfl⟩
    refine hK.out _ _ ⟨(Below.refl _ _).drew, c1.out _ (Below.refl _ _).drew, c2.out _ (Below.refl _ _).drew⟩ ?_
    clear hK K
    iterate 3
      refine along_take (v := ?_) rfl (by rfl) ?_ ?_
      rotate_left
      · intro W hW; go_simp; try with_reducible rfl
      simp only [Act.put, List.setIfInBounds_toArray, List.set_cons_zero, List.set_cons_succ]
    refine along_step rfl (fun K hK => ?_)
    go_simp
    refine (awake2_any _).mono ?_
    rintro e w2 ⟨rfl, hb2⟩
    have hb2' : Below w1.heap.size w1 w2 := (Below.refl _ _).drew.trans hb2
    refine hK.out _ _ ⟨hb2', c1.out _ hb2', c2.out _ hb2'⟩ ?_
    clear hK K
    iterate 2
      refine along_take (v := ?_) rfl (by rfl) ?_ ?_
      rotate_left
      · intro W hW; go_simp; try with_reducible rfl
      simp only [Act.put, List.setIfInBounds_toArray, List.set_cons_zero, List.set_cons_succ]
    refine along_done ?_
    have HB := Lib.hid (Hb1.out.trans (hb2'.mono Hb1.out.size))
    clear hb2' hb2
    go_wp2_with fail
    go_ret
    exact ⟨rfl, HB.out⟩
end Go.Proofs.Ytiopnbjmnalaeaa
