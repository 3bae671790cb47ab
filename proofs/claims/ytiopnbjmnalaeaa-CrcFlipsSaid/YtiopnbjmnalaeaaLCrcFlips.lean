/- The walk of the law CrcFlips: it answers true, and nothing that was there has turned. -/
import Derived.Test.YtiopnbjmnalaeaaRef2
import Derived.Test.YtiopnbjmnalaeaaAwake2
import Derived.Test.YtiopnbjmnalaeaaFrame
import Derived.Test.YtiopnbjmnalaeaaRegion
namespace Go.Proofs.Ytiopnbjmnalaeaa
open Go.RowKit
set_option linter.unusedVariables false

set_option maxRecDepth 100000 in
set_option maxHeartbeats 1000000 in
theorem crcFlips_walk (a : Option Addr) (len cap : Nat) (l : List Nat) (p m : Int) (w : World) (h : Row .u8 w a len cap l) (wp : (Lit.int .i64 p).wf = true) (wm : (Lit.int .u32 m).wf = true) :
    Calls Try.prog 6 #[.slice a len cap, .int .i64 p, .int .u32 m] w fun e w' => e = .returned (.bool true) ∧ Below w.heap.size w w' := by
  have hb := h.byte
  obtain ⟨hl, hs, _, hle, hmx, _⟩ := h
  unfold maxLen at hmx
  obtain ⟨p0, p1⟩ := bounds_i64 wp
  obtain ⟨m0, m1⟩ := bounds_u32 wm
  clear wp wm
  obtain ⟨m, rfl⟩ := Int.eq_ofNat_of_zero_le m0
  have hlen : len ≤ 9223372036854775807 := by omega
  by_cases h300 : 300 < len
  · go_enter Try.func6, Try.ntmps6
    go_wp2_with fail
    refine (awake2_any _).mono ?_
    rintro e w1 ⟨rfl, hb⟩
    have HB := Lib.hid hb
    clear hb
    go_wp2_with fail
    go_ret
    exact ⟨rfl, HB.out⟩
  · have C0 := Lib.hid (refFlip_any w.heap.size a l len cap p m w hl (by omega) hs hb (Nat.le_refl _) p0 p1 (by omega))
    have C1 := Lib.hid (fun (B : Nat) (A : Option Addr) (l' : List Nat) (c : Nat) (W : World) (h1 : l'.length = len) (h2 : Sees .u8 W B A l') (h3 : ∀ x ∈ l', x < 256) (h4 : B ≤ W.heap.size) => flip_any B A l' len c p m W h1 (by omega) h2 h3 h4 p0 p1 (by omega))
    have HFb := Lib.hid (Cm.flip_byte l p m hb)
    have HFl := Lib.hid ((Cm.flip_length l p m).trans hl)
    have HFF := Lib.hid (Cm.flip_flip l p m)
    have Hl := Lib.hid hl
    have Hs := Lib.hid hs
    have Hb := Lib.hid hb
    clear hl hs hb
    go_enter Try.func6, Try.ntmps6
    go_wp2_with fail
    refine C0.out.mono ?_
    rintro e w1 ⟨g, many, rfl, hg, hI, hb1⟩
    rw [HFl.out]
    have Hb1 := Lib.hid hb1
    have HI := Lib.hid hI
    have c1 : Hid (∀ W, Below w1.heap.size w1 W → (convert 22 9 (.slice a len cap)).run Try.prog W = .ok (.string (strOf l)) W) := fun W hW =>
      conv_sees Try.underlying22 Try.underlying5 Try.underlying9 len cap Hl.out ((Hs.out.below Hb1.out).below (hW.mono Hb1.out.size))
    have c2 : Hid (∀ W, Below w1.heap.size w1 W → (convert 22 9 (.slice (some ⟨g, 0, none⟩) len len)).run Try.prog W = .ok (.string (strOf (Cm.flip l p m))) W) := fun W hW =>
      conv_sees Try.underlying22 Try.underlying5 Try.underlying9 len len HFl.out (HI.out.below hW HI.out.lt).sees
    have D1 := Lib.hid (fun W (h : Below w1.heap.size w1 W) => C1.out w.heap.size a l cap W Hl.out ((Hs.out.below Hb1.out).below (h.mono Hb1.out.size)) Hb.out (Nat.le_trans Hb1.out.size h.size))
    clear hb1 hI
    go_wp2_with fail
    refine wp_region_plan (S := fun W => Below w1.heap.size w1 W ∧ (convert 22 9 (.slice a len cap)).run Try.prog W = .ok (.string (strOf l)) W ∧ (convert 22 9 (.slice (some ⟨g, 0, none⟩) len len)).run Try.prog W = .ok (.string (strOf (Cm.flip l p m))) W) [(0, true), (1, true), (2, true), (5, true), (6, true), (3, false), (4, false), (7, true), (8, true), (9, true), (10, true), (11, true), (13, true), (14, true), (17, true), (18, true), (12, false), (15, false), (16, false), (19, true), (20, true), (21, true), (22, false), (23, true), (24, true)] (by kernel_rfl) (by kernel_rfl) rfl (by kernel_rfl) (fun _ _ _ _ _ h => h) ⟨(Below.refl _ _).drew, c1.out _ (Below.refl _ _).drew, c2.out _ (Below.refl _ _).drew⟩ ?_
    iterate 5
      refine along_take (v := ?_) rfl (by rfl) ?_ ?_
      rotate_left
      · intro W hW
        obtain ⟨_, hW1, hW2⟩ := hW
        go_simp
        try with_reducible rfl
      simp only [Act.put, List.setIfInBounds_toArray, List.set_cons_zero, List.set_cons_succ]
    refine along_step rfl (fun K hK => ?_)
    go_simp
    refine (D1.out _ (Below.refl _ _).drew).mono ?_
    rintro e w2 ⟨g2, rfl, hg2, hI2, hb2⟩
    have hb2' : Below w1.heap.size w1 w2 := (Below.refl _ _).drew.trans hb2
    rw [HFl.out]
    have hcv := conv_sees (dst := 9) Try.underlying22 Try.underlying5 Try.underlying9 len len HFl.out hI2.sees
    refine hK.out _ _ ⟨hb2', c1.out _ hb2', c2.out _ hb2'⟩ ?_
    clear hK K hb2 hI2
    refine along_step rfl (fun K hK => ?_)
    go_simp
    refine hK.out _ _ ⟨hb2', c1.out _ hb2', c2.out _ hb2'⟩ ?_
    clear hK K hcv
    iterate 9
      refine along_take (v := ?_) rfl (by rfl) ?_ ?_
      rotate_left
      · intro W hW
        obtain ⟨_, hW1, hW2⟩ := hW
        go_simp
        try with_reducible rfl
      simp only [Act.put, List.setIfInBounds_toArray, List.set_cons_zero, List.set_cons_succ]
    refine along_step rfl (fun K hK => ?_)
    go_simp
    refine (D1.out _ hb2').mono ?_
    rintro e w3 ⟨g3, rfl, hg3, hI3, hb3⟩
    have hb3' : Below w1.heap.size w1 w3 := hb2'.trans (hb3.mono hb2'.size)
    rw [HFl.out]
    have D2 := C1.out _ (some ⟨g3, 0, none⟩) (Cm.flip l p m) len w3 HFl.out hI3.sees HFb.out (by have := hI3.lt; omega)
    rw [HFF.out] at D2
    refine hK.out _ _ ⟨hb3', c1.out _ hb3', c2.out _ hb3'⟩ ?_
    clear hK K hb3 hI3 hb2'
    refine along_step rfl (fun K hK => ?_)
    go_simp
    refine D2.mono ?_
    rintro e w4 ⟨g4, rfl, hg4, hI4, hb4⟩
    have hb4' : Below w1.heap.size w1 w4 := hb3'.trans (hb4.mono hb3'.size)
    rw [Hl.out]
    have hcv := conv_sees (dst := 9) Try.underlying22 Try.underlying5 Try.underlying9 len len Hl.out hI4.sees
    refine hK.out _ _ ⟨hb4', c1.out _ hb4', c2.out _ hb4'⟩ ?_
    clear hK K hb4 hI4 hb3' D2
    refine along_step rfl (fun K hK => ?_)
    go_simp
    refine hK.out _ _ ⟨hb4', c1.out _ hb4', c2.out _ hb4'⟩ ?_
    clear hK K hcv
    iterate 3
      refine along_take (v := ?_) rfl (by rfl) ?_ ?_
      rotate_left
      · intro W hW; go_simp; try with_reducible rfl
      simp only [Act.put, List.setIfInBounds_toArray, List.set_cons_zero, List.set_cons_succ]
    refine along_step rfl (fun K hK => ?_)
    go_simp
    refine (awake2_any _).mono ?_
    rintro e w5 ⟨rfl, hb5⟩
    have hb5' : Below w1.heap.size w1 w5 := hb4'.trans (hb5.mono hb4'.size)
    refine hK.out _ _ ⟨hb5', c1.out _ hb5', c2.out _ hb5'⟩ ?_
    clear hK K
    iterate 2
      refine along_take (v := ?_) rfl (by rfl) ?_ ?_
      rotate_left
      · intro W hW; go_simp; try with_reducible rfl
      simp only [Act.put, List.setIfInBounds_toArray, List.set_cons_zero, List.set_cons_succ]
    refine along_done ?_
    have HB := Lib.hid (Hb1.out.trans (hb5'.mono Hb1.out.size))
    clear hb5' hb5 hb4'
    go_wp2_with fail
    go_ret
    exact ⟨rfl, HB.out⟩
end Go.Proofs.Ytiopnbjmnalaeaa
