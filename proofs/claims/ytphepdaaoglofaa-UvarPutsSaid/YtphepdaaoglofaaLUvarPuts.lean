/- The walk of the law UvarPuts: it answers true, and nothing that was there has turned. -/
import Derived.Test.YtphepdaaoglofaaRef1
import Derived.Test.YtphepdaaoglofaaAwake1
import Derived.Test.YtphepdaaoglofaaFrame
import Derived.Test.YtphepdaaoglofaaRegion
namespace Go.Proofs.Ytphepdaaoglofaa
open Go.RowKit
set_option linter.unusedVariables false

set_option maxRecDepth 100000 in
set_option maxHeartbeats 400000 in
theorem uvarPuts_walk (a : Option Addr) (len cap : Nat) (l : List Nat) (n : Int) (w : World) (h : Row .u8 w a len cap l) (wn : (Lit.int .u64 n).wf = true) :
    Calls Try.prog 3 #[.slice a len cap, .int .u64 n] w fun e w' => e = .returned (.bool true) ∧ Below w.heap.size w w' := by
  obtain ⟨hl, hs, _, hle, hm, hnull⟩ := h
  unfold maxLen at hm
  obtain ⟨h0, h1⟩ := bounds_u64 wn
  clear wn
  have hlen : len ≤ 9223372036854775807 := by omega
  by_cases h300 : 300 < len
  · go_enter Try.func3, Try.ntmps3
    go_wp2_with fail
    refine (awake_any _).mono ?_
    rintro e w1 ⟨rfl, hb⟩
    have HB := Lib.hid hb
    clear hb
    go_wp2_with fail
    go_ret
    exact ⟨rfl, HB.out⟩
  · have Hl := Lib.hid hl
    have Hs := Lib.hid hs
    clear hl hs
    go_enter Try.func3, Try.ntmps3
    go_wp2_with fail
    refine (putr_any _ _ h0 h1).mono ?_
    rintro e w1 ⟨v, rfl, hown, hbel⟩
    obtain ⟨A, c, rfl⟩ := own_shape hown
    have hown' := Sees.of_own hown
    have c1 : ∀ W, Below w1.heap.size w1 W → (convert 22 9 (.slice a len cap)).run Try.prog W = .ok (.string (strOf l)) W := fun W hW =>
      conv_sees Try.underlying22 Try.underlying5 Try.underlying9 len cap Hl.out ((Hs.out.below hbel).below (hW.mono hbel.size))
    have c2 : ∀ W, Below w1.heap.size w1 W → (convert 22 9 (.slice A (Um.put n.toNat).length c)).run Try.prog W = .ok (.string (strOf (Um.put n.toNat))) W := fun W hW =>
      conv_sees Try.underlying22 Try.underlying5 Try.underlying9 _ c rfl (hown'.below hW)
    have C1 := Lib.hid c1
    have C2 := Lib.hid c2
    clear c1 c2 hown
    have hp10 := Um.enc_le 9 n.toNat
    have hcat : ¬ 9223372036854775807 < (strOf l).size + (strOf (Um.put n.toNat)).size := by
      rw [strOf_size, strOf_size, Hl.out]
      have : (Um.put n.toNat).length ≤ 10 := hp10
      omega
    have hjoin := strOf_append l (Um.put n.toNat)
    clear hp10
    go_wp2_with fail
    refine wp_region_plan (S := fun W => (convert 22 9 (.slice a len cap)).run Try.prog W = .ok (.string (strOf l)) W ∧ (convert 22 9 (.slice A (Um.put n.toNat).length c)).run Try.prog W = .ok (.string (strOf (Um.put n.toNat))) W) [(1, true), (3, true), (6, true), (7, true), (8, true), (9, true), (10, true), (0, false), (2, false), (4, false), (5, false), (11, true), (12, true), (13, true), (15, true), (16, true), (14, false), (17, true), (18, true), (19, true), (20, false), (21, true), (22, true)] (by kernel_rfl) (by kernel_rfl) rfl (by kernel_rfl) (fun _ _ _ _ _ h => h) ⟨C1.out _ (Below.refl _ _).drew, C2.out _ (Below.refl _ _).drew⟩ ?_
    iterate 7
      refine along_take (v := ?_) rfl (by rfl) ?_ ?_
      rotate_left
      · intro W hW; go_simp; try with_reducible rfl
      simp only [Act.put, List.setIfInBounds_toArray, List.set_cons_zero, List.set_cons_succ]
    refine along_step rfl (fun K hK => ?_)
    go_simp
    refine hK.out _ _ ⟨C1.out _ (((Below.refl _ _).drew).alloc (by simp) _), C2.out _ (((Below.refl _ _).drew).alloc (by simp) _)⟩ ?_
    clear hK K
    try simp only [Act.put, List.setIfInBounds_toArray, List.set_cons_zero, List.set_cons_succ]
    have ho0 : (w1.alloc (.cells #[] 5)).drew.ownsRow w1.heap.size 5 1 (.slice (some ⟨w1.heap.size, 0, none⟩) 0 0) 0 [] := World.ownsRow_lit w1 #[] 0 (Nat.le_refl _) (by decide) rfl
    have hs1 : Sees .u8 (w1.alloc (.cells #[] 5)).drew w.heap.size a l := (Hs.out.below hbel).below (((Below.refl _ _).alloc hbel.size _).drew)
    refine along_step rfl (fun K hK => ?_)
    refine step_append_row byteT _ _ rfl rfl w1.heap.size _ 0 [] rfl ho0 len cap rfl Hl.out hnull hs1 (by omega) (by simp) ?_
    intro v2 w2 ho2 hg2
    rw [Nat.zero_add, List.nil_append, ← Hl.out] at ho2
    have hb2 : Below w1.heap.size w1 w2 := (((Below.refl _ _).alloc (Nat.le_refl _) _).drew).grown hg2 (by simp) (fun k hk => (ho0.lt k hk).1)
    refine hK.out _ _ ⟨C1.out _ hb2, C2.out _ hb2⟩ ?_
    clear hK K hg2 ho0 hs1
    try simp only [Act.put, List.setIfInBounds_toArray, List.set_cons_zero, List.set_cons_succ]
    refine along_step rfl (fun K hK => ?_)
    go_simp
    refine (put_any w1.heap.size v2 l n w2 h0 h1 ho2 hb2.size (by rw [Hl.out]; omega)).mono ?_
    rintro e w3 ⟨v3, rfl, ho3, hb3⟩
    have hb13 : Below w1.heap.size w1 w3 := hb2.trans hb3
    have hcv := conv_own (dst := 9) Try.underlying22 Try.underlying5 Try.underlying9 ho3
    refine hK.out _ _ ⟨C1.out _ hb13, C2.out _ hb13⟩ ?_
    clear hK K ho2 hb2 hb3 ho3
    refine along_step rfl (fun K hK => ?_)
    go_simp
    refine hK.out _ _ ⟨C1.out _ hb13, C2.out _ hb13⟩ ?_
    clear hK K hcv
    iterate 5
      refine along_take (v := ?_) rfl (by rfl) ?_ ?_
      rotate_left
      · intro W hW; go_simp; try with_reducible rfl
      simp only [Act.put, List.setIfInBounds_toArray, List.set_cons_zero, List.set_cons_succ]
    refine along_step rfl (fun K hK => ?_)
    go_simp
    refine (size_any _ _ h0 h1).mono ?_
    rintro e w4 ⟨rfl, rfl⟩
    refine hK.out _ _ ⟨C1.out _ hb13, C2.out _ hb13⟩ ?_
    clear hK K
    iterate 3
      refine along_take (v := ?_) rfl (by rfl) ?_ ?_
      rotate_left
      · intro W hW; go_simp; try with_reducible rfl
      simp only [Act.put, List.setIfInBounds_toArray, List.set_cons_zero, List.set_cons_succ]
    refine along_step rfl (fun K hK => ?_)
    go_simp
    refine (awake_any _).mono ?_
    rintro e w4 ⟨rfl, hb⟩
    have hb14 : Below w1.heap.size w1 w4 := hb13.trans (hb.mono hb13.size)
    refine hK.out _ _ ⟨C1.out _ hb14, C2.out _ hb14⟩ ?_
    clear hK K
    iterate 2
      refine along_take (v := ?_) rfl (by rfl) ?_ ?_
      rotate_left
      · intro W hW; go_simp; try with_reducible rfl
      simp only [Act.put, List.setIfInBounds_toArray, List.set_cons_zero, List.set_cons_succ]
    refine along_done ?_
    have HB := Lib.hid (hbel.trans (hb14.mono hbel.size))
    clear hb14 hb13 hb hbel
    go_wp2_with fail
    go_ret
    exact ⟨rfl, HB.out⟩
end Go.Proofs.Ytphepdaaoglofaa
