/- Contract of annuletlaw06.awake. -/
import Derived.Test.YtigkgbknlclpgaaRdt
import Derived.Test.YtigkgbknlclpgaaBuf
namespace Go.Proofs.Ytigkgbknlclpgaa
open Go.RowKit
set_option linter.unusedVariables false

set_option maxRecDepth 100000 in
set_option maxHeartbeats 800000 in
theorem awake6_any (w : World) : Calls Try.prog 7 #[] w fun e w' => e = .returned (.bool true) ∧ Below w.heap.size w w' := by
  go_enter Try.func7, Try.ntmps7
  go_wp2_with fail
  refine (open_any (B := w.heap.size + 1) (p := [2, 97, 98, 1]) ⟨some ⟨w.heap.size, 0, none⟩, 4, rfl, sees_new w.heap.size [2, 97, 98, 1] _ _ rfl rfl, (fun h => by cases h), by simp, by unfold maxLen; omega⟩ (by simp) (by decide)).mono ?_
  rintro e w1 ⟨g, rfl, hg, hr, hb⟩
  have HR1 := Lib.hid hr
  have HB1 := Lib.hid (((Below.refl _ w).alloc (Nat.le_refl _) _).trans (hb.mono (by simp)))
  have hg1 : w.heap.size ≤ g := by simp at hg; omega
  clear hr hb hg
  go_wp2_with fail
  refine (rtext_any 5 (by omega) (by omega) HR1.out).mono ?_
  rintro e w2 ⟨rfl, hr, ho⟩
  rw [show Bm.text [2, 97, 98, 1] 0 5 = ([97, 98], [1], 0) by decide +kernel] at hr ⊢
  have HR2 := Lib.hid hr
  have HB2 := Lib.hid (HB1.out.trans (ho.below hg1 HB1.out.size))
  clear hr ho
  rw [show strOf ([97, 98], ([1] : List Nat), (0 : Int)).1 = ⟨#[97, 98]⟩ by rfl]
  go_wp2_with fail
  refine (rflag_any HR2.out).mono ?_
  rintro e w3 ⟨rfl, hr, ho⟩
  rw [show Bm.flag ([97, 98], ([1] : List Nat), (0 : Int)).2.1 ([97, 98], ([1] : List Nat), (0 : Int)).2.2 = (true, [], 0) by decide +kernel] at hr ⊢
  have HR3 := Lib.hid hr
  have HB3 := Lib.hid (HB2.out.trans (ho.below hg1 HB2.out.size))
  clear hr ho
  go_wp2_with fail
  refine (fix_any w3.heap.size _ [] 258 2 _ (by omega) (by omega) (by omega) (World.ownsRow_nil _ _ 5 1) (Nat.le_refl _) (by simp)).mono ?_
  rintro e w4 ⟨v4, rfl, ho4, hb4⟩
  have hcv4 := conv_own (dst := 9) Try.underlying22 Try.underlying5 Try.underlying9 ho4
  rw [show strOf ([] ++ Bm.fixI 258 2) = ⟨#[1, 2]⟩ by decide +kernel] at hcv4
  have HR4 := Lib.hid (HR3.out.below hb4 HR3.out.lt)
  have HB4 := Lib.hid (below_sum HB3.out hb4 (Nat.le_refl _))
  clear ho4 hb4
  go_wp2_with fail
  refine (text_any w4.heap.size _ [] (Txt.lit [97, 98]) (by simp) _ (World.ownsRow_nil _ _ 5 1) (Nat.le_refl _) (by simp)).mono ?_
  rintro e w5 ⟨v5, rfl, ho5, hb5⟩
  have hcv5 := conv_own (dst := 9) Try.underlying22 Try.underlying5 Try.underlying9 ho5
  rw [show strOf ([] ++ (Um.put (List.map UInt8.toNat [97, 98]).length ++ List.map UInt8.toNat [97, 98])) = ⟨#[2, 97, 98]⟩ by decide +kernel] at hcv5
  have HR5 := Lib.hid (HR4.out.below hb5 HR4.out.lt)
  have HB5 := Lib.hid (below_sum HB4.out hb5 (Nat.le_refl _))
  clear ho5 hb5
  go_wp2_with fail
  refine (rend_any HR5.out).mono ?_
  rintro e w6 ⟨rfl, rfl⟩
  rw [show Bm.fin (true, ([] : List Nat), (0 : Int)).2.1 (true, ([] : List Nat), (0 : Int)).2.2 = 0 by decide +kernel]
  go_wp2_with fail
  refine (rerr_nil _).mono ?_
  rintro e w6 ⟨rfl, rfl⟩
  go_wp2_with fail
  refine (rleft_nil _).mono ?_
  rintro e w6 ⟨rfl, rfl⟩
  go_wp2_with fail
  go_ret
  exact ⟨rfl, HB5.out⟩
end Go.Proofs.Ytigkgbknlclpgaa
