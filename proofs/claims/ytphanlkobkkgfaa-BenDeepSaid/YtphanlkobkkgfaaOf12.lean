/- What is read, as a value of any type; contracts of treeOf of layer 12, and of tree.List at nil. -/
import Derived.Test.YtphanlkobkkgfaaRt12
import Derived.Test.YtphanlkobkkgfaaRval12
import Derived.Test.YtphanlkobkkgfaaMk11
namespace Go.Proofs.Ytphanlkobkkgfaa
open Go.RowKit
set_option linter.unusedVariables false
set_option maxRecDepth 100000
set_option linter.unusedSimpArgs false

/-! ### the empty list -/
theorem clones_nil12 (w : World) : Calls Try.prog 66 #[.slice none 0 0] w fun e w' => e = .returned (.slice none 0 0) ∧ w' = w := by
  have q22 : ∀ (w : World) (a : Option Addr) (n c n' c' : Nat), (binOp .eql 22 (.slice a n c) (.slice none n' c')).run Try.prog w = .ok (.bool a.isNone) w := fun w a n c n' c' => Lib.run_eql_slice_nil w _ _ a n c n' c' Try.underlying22
  go_enter Try.func66, Try.ntmps66
  go_wp2_with fail
  go_ret
  exact ⟨rfl, rfl⟩
theorem clonet_nil12 (w : World) : Calls Try.prog 67 #[.slice none 0 0] w fun e w' => e = .returned (.slice none 0 0) ∧ w' = w := by
  have q22 : ∀ (w : World) (a : Option Addr) (n c n' c' : Nat), (binOp .eql 23 (.slice a n c) (.slice none n' c')).run Try.prog w = .ok (.bool a.isNone) w := fun w a n c n' c' => Lib.run_eql_slice_nil w _ _ a n c n' c' Try.underlying23
  go_enter Try.func67, Try.ntmps67
  go_wp2_with fail
  go_ret
  exact ⟨rfl, rfl⟩
theorem copy_nil12 (w : World) : Calls Try.prog 62 #[.agg #[.int .i64 3, .int .i64 0, .string ⟨#[]⟩, .slice none 0 0, .slice none 0 0]] w fun e w' => e = .returned (.agg #[.int .i64 3, .int .i64 0, .string ⟨#[]⟩, .slice none 0 0, .slice none 0 0]) ∧ Below w.heap.size w w' := by
  obtain ⟨b, w1, hs, hal, hX, hb1⟩ : ∃ b w1, w.heap.size = b ∧ w.alloc (.cells #[.int .i64 3, .int .i64 0, .string ⟨#[]⟩, .slice none 0 0, .slice none 0 0] 25) = w1 ∧ Whole w1 b 25 #[.int .i64 3, .int .i64 0, .string ⟨#[]⟩, .slice none 0 0, .slice none 0 0] ∧ Below b w w1 := ⟨_, _, rfl, rfl, Whole.made _ _ _, (Below.refl _ _).alloc (Nat.le_refl _) _⟩
  obtain ⟨g, w2, hg, hal2, hY, hb2, hs2⟩ := var_tree w1
  have hbg : b < g := by rw [← hg]; exact hX.lt
  have hX2 := hX.below hb2 hbg
  have hX3 := hX2.put 3 (.slice none 0 0)
  have hX4 := hX3.put 4 (.slice none 0 0)
  have hY4 := (hY.other (p := ⟨b, 3, none⟩) (by show g ≠ b; omega) (.slice none 0 0)).other (p := ⟨b, 4, none⟩) (by show g ≠ b; omega) (.slice none 0 0)
  have hB4 : Below b w ((w2.setCell ⟨b, 3, none⟩ (.slice none 0 0)).setCell ⟨b, 4, none⟩ (.slice none 0 0)) := ((hb1.trans (hb2.mono (by omega))).setCell (p := ⟨b, 3, none⟩) (Nat.le_refl _) _).setCell (p := ⟨b, 4, none⟩) (Nat.le_refl _) _
  have c3 := hX2.at_ 3
  have f3 := hX2.free 3
  have d4 := hX3.at_ 4
  have e4 := hX3.free 4
  have k0 := hX4.at_ 0
  have k1 := hX4.at_ 1
  have k2 := hX4.at_ 2
  have k3 := hX4.at_ 3
  have k4 := hX4.at_ 4
  simp at c3 d4 k0 k1 k2 k3 k4
  have HY4 := Lib.hid hY4
  have HB4 := Lib.hid hB4
  clear hX hY hX2 hX3 hX4 hY4 hB4 hb1 hb2
  go_enter Try.func62, Try.ntmps62
  go_wp2_with fail
  refine (clones_nil12 _).mono ?_
  rintro e w2 ⟨rfl, rfl⟩
  go_wp2_with fail
  refine (clonet_nil12 _).mono ?_
  rintro e w3 ⟨rfl, rfl⟩
  go_wp2_with fail
  go_loopw [16] (fun v wr => v = .int .i64 0 ∧ Hid (wr = (w2.setCell ⟨b, 3, none⟩ (.slice none 0 0)).setCell ⟨b, 4, none⟩ (.slice none 0 0))) (fun _ _ => 0)
  case atStart => exact ⟨rfl, Lib.hid rfl⟩
  case round =>
    obtain ⟨rfl, hw⟩ := hrel
    have hw' := hw.out
    subst hw'
    go_wp2_with (refine wpList_store_whole rfl rfl rfl rfl rfl HY4.out (treeI rfl) rfl (by simp [Value.oneCell']) ?_)
    refine bodyPost_ret (v := .agg #[.int .i64 3, .int .i64 0, .string ⟨#[]⟩, .slice none 0 0, .slice none 0 0]) ?_ rfl ⟨rfl, by first | exact below_row HB4.out (by omega) _ | (rw [hs]; exact below_row HB4.out (by omega) _)⟩
    exact results_tree rfl rfl (HY4.out.row _) rfl
theorem list_nil12 (w : World) : Calls Try.prog 50 #[.slice none 0 0] w fun e w' => e = .returned (.agg #[.int .i64 3, .int .i64 0, .string ⟨#[]⟩, .slice none 0 0, .slice none 0 0]) ∧ Below w.heap.size w w' := by
  obtain ⟨g, w2, hg, hal2, hY, hb2, hs2⟩ := var_tree w
  have HY := Lib.hid hY
  have HB := Lib.hid hb2
  have C := Lib.hid (copy_nil12 w2)
  have hgl : g < w2.heap.size := by omega
  clear hY hb2 hs2
  go_enter Try.func50, Try.ntmps50
  go_wp2_with fail
  refine (C.out).mono ?_
  rintro e w3 ⟨rfl, hb3⟩
  have HY3 := Lib.hid (HY.out.below hb3 hgl)
  have HB3 := Lib.hid (HB.out.trans (hb3.mono (by omega)))
  clear hb3
  go_wp2_with (refine wpList_store_whole rfl rfl rfl rfl rfl HY3.out (treeI rfl) rfl (by simp [Value.oneCell']) ?_)
  refine bodyPost_ret (v := .agg #[.int .i64 3, .int .i64 0, .string ⟨#[]⟩, .slice none 0 0, .slice none 0 0]) ?_ rfl ⟨rfl, by first | exact below_row HB3.out (Nat.le_refl _) _ | (rw [hg]; exact below_row HB3.out (Nat.le_refl _) _)⟩
  exact results_tree rfl rfl (HY3.out.row _) rfl

/-! ### values of any type -/
namespace Bn
/-- a tree, as value tells it; its blocks lie from lo on -/
def AnyT (lo : Nat) (t : Tn) (v : Value) (w : World) : Prop :=
  (∃ n : Int, t = .mk 1 n ⟨#[]⟩ [] [] ∧ v = .iface 2 (.int .i64 n) ∧ Nm.In n) ∨ (∃ s : ByteArray, t = .mk 2 0 s [] [] ∧ v = .iface 9 (.string s) ∧ s.size ≤ 1048576) ∨ (∃ vk vq, v = .iface 25 (tval t vk vq) ∧ Tp w (fun b => lo ≤ b) t vk vq)
/-- what value answers -/
def AnyV (g lo : Nat) (R : Rs Tn) (v : Value) (w' : World) : Prop :=
  (∃ e : Nat, R = .bad e ∧ v = .iface 29 (.int .i64 (e : Int))) ∨ (∃ (t : Tn) (r : List Nat), R = .ok t r ∧ Rb w' g r ∧ AnyT lo t v w')
end Bn
theorem asTE12 (v : Value) (W : World) : (Instr.typeAssert (.iface 29 v) 20 25 true).run Try.prog W = .ok (.tuple #[.agg #[.int .i64 0, .int .i64 0, .string ⟨#[]⟩, .slice none 0 0, .slice none 0 0], .bool false]) W := by kernel_rfl
theorem asEE12 (v : Value) (W : World) : (Instr.typeAssert (.iface 29 v) 20 29 true).run Try.prog W = .ok (.tuple #[v, .bool true]) W := by kernel_rfl
theorem asNS12 (v : Value) (W : World) : (Instr.typeAssert (.iface 9 v) 20 2 true).run Try.prog W = .ok (.tuple #[.int .i64 0, .bool false]) W := by kernel_rfl
theorem asNT12 (v : Value) (W : World) : (Instr.typeAssert (.iface 25 v) 20 2 true).run Try.prog W = .ok (.tuple #[.int .i64 0, .bool false]) W := by kernel_rfl
theorem asST12 (v : Value) (W : World) : (Instr.typeAssert (.iface 25 v) 20 9 true).run Try.prog W = .ok (.tuple #[.string ⟨#[]⟩, .bool false]) W := by kernel_rfl
theorem asTT12 (v : Value) (W : World) : (Instr.typeAssert (.iface 25 v) 20 25 true).run Try.prog W = .ok (.tuple #[v, .bool true]) W := by kernel_rfl
theorem treeof_bad (e : Nat) (w : World) :
    Calls Try.prog 19 #[.iface 29 (.int .i64 (e : Int))] w fun en w' => en = .returned (.tuple #[.agg #[.int .i64 0, .int .i64 0, .string ⟨#[]⟩, .slice none 0 0, .slice none 0 0], .int .i64 (e : Int)]) ∧ Below w.heap.size w w' := by
  obtain ⟨g, w2, hg, hal2, hY, hb2, hs2⟩ := var_tree w
  have HY := Lib.hid hY
  have HB := Lib.hid hb2
  have a1 := asNE12
  have a2 := asSE12
  have a3 := asTE12
  have a4 := asEE12
  clear hY hb2 hs2
  go_enter Try.func19, Try.ntmps19
  go_wp2_with (refine wpList_store_whole rfl rfl rfl rfl rfl HY.out (treeI rfl) rfl (by simp [Value.oneCell']) ?_)
  refine bodyPost_ret (v := .tuple #[.agg #[.int .i64 0, .int .i64 0, .string ⟨#[]⟩, .slice none 0 0, .slice none 0 0], .int .i64 (e : Int)]) ?_ rfl ⟨rfl, by first | exact below_row HB.out (Nat.le_refl _) _ | (rw [hg]; exact below_row HB.out (Nat.le_refl _) _)⟩
  exact results_tree2 rfl rfl rfl (HY.out.row _) rfl
theorem treeof_any {lo : Nat} {t : Tn} {v : Value} {w : World} (h : Bn.AnyT lo t v w) :
    Calls Try.prog 19 #[v] w fun en w' => ∃ vk vq, en = .returned (.tuple #[tval t vk vq, .int .i64 0]) ∧ Tp w' (fun b => lo ≤ b) t vk vq ∧ Below w.heap.size w w' := by
  obtain ⟨g, w2, hg, hal2, hY, hb2, hs2⟩ := var_tree w
  have hwg : w.heap.size ≤ g := by omega
  rcases h with ⟨n, rfl, rfl, hin⟩ | ⟨s, rfl, rfl, hsz⟩ | ⟨vk, vq, rfl, hT⟩
  · have HY := Lib.hid hY
    have HB := Lib.hid hb2
    have a4 := asNN12
    have C := Lib.hid (int11_any n w2)
    have HIn := Lib.hid hin
    unfold tval at C
    have hgl : g < w2.heap.size := by omega
    clear hY hb2 hs2 hin
    go_enter Try.func19, Try.ntmps19
    go_wp2_with fail
    refine (C.out).mono ?_
    rintro e w3 ⟨rfl, hb3⟩
    have HY3 := Lib.hid (HY.out.below hb3 hgl)
    have HB3 := Lib.hid (HB.out.trans (hb3.mono (by omega)))
    clear hb3
    go_wp2_with (refine wpList_store_whole rfl rfl rfl rfl rfl HY3.out (treeI rfl) rfl (by simp [Value.oneCell']) ?_)
    refine bodyPost_ret (v := .tuple #[tval (.mk 1 n ⟨#[]⟩ [] []) (.slice none 0 0) (.slice none 0 0), .int .i64 0]) ?_ rfl ⟨_, _, rfl, Tp.leaf _ _ (by omega) (by have := HIn.out; unfold Nm.In at this; omega) (by show (0 : Nat) ≤ maxLen; omega), by first | exact below_row HB3.out (Nat.le_refl _) _ | (rw [hg]; exact below_row HB3.out (Nat.le_refl _) _)⟩
    exact results_tree2 rfl rfl rfl (HY3.out.row _) rfl
  · have HY := Lib.hid hY
    have HB := Lib.hid hb2
    have a1 := asNS12
    have a4 := asSS12
    have C := Lib.hid (text11_any s w2)
    have HSz := Lib.hid hsz
    unfold tval at C
    have hgl : g < w2.heap.size := by omega
    clear hY hb2 hs2 hsz
    go_enter Try.func19, Try.ntmps19
    go_wp2_with fail
    refine (C.out).mono ?_
    rintro e w3 ⟨rfl, hb3⟩
    have HY3 := Lib.hid (HY.out.below hb3 hgl)
    have HB3 := Lib.hid (HB.out.trans (hb3.mono (by omega)))
    clear hb3
    go_wp2_with (refine wpList_store_whole rfl rfl rfl rfl rfl HY3.out (treeI rfl) rfl (by simp [Value.oneCell']) ?_)
    refine bodyPost_ret (v := .tuple #[tval (.mk 2 0 s [] []) (.slice none 0 0) (.slice none 0 0), .int .i64 0]) ?_ rfl ⟨_, _, rfl, Tp.leaf _ _ (by omega) (by omega) (by have := HSz.out; unfold maxLen; omega), by first | exact below_row HB3.out (Nat.le_refl _) _ | (rw [hg]; exact below_row HB3.out (Nat.le_refl _) _)⟩
    exact results_tree2 rfl rfl rfl (HY3.out.row _) rfl
  · obtain ⟨Ak, ck, rfl, _⟩ := hT.tv.keys
    obtain ⟨Aq, cq, rfl, _⟩ := hT.tv.kids
    obtain ⟨u, w3, hu, hal3, hU, hb3, hs3⟩ := var_tree w2
    obtain ⟨w4, hst⟩ : ∃ w4, w3.setRow u #[.int .i64 t.kind, .int .i64 t.n, .string t.s, .slice Ak t.keys.length ck, .slice Aq t.kids.length cq] = w4 := ⟨_, rfl⟩
    have hU4 : Whole w4 u 25 #[.int .i64 t.kind, .int .i64 t.n, .string t.s, .slice Ak t.keys.length ck, .slice Aq t.kids.length cq] := by rw [← hst]; exact hU.row _
    have hgu : g < u := by omega
    have HY4 : Hid (Whole w4 g 25 #[.int .i64 0, .int .i64 0, .string ⟨#[]⟩, .slice none 0 0, .slice none 0 0]) := Lib.hid (by rw [← hst]; exact (hY.below hb3 hgu).rowOther (by omega) _)
    have HB4 : Hid (Below w.heap.size w w4) := Lib.hid (by rw [← hst]; exact below_row ((hb2.mono hwg).trans (hb3.mono (by omega))) (by omega) _)
    have u0 := hU4.at_ 0
    have u1 := hU4.at_ 1
    have u2 := hU4.at_ 2
    have u3 := hU4.at_ 3
    have u4 := hU4.at_ 4
    simp at u0 u1 u2 u3 u4
    have HU := Lib.hid hU
    have HT := Lib.hid hT
    have a1 := asNT12
    have a2 := asST12
    have a3 := asTT12
    unfold tval
    clear hY hb2 hs2 hU hU4 hb3 hs3 hT
    go_enter Try.func19, Try.ntmps19
    go_wp2_with (first | (refine wpList_store_whole rfl rfl rfl rfl rfl HU.out (treeI rfl) rfl (by simp [Value.oneCell']) ?_; rw [hst]) | (refine wpList_store_whole rfl rfl rfl rfl rfl HY4.out (treeI rfl) rfl (by simp [Value.oneCell']) ?_))
    refine bodyPost_ret (v := .tuple #[.agg #[.int .i64 t.kind, .int .i64 t.n, .string t.s, .slice Ak t.keys.length ck, .slice Aq t.kids.length cq], .int .i64 0]) ?_ rfl ⟨_, _, rfl, ?_, by first | exact below_row HB4.out hwg _ | (rw [hg]; exact below_row HB4.out (Nat.le_refl _) _)⟩
    · exact results_tree2 rfl rfl rfl (HY4.out.row _) rfl
    · exact HT.out.keep (fun b p q => ⟨p, (below_row HB4.out hwg _).block b q⟩)
end Go.Proofs.Ytphanlkobkkgfaa
