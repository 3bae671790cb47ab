/- Contracts of utf.isStray, isReplaced, Valid, Count, Clip. -/
import Derived.Test.YtpfeccbnkgnioaaDoorDec
import Derived.Lib.OthersKept
namespace Go.Proofs.YtpfeccbnkgnioaaDoor
open Go.RowKit
set_option linter.unusedVariables false

theorem three_txt : Txt ⟨#[239, 191, 189]⟩ [239, 191, 189] := ⟨rfl, by decide⟩

set_option maxRecDepth 100000 in
set_option maxHeartbeats 400000 in
theorem isStray_any {s : ByteArray} {l : List Nat} (T : Txt s l) (i : Nat) (hi : i < l.length) (hl : l.length ≤ 1000000000000) (w : World) :
    Calls Tryd.prog 78 #[.string s, .int .i64 (i : Int), .int .i32 ((Utf8.decode s i).1 : Int)] w fun e w' => e = .returned (.bool (decide (Tm.wid (l.drop i) = 0))) ∧ w' = w := by
  have hst := Tm.decode_stray T hi
  have hsz := T.size
  have hle := decode_le s i
  obtain ⟨d, Hd⟩ : ∃ d, Hid ((Utf8.decode s i).1 = d) := ⟨_, rfl⟩
  rw [Hd.out] at hst hle ⊢
  by_cases h3 : i + 3 ≤ l.length
  · have hq := (T.cut i (i + 3)).eql three_txt
    rw [Nat.add_sub_cancel_left] at hq
    have Hst := Lib.hid hst
    clear hst
    by_cases hd : d = 65533
    · subst hd
      have Hfin : Hid ((!decide ((l.drop i).take 3 = [239, 191, 189])) = decide (Tm.wid (l.drop i) = 0)) := Lib.hid (by
        rw [Bool.eq_iff_iff, decide_eq_true_iff, ← Hst.out]; simp)
      go_enter Tryd.func78, Tryd.ntmps78
      go_wp2_with fail
      go_ret
      rw [← Hfin.out]
      simp_all
    · have hne : ¬ (d : Int) = 65533 := by omega
      have Hfin : Hid (false = decide (Tm.wid (l.drop i) = 0)) := Lib.hid (by
        symm; rw [decide_eq_false_iff_not, ← Hst.out]; intro h; exact hd h.1)
      go_enter Tryd.func78, Tryd.ntmps78
      go_wp2_with fail
      go_ret
      rw [← Hfin.out]
      exact ⟨rfl, rfl⟩
  · have hq := (T.cut i l.length).eql three_txt
    rw [← hsz] at hq
    have Hst := Lib.hid hst
    clear hst
    by_cases hd : d = 65533
    · subst hd
      have Hfin : Hid ((!decide ((l.drop i).take (s.size - i) = [239, 191, 189])) = decide (Tm.wid (l.drop i) = 0)) := Lib.hid (by
        have h1 : (l.drop i).length < 3 := by rw [List.length_drop]; omega
        rw [Bool.eq_iff_iff, decide_eq_true_iff, ← Hst.out]
        have k1 : (l.drop i).take (s.size - i) ≠ [239, 191, 189] := by intro h; have := congrArg List.length h; rw [List.length_take] at this; simp at this; omega
        have k2 : (l.drop i).take 3 ≠ [239, 191, 189] := by intro h; have := congrArg List.length h; rw [List.length_take] at this; simp at this; omega
        simp [k1, k2])
      go_enter Tryd.func78, Tryd.ntmps78
      go_wp2_with fail
      go_ret
      rw [← Hfin.out]
      simp_all
    · have hne : ¬ (d : Int) = 65533 := by omega
      have Hfin : Hid (false = decide (Tm.wid (l.drop i) = 0)) := Lib.hid (by
        symm; rw [decide_eq_false_iff_not, ← Hst.out]; intro h; exact hd h.1)
      go_enter Tryd.func78, Tryd.ntmps78
      go_wp2_with fail
      go_ret
      rw [← Hfin.out]
      exact ⟨rfl, rfl⟩

theorem below_iter (w : World) (s : ByteArray) (pos : Nat) : Below w.heap.size w (w.iter s pos) := (Below.refl _ w).alloc (Nat.le_refl _) _

set_option maxRecDepth 100000 in
set_option maxHeartbeats 400000 in
theorem valid_any {s : ByteArray} {l : List Nat} (T : Txt s l) (hl : l.length ≤ 1000000000000) (w : World) :
    Calls Tryd.prog 67 #[.string s] w fun e w' => e = .returned (.bool (Tm.valid l)) ∧ Below w.heap.size w w' := by
  have hsz := T.size
  go_enter Tryd.func67, Tryd.ntmps67
  go_wp2_with fail
  go_loopw [] (fun wr => ∃ (pos : Nat), pos ≤ l.length ∧ wr = w.iter s pos ∧ Hid (Tm.valid l = Tm.valid (l.drop pos))) (fun wr => s.size - wr.iterPos w.heap.size)
  case atStart => exact ⟨0, by omega, rfl, Lib.hid (by simp)⟩
  case round =>
    obtain ⟨pos, hpos, rfl, HV⟩ := hrel
    by_cases hp : pos < l.length
    · have hnx : ∀ ty, (Instr.next (.pointer (some ⟨w.heap.size, 0, none⟩)) true ty).run Tryd.prog (w.iter s pos) = _ := fun ty => run_next_any w s pos ty (by omega)
      have hd := Tm.decode_step T hp
      have hs1 := Tm.step_pos (l.drop pos)
      have hs2 := Tm.step_le (Tm.drop_ne hp)
      rw [List.length_drop] at hs2
      have hvs := Tm.valid_step (Tm.drop_ne hp)
      rw [List.drop_drop] at hvs
      rw [hd] at hnx
      have C := Lib.hid (fun W => isStray_any T pos hp hl W)
      obtain ⟨d, Hd⟩ : ∃ d, Hid ((Utf8.decode s pos).1 = d) := ⟨_, rfl⟩
      rw [Hd.out] at hnx C
      have Hvs := Lib.hid hvs
      clear hvs hd
      generalize Tm.step (l.drop pos) = k at *
      by_cases hw : Tm.wid (l.drop pos) = 0
      · go_wp2_with fail
        refine (C.out _).mono ?_
        rintro e w1 ⟨rfl, rfl⟩
        rw [decide_eq_true hw]
        go_wp2_with fail
        go_ret
        refine ⟨ret_bool ?_, below_iter _ _ _⟩
        rw [HV.out, Hvs.out]
        simp [hw]
      · go_wp2_with fail
        refine (C.out _).mono ?_
        rintro e w1 ⟨rfl, rfl⟩
        rw [decide_eq_false hw]
        go_wp2_with fail
        go_roundw
        case rel => exact ⟨pos + k, by omega, rfl, Lib.hid (by rw [HV.out, Hvs.out]; simp [hw])⟩
        case measure => simp; omega
    · have hnx : ∀ ty, (Instr.next (.pointer (some ⟨w.heap.size, 0, none⟩)) true ty).run Tryd.prog (w.iter s pos) = _ := fun ty => run_next_end w s pos ty (by omega)
      go_wp2_with fail
      go_ret
      refine ⟨ret_bool ?_, below_iter _ _ _⟩
      rw [HV.out, List.drop_eq_nil_of_le (by omega)]
      rfl

set_option maxRecDepth 100000 in
set_option maxHeartbeats 400000 in
theorem count_any {s : ByteArray} {l : List Nat} (T : Txt s l) (hl : l.length ≤ 1000000000000) (w : World) :
    Calls Tryd.prog 68 #[.string s] w fun e w' => e = .returned (.int .i64 ((Tm.parts l).length : Int)) ∧ Below w.heap.size w w' := by
  have hsz := T.size
  go_enter Tryd.func68, Tryd.ntmps68
  go_wp2_with fail
  go_loopw [3] (fun v wr => ∃ (pos n : Nat), pos ≤ l.length ∧ n ≤ pos ∧ v = .int .i64 n ∧ wr = w.iter s pos ∧ Hid ((Tm.parts l).length = n + (Tm.parts (l.drop pos)).length)) (fun _ wr => s.size - wr.iterPos w.heap.size)
  case atStart => exact ⟨0, 0, by omega, by omega, rfl, rfl, Lib.hid (by simp)⟩
  case round =>
    obtain ⟨pos, n, hpos, hn, rfl, rfl, HV⟩ := hrel
    by_cases hp : pos < l.length
    · have hnx : ∀ ty, (Instr.next (.pointer (some ⟨w.heap.size, 0, none⟩)) true ty).run Tryd.prog (w.iter s pos) = _ := fun ty => run_next_any w s pos ty (by omega)
      have hd := Tm.decode_step T hp
      have hs1 := Tm.step_pos (l.drop pos)
      have hs2 := Tm.step_le (Tm.drop_ne hp)
      rw [List.length_drop] at hs2
      have hvs := Tm.parts_step (Tm.drop_ne hp)
      rw [List.drop_drop] at hvs
      rw [hd] at hnx
      have Hvs := Lib.hid hvs
      clear hvs hd
      generalize Tm.step (l.drop pos) = k at *
      go_wp2_with fail
      go_roundw
      case rel => exact ⟨pos + k, n + 1, by omega, by omega, by go_num, rfl, Lib.hid (by rw [HV.out, Hvs.out, List.length_cons]; omega)⟩
      case measure => simp; omega
    · have hnx : ∀ ty, (Instr.next (.pointer (some ⟨w.heap.size, 0, none⟩)) true ty).run Tryd.prog (w.iter s pos) = _ := fun ty => run_next_end w s pos ty (by omega)
      go_wp2_with fail
      go_ret
      refine ⟨ret_int ?_, below_iter _ _ _⟩
      rw [HV.out, List.drop_eq_nil_of_le (by omega), Tm.parts_nil]
      simp

/-- how the first n parts lie in the text -/
theorem clip_all {l : List Nat} {n : Int} (h : ((Tm.parts l).length : Int) ≤ n) : Tm.clip l n = l := by
  unfold Tm.clip; rw [List.take_of_length_le (by omega), Tm.parts_flatten]

end Go.Proofs.YtpfeccbnkgnioaaDoor
