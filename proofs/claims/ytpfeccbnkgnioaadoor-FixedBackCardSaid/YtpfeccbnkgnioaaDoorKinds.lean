/- Contracts of msg.isKind, entryOf, ownFields, Name, Kind, Asks, Answers. -/
import Derived.Test.YtpfeccbnkgnioaaDoorTab
import Derived.PlainAid
namespace Go.Proofs.YtpfeccbnkgnioaaDoor
open Go.RowKit
set_option linter.unusedVariables false
set_option maxRecDepth 100000
open Gm

theorem iskind_any (k : Int) (hk : -9223372036854775808 ≤ k ∧ k ≤ 9223372036854775807) (w : World) :
    Calls Tryd.prog 34 #[.int .i64 k] w fun e w' => e = .returned (.bool (known k)) ∧ w' = w := by
  go_enter Tryd.func34, Tryd.ntmps34
  go_wp2_with fail
  all_goals
    go_ret
    refine ⟨ret_bool ?_, rfl⟩
    unfold known
    simp_all
    try omega

/-- a row of the table as cells -/
def enV (e : En) : Array Value := #[.string e.name, .int .u16 (e.own : Int), .int .u16 (e.ifHas : Int), .int .u16 (e.full : Int), .int .u16 (e.ans : Int)]
theorem entI (e : En) : (Tryd.prog.info? 72).map (·.size) = some (enV e).size := by kernel_rfl
theorem enV_one (e : En) : (enV e).all (·.oneCell') = true := by simp [enV, Value.oneCell']
set_option maxRecDepth 100000 in
theorem entry_any (k : Int) (hk : -9223372036854775808 ≤ k ∧ k ≤ 9223372036854775807) (w : World) (T : Tab w) :
    Calls Tryd.prog 39 #[.int .i64 k] w fun e w' => e = .returned (.agg (enV (at_ k))) ∧ Below w.heap.size w w' := by
  have hlt := T.lt
  have W0 := Whole.made w 72 #[Value.string { data := #[] }, Value.int IntKind.u16 0, Value.int IntKind.u16 0, Value.int IntKind.u16 0, Value.int IntKind.u16 0]
  have B0 : Below w.heap.size w (w.alloc (.cells #[Value.string { data := #[] }, Value.int IntKind.u16 0, Value.int IntKind.u16 0, Value.int IntKind.u16 0, Value.int IntKind.u16 0] 72)) := (Below.refl _ _).alloc (Nat.le_refl _) _
  have T0 := T.kept B0
  have Hb := Lib.hid (fun cs => below_row B0 (Nat.le_refl w.heap.size) cs)
  obtain ⟨b, hb⟩ : ∃ b, w.heap.size = b := ⟨_, rfl⟩
  rw [hb] at W0 Hb
  obtain ⟨w0, hw0⟩ : ∃ w0, w.alloc (.cells #[Value.string { data := #[] }, Value.int IntKind.u16 0, Value.int IntKind.u16 0, Value.int IntKind.u16 0, Value.int IntKind.u16 0] 72) = w0 := ⟨_, rfl⟩
  rw [hw0] at W0 T0 Hb
  have HW := Lib.hid W0
  have HT := Lib.hid T0
  clear T B0 W0 T0
  cases hkn : known k
  · have hat : at_ k = ent 0 := by unfold at_; rw [hkn]; rfl
    rw [hat]
    obtain ⟨h0, h1, h2, h3, h4⟩ := HT.out 0 (by decide)
    go_enter Tryd.func39, Tryd.ntmps39
    go_wp2_with fail
    refine (iskind_any k hk _).mono ?_
    rintro e w1 ⟨rfl, rfl⟩
    rw [hkn]
    go_wp2_with (refine wpList_store_whole (cs' := enV (ent 0)) rfl rfl rfl rfl rfl HW.out (entI _) rfl (enV_one _) ?_)
    refine bodyPost_ret (v := .agg (enV (ent 0))) ?_ rfl ⟨rfl, by rw [hb]; exact Hb.out _⟩
    exact results_cell_row rfl _ _ _ _ _ (0, 0) _ rfl (HW.out.row _) Tryd.underlying72 rfl (entI _)
  · obtain ⟨i, rfl⟩ : ∃ i : Nat, k = (i : Int) := ⟨k.toNat, by unfold known at hkn; simp at hkn; omega⟩
    have hi : i < 13 := by unfold known at hkn; simp at hkn; omega
    have hat : at_ (i : Int) = ent i := by unfold at_; rw [hkn]; rfl
    rw [hat]
    obtain ⟨h0, h1, h2, h3, h4⟩ := HT.out i hi
    obtain ⟨E, HE⟩ : ∃ E, Hid (ent i = E) := ⟨_, rfl⟩
    rw [HE.out] at h0 h1 h2 h3 h4 ⊢
    clear hat
    go_enter Tryd.func39, Tryd.ntmps39
    go_wp2_with fail
    refine (iskind_any i hk _).mono ?_
    rintro e w1 ⟨rfl, rfl⟩
    rw [hkn]
    go_wp2_with (refine wpList_store_whole (cs' := enV E) rfl rfl rfl rfl rfl HW.out (entI _) rfl (enV_one _) ?_)
    refine bodyPost_ret (v := .agg (enV E)) ?_ rfl ⟨rfl, by rw [hb]; exact Hb.out _⟩
    exact results_cell_row rfl _ _ _ _ _ (0, 0) _ rfl (HW.out.row _) Tryd.underlying72 rfl (entI _)
/-- a new variable for a row of the table -/
theorem ent_box (w : World) : ∃ b w0, w.heap.size = b ∧ w.alloc (.cells #[Value.string { data := #[] }, Value.int IntKind.u16 0, Value.int IntKind.u16 0, Value.int IntKind.u16 0, Value.int IntKind.u16 0] 72) = w0 ∧
    Whole w0 b 72 #[Value.string { data := #[] }, Value.int IntKind.u16 0, Value.int IntKind.u16 0, Value.int IntKind.u16 0, Value.int IntKind.u16 0] ∧ ∀ cs, Below b w (w0.setRow b cs) :=
  ⟨_, _, rfl, rfl, Whole.made _ _ _, fun cs => below_row ((Below.refl _ _).alloc (Nat.le_refl _) _) (Nat.le_refl _) cs⟩

set_option maxRecDepth 100000 in
theorem own_any {w : World} {B : Nat} {m : Ms} {v : Value} (H : Mv w B m v) (T : Tab w) :
    Calls Tryd.prog 33 #[v] w fun e w' => e = .returned (.int .u16 (Gm.own m : Int)) ∧ Below w.heap.size w w' := by
  obtain ⟨b, vp, vq, w0, rfl, hb, hal, hsz, hx, hb0⟩ := boxed H
  have hT := T.kept (by rw [hb]; exact hb0)
  have ho := own_at m
  have hk := hx.ok.kind
  have c0 := hx.cells.1
  have HX := Lib.hid hx
  have HB := Lib.hid hb0
  clear T hx hb0 H
  have HO := Lib.hid ho
  clear ho
  go_enter Tryd.func33, Tryd.ntmps33
  go_wp2_with fail
  refine (entry_any m.kind hk w0 hT).mono ?_
  rintro e w1 ⟨rfl, hb1⟩
  obtain ⟨b2, w2, hb2, hal2, hW, hN⟩ := ent_box w1
  have HB2 := Lib.hid (hb1.trans ((hN (enV (at_ m.kind))).mono (by rw [← hb2]; exact hb1.size)))
  have c3 := (HX.out.kept HB2.out).cells.2.2.2.1
  obtain ⟨E, HE⟩ : ∃ E, Hid (at_ m.kind = E) := ⟨_, rfl⟩
  rw [HE.out] at c3 HO HB2 ⊢
  have d1 : (w2.setRow b2 (enV E)).cell? ⟨b2, 1, none⟩ = some (.int .u16 (E.own : Int)) := (hW.row (enV E)).at_ 1
  have d2 : (w2.setRow b2 (enV E)).cell? ⟨b2, 2, none⟩ = some (.int .u16 (E.ifHas : Int)) := (hW.row (enV E)).at_ 2
  have HW := Lib.hid hW
  have HF := Lib.hid (HB.out.trans (HB2.out.mono (by omega)))
  clear hb1 hN hW hT c0
  cases hh : m.has
  · rw [hh] at c3 HO
    go_wp2_with (refine wpList_store_whole (cs' := enV E) rfl rfl rfl rfl rfl HW.out (entI _) rfl (enV_one _) ?_)
    go_ret
    exact ⟨ret_int HO.out, by rw [hb]; exact HF.out⟩
  · rw [hh] at c3 HO
    go_wp2_with (refine wpList_store_whole (cs' := enV E) rfl rfl rfl rfl rfl HW.out (entI _) rfl (enV_one _) ?_)
    go_ret
    exact ⟨ret_int HO.out, by rw [hb]; exact HF.out⟩
theorem ent_field (E : En) (w : World) : (Instr.field 72 (.agg (enV E)) 0).run Tryd.prog w = .ok (.string E.name) w ∧ (Instr.field 72 (.agg (enV E)) 3).run Tryd.prog w = .ok (.int .u16 (E.full : Int)) w ∧ (Instr.field 72 (.agg (enV E)) 4).run Tryd.prog w = .ok (.int .u16 (E.ans : Int)) w :=
  ⟨by kernel_rfl, by kernel_rfl, by kernel_rfl⟩

end Go.Proofs.YtpfeccbnkgnioaaDoor
