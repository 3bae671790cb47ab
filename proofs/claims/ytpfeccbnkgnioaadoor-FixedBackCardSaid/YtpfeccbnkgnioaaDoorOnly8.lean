/- Contracts of msg.onlyIf at each type, of msg.usedFields. -/
import Derived.Test.YtpfeccbnkgnioaaDoorKinds
import Derived.Test.YtpfeccbnkgnioaaDoorEq8
namespace Go.Proofs.YtpfeccbnkgnioaaDoor
open Go.RowKit
set_option linter.unusedVariables false
set_option maxRecDepth 100000
open Gm

theorem oi_fields (b : Bool) (x : Nat) (w : World) :
    Calls Tryd.prog 66 #[.bool b, .int .u16 (x : Int)] w fun e w' => e = .returned (.int .u16 ((oi b x 0 : Nat) : Int)) ∧ w' = w := by
  cases b
  · go_enter Tryd.func66, Tryd.ntmps66
    go_wp2_with fail
    go_ret
    exact ⟨rfl, rfl⟩
  · go_enter Tryd.func66, Tryd.ntmps66
    go_wp2_with fail
    go_ret
    exact ⟨rfl, rfl⟩

theorem mask_or (c h i p ps k v pr : Bool) : bits .or .u16 (bits .or .u16 (bits .or .u16 (bits .or .u16 (bits .or .u16 (bits .or .u16 (bits .or .u16 ((oi c 1 0 : Nat) : Int) ((oi h 2 0 : Nat) : Int)) ((oi i 4 0 : Nat) : Int)) ((oi p 8 0 : Nat) : Int)) ((oi ps 16 0 : Nat) : Int)) ((oi k 32 0 : Nat) : Int)) ((oi v 64 0 : Nat) : Int)) ((oi pr 128 0 : Nat) : Int) = ((mask c h i p ps k v pr : Nat) : Int) := by
  revert c h i p ps k v pr
  decide +kernel
set_option maxRecDepth 100000 in
theorem used_any {w : World} {B : Nat} {m : Ms} {v : Value} (H : Mv w B m v) :
    Calls Tryd.prog 32 #[v] w fun e w' => e = .returned (.int .u16 (used m : Int)) ∧ Below w.heap.size w w' := by
  obtain ⟨b, vp, vq, w0, rfl, hb, hal, hsz, hx, hb0⟩ := boxed H
  obtain ⟨Ap, cp, rfl, _, hp1, hp2, _⟩ := hx.peers.ex
  obtain ⟨Aq, cq, rfl, _, hq1, hq2, _⟩ := hx.pairs.ex
  obtain ⟨c0, c1, c2, c3, c4, c5, c6, c7, c8, c9, c10⟩ := hx.cells
  have hgd := guardPeer
  have hst : ∀ W, (Op.equalIn 10000 26 (.agg #[.int .u64 (m.pid : Int), .int .u16 (m.pad : Int)]) (.agg #[.int .u64 0, .int .u16 0])).run Tryd.prog W = .ok (decide (m.pid = 0) && decide (m.pad = 0)) W := fun W => by
    have h := eqPeer W m.pid m.pad 0 0
    rw [show decide ((m.pid, m.pad) = (0, 0)) = (decide (m.pid = 0) && decide (m.pad = 0)) by rw [Bool.eq_iff_iff]; simp] at h
    exact h
  have s5 := str_eq m.key ⟨#[]⟩
  have s6 := str_eq m.val ⟨#[]⟩
  rw [show (⟨#[]⟩ : ByteArray).toList = [] from ByteArray.toList_mk []] at s5 s6
  unfold maxLen at hp2 hq2
  have HB := Lib.hid hb0
  obtain ⟨r, hr⟩ : ∃ r, Hid (used m = r) := ⟨_, rfl⟩
  rw [hr.out]
  clear hx hb0 H
  go_enter Tryd.func32, Tryd.ntmps32
  go_wp2_with fail
  go_quiet (with_reducible exact Calls.quiet_of_same (oi_fields _ _ _))
  go_wp2_with fail
  go_ret
  refine ⟨ret_int ?_, by rw [hb]; exact below_drewn HB.out _⟩
  rw [← hr.out, mask_or, show ((m.code : Int) != 0) = uCode m by unfold uCode; rw [Bool.eq_iff_iff]; simp, show ((m.id : Int) != 0) = uId m by unfold uId; rw [Bool.eq_iff_iff]; simp,
    show (!decide (m.pid = 0) || !decide (m.pad = 0)) = uPeer m by unfold uPeer; rw [Bool.not_and]]
  rfl
end Go.Proofs.YtpfeccbnkgnioaaDoor
