/- Contracts of msg.onlyIf at a peer, and of msg.Bare. -/
import Derived.Test.YtpfeccbnkgnioaaDoorOnly8
import Derived.Test.YtpfeccbnkgnioaaDoorCopy8
import Derived.Test.YtpfeccbnkgnioaaDoorRegion
namespace Go.Proofs.YtpfeccbnkgnioaaDoor
open Go.RowKit
set_option linter.unusedVariables false
set_option maxRecDepth 100000
open Gm

/-- a struct is stored whole, in a region that draws its order -/
theorem step_store_whole {P : Program} {ty : TypeId} {cs cs' : Array Value} {ops : Array Oper} {o : Oper} {a : Act} {w : World} {K : Act → World → Prop} {Q : Exit → Act → World → Prop} {F : Prop} {x y : Operand} {g t : Nat} (hgd : o.guard = none) (hd : o.dst = none) (ho : o.op = .store ty x y) (hx : a.eval x = .pointer (some ⟨g, 0, none⟩)) (hy : a.eval y = .agg cs') (hg : Whole w g t cs)
    (hi : (P.info? ty).map (·.size) = some cs'.size) (hs : cs.size = cs'.size) (h1 : cs'.all (·.oneCell') = true) (h : K a (w.setRow g cs')) : if Region.wanted o (yielded ops a.tmps) = true then Oper.wp P o a w K Q else F := by
  have hw : Region.wanted o (yielded ops a.tmps) = true := by simp [Region.wanted, hgd]
  rw [if_pos hw]
  unfold Oper.wp execOp
  simp only [ho, hx, hy, Instr.storeAt, Instr.sureAddr, Sem.run_bind, Sem.run_pure, Result.andThen_ok, run_storeVar_row w g t ty cs cs' hg hi hs h1]
  unfold Oper.upon
  simp only
  try rw [hd]
  exact h
theorem peerI {cs : Array Value} (h : cs.size = 2) : (Tryd.prog.info? 26).map (·.size) = some cs.size := by rw [h]; kernel_rfl
theorem made2 (w : World) (o : Obj) (t : Nat) (cs : Array Value) : Whole ((w.alloc o).alloc (.cells cs t)) (w.heap.size + 1) t cs := by
  have := Whole.made (w.alloc o) t cs
  rw [show (w.alloc o).heap.size = w.heap.size + 1 by simp] at this
  exact this
theorem Sl.oi {α : Type} {f : α → Value × Value} {w : World} {B n c : Nat} {A : Option Addr} {l : List α} (h : Sl f w B (.slice A n c) l) (b : Bool) : Sl f w B (.slice (oi b A none) (oi b n 0) (oi b c 0)) (oi b l []) := by
  cases b
  · exact Sl.empty _ _
  · exact h
theorem own_bits (m : Ms) : (bits .and .u16 ((own m : Nat) : Int) 1 != 0) = oCode m ∧ (bits .and .u16 ((own m : Nat) : Int) 2 != 0) = oHas m ∧ (bits .and .u16 ((own m : Nat) : Int) 4 != 0) = oId m ∧ (bits .and .u16 ((own m : Nat) : Int) 8 != 0) = oPeer m ∧
    (bits .and .u16 ((own m : Nat) : Int) 16 != 0) = oPeers m ∧ (bits .and .u16 ((own m : Nat) : Int) 32 != 0) = oKey m ∧ (bits .and .u16 ((own m : Nat) : Int) 64 != 0) = oVal m ∧ (bits .and .u16 ((own m : Nat) : Int) 128 != 0) = oPairs m := by
  obtain ⟨h1, h2, h3, h4, h5, h6, h7, h8⟩ := mask_bits (oCode m) (oHas m) (oId m) (oPeer m) (oPeers m) (oKey m) (oVal m) (oPairs m)
  unfold own
  rw [h1, h2, h3, h4, h5, h6, h7, h8]
  refine ⟨?_, ?_, ?_, ?_, ?_, ?_, ?_, ?_⟩
  · cases oCode m <;> rfl
  · cases oHas m <;> rfl
  · cases oId m <;> rfl
  · cases oPeer m <;> rfl
  · cases oPeers m <;> rfl
  · cases oKey m <;> rfl
  · cases oVal m <;> rfl
  · cases oPairs m <;> rfl

end Go.Proofs.YtpfeccbnkgnioaaDoor
