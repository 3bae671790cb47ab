/- Contract of the reference's Dec of layer 9, for any bytes. -/
import Derived.Test.YtpfeccbnkgnioaaDoorRd9a
import Derived.Test.YtpfeccbnkgnioaaDoorRd9b
import Derived.Test.YtpfeccbnkgnioaaDoorRd9c
import Derived.Test.YtpfeccbnkgnioaaDoorRd9d
namespace Go.Proofs.YtpfeccbnkgnioaaDoor
open Go.RowKit
set_option linter.unusedVariables false
open Gm

theorem rdec9_any {w : World} {B : Nat} {v : Value} {p : List Nat} (h : Piece w B v p) (hp : p.length ≤ 1000000000) (hb : ∀ x ∈ p, x < 256) :
    Calls Tryd.prog 11 #[v] w (DecPost (Fm.dec p) w) := by
  have hn : (Bm.rfix p 0 1).1 < 256 := Fm.rfix_nat (show Fm.Bytes p from hb) 0 1 1 rfl
  obtain ⟨k, hk⟩ : ∃ k, (Bm.rfix p 0 1).1 = k := ⟨_, rfl⟩
  have hc : k = 1 ∨ k = 2 ∨ k = 3 ∨ k = 4 ∨ k = 5 ∨ k = 6 ∨ k = 7 ∨ k = 8 ∨ k = 9 ∨ k = 10 ∨ k = 11 ∨ k = 12 ∨ (k < 1 ∨ 12 < k) := by omega
  rcases hc with rfl | rfl | rfl | rfl | rfl | rfl | rfl | rfl | rfl | rfl | rfl | rfl | h0
  · exact rdec_1 h hp hb (Lib.hid hk)
  · exact rdec_2 h hp hb (Lib.hid hk)
  · exact rdec_3 h hp hb (Lib.hid hk)
  · exact rdec_4 h hp hb (Lib.hid hk)
  · exact rdec_5 h hp hb (Lib.hid hk)
  · exact rdec_6 h hp hb (Lib.hid hk)
  · exact rdec_7 h hp hb (Lib.hid hk)
  · exact rdec_8 h hp hb (Lib.hid hk)
  · exact rdec_9 h hp hb (Lib.hid hk)
  · exact rdec_10 h hp hb (Lib.hid hk)
  · exact rdec_11 h hp hb (Lib.hid hk)
  · exact rdec_12 h hp hb (Lib.hid hk)
  · exact rdec_0 h hp hb (Lib.hid hk) h0 (by omega)
end Go.Proofs.YtpfeccbnkgnioaaDoor
