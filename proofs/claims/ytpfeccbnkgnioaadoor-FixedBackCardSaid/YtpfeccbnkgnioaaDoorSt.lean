/- Peers and pairs held against one another as structs. -/
import Derived.Test.YtpfeccbnkgnioaaDoorTab
import Derived.Laws.StructEq
namespace Go.Proofs.YtpfeccbnkgnioaaDoor
open Go.RowKit
set_option linter.unusedVariables false
set_option maxRecDepth 100000

theorem fieldsPeer : Tryd.prog.fieldsOf 26 = #[⟨ "ID", 23, 0, false, "", "", 0⟩, ⟨ "Addr", 24, 1, false, "", "", 8⟩] := by kernel_rfl
theorem guardPeer : Tryd.prog.eqGuardType Tryd.prog.depth 26 = false := by kernel_rfl
theorem eqPeer (W : World) (a b c d : Nat) : (Op.equalIn 10000 26 (.agg #[.int .u64 (a : Int), .int .u16 (b : Int)]) (.agg #[.int .u64 (c : Int), .int .u16 (d : Int)])).run Tryd.prog W = .ok (decide ((a, b) = (c, d))) W := by
  rw [run_equalIn_struct W 9999 26 _ _ (by rw [fieldsPeer]; exact Tryd.underlying26) (by kernel_rfl), fieldsPeer]
  have p0 : ∀ W x y, (part 23 #[Value.int .u64 x, y] 0).run Tryd.prog W = .ok (.int .u64 x) W := by intro W x y; kernel_rfl
  have p1 : ∀ W x y, (part 24 #[x, Value.int .u16 y] 1).run Tryd.prog W = .ok (.int .u16 y) W := by intro W x y; kernel_rfl
  simp [Op.eqFields, p0, p1, run_equalIn_int W _ _ _ _ _ _ Tryd.underlying23, run_equalIn_int W _ _ _ _ _ _ Tryd.underlying24]
  by_cases h : a = c
  · by_cases h2 : b = d
    · simp [h, h2]
    · have : ¬ (b : Int) = (d : Int) := by omega
      simp [h, h2, this]
  · have : ¬ (a : Int) = (c : Int) := by omega
    simp [h, this]
theorem fieldsPair : Tryd.prog.fieldsOf 43 = #[⟨ "Key", 9, 0, false, "", "", 0⟩, ⟨ "Val", 9, 1, false, "", "", 16⟩] := by kernel_rfl
theorem guardPair : Tryd.prog.eqGuardType Tryd.prog.depth 43 = false := by kernel_rfl
theorem eqPair (W : World) (a b c d : ByteArray) : (Op.equalIn 10000 43 (.agg #[.string a, .string b]) (.agg #[.string c, .string d])).run Tryd.prog W = .ok (decide ((a, b) = (c, d))) W := by
  rw [run_equalIn_struct W 9999 43 _ _ (by rw [fieldsPair]; exact Tryd.underlying43) (by kernel_rfl), fieldsPair]
  have p0 : ∀ W x y, (part 9 #[Value.string x, y] 0).run Tryd.prog W = .ok (.string x) W := by intro W x y; kernel_rfl
  have p1 : ∀ W x y, (part 9 #[x, Value.string y] 1).run Tryd.prog W = .ok (.string y) W := by intro W x y; kernel_rfl
  simp [Op.eqFields, p0, p1, run_equalIn_string W _ _ _ _ Tryd.underlying9, Gm.str_eq]
  by_cases h : a = c
  · by_cases h2 : b = d
    · simp [h, h2]
    · simp [h, h2]
  · simp [h]
end Go.Proofs.YtpfeccbnkgnioaaDoor
