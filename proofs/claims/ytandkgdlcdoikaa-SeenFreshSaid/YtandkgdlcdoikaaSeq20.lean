/- Memories and numbers held against one another as structs. -/
import Derived.Test.YtandkgdlcdoikaaRsn20
import Derived.Laws.StructEq
namespace Go.Proofs.Ytandkgdlcdoikaa
open Go.RowKit
set_option linter.unusedVariables false
set_option maxRecDepth 100000

theorem fieldsSeen : Try.prog.fieldsOf 25 = #[⟨ "Any", 4, 0, false, "", "", 0⟩, ⟨ "Epoch", 22, 1, false, "", "", 4⟩, ⟨ "Top", 22, 2, false, "", "", 8⟩, ⟨ "Bits", 23, 3, false, "", "", 16⟩] := by kernel_rfl
theorem guardSeen : Try.prog.eqGuardType Try.prog.depth 25 = false := by kernel_rfl
theorem eqSeen (W : World) (v v' : Bool) (e t b e' t' b' : Nat) : (Op.equalIn 10000 25 (.agg #[.bool v, .int .u32 (e : Int), .int .u32 (t : Int), .int .u64 (b : Int)]) (.agg #[.bool v', .int .u32 (e' : Int), .int .u32 (t' : Int), .int .u64 (b' : Int)])).run Try.prog W = .ok (decide ((⟨v, e, t, b⟩ : Sn) = ⟨v', e', t', b'⟩)) W := by
  rw [run_equalIn_struct W 9999 25 _ _ (by rw [fieldsSeen]; exact Try.underlying25) (by kernel_rfl), fieldsSeen]
  have p0 : ∀ W a x y z, (part 4 #[Value.bool a, x, y, z] 0).run Try.prog W = .ok (.bool a) W := by intro W a x y z; kernel_rfl
  have p1 : ∀ W a x y z, (part 22 #[a, Value.int .u32 x, y, z] 1).run Try.prog W = .ok (.int .u32 x) W := by intro W a x y z; kernel_rfl
  have p2 : ∀ W a x y z, (part 22 #[a, x, Value.int .u32 y, z] 2).run Try.prog W = .ok (.int .u32 y) W := by intro W a x y z; kernel_rfl
  have p3 : ∀ W a x y z, (part 23 #[a, x, y, Value.int .u64 z] 3).run Try.prog W = .ok (.int .u64 z) W := by intro W a x y z; kernel_rfl
  have hb : ∀ W d a b, (Op.equalIn (d + 1) 4 (.bool a) (.bool b)).run Try.prog W = .ok (a == b) W := fun W d a b => run_equalIn_bool W d _ a b Try.underlying4
  simp [Op.eqFields, p0, p1, p2, p3, hb, run_equalIn_int W _ _ _ _ _ _ Try.underlying23, run_equalIn_int W _ _ _ _ _ _ Try.underlying22]
  by_cases h0 : v = v'
  · by_cases h1 : e = e'
    · by_cases h2 : t = t'
      · by_cases h3 : b = b'
        · simp [h0, h1, h2, h3]
        · have : ¬ (b : Int) = (b' : Int) := by omega
          simp [h0, h1, h2, h3, this]
      · have : ¬ (t : Int) = (t' : Int) := by omega
        simp [h0, h1, h2, this]
    · have : ¬ (e : Int) = (e' : Int) := by omega
      simp [h0, h1, this]
  · simp [h0]
theorem fieldsNumber : Try.prog.fieldsOf 33 = #[⟨ "Epoch", 22, 0, false, "", "", 0⟩, ⟨ "ID", 22, 1, false, "", "", 4⟩] := by kernel_rfl
theorem guardNumber : Try.prog.eqGuardType Try.prog.depth 33 = false := by kernel_rfl
theorem eqNumber (W : World) (a b c d : Nat) : (Op.equalIn 10000 33 (.agg #[.int .u32 (a : Int), .int .u32 (b : Int)]) (.agg #[.int .u32 (c : Int), .int .u32 (d : Int)])).run Try.prog W = .ok (decide ((a, b) = (c, d))) W := by
  rw [run_equalIn_struct W 9999 33 _ _ (by rw [fieldsNumber]; exact Try.underlying33) (by kernel_rfl), fieldsNumber]
  have p0 : ∀ W x y, (part 22 #[Value.int .u32 x, y] 0).run Try.prog W = .ok (.int .u32 x) W := by intro W x y; kernel_rfl
  have p1 : ∀ W x y, (part 22 #[x, Value.int .u32 y] 1).run Try.prog W = .ok (.int .u32 y) W := by intro W x y; kernel_rfl
  simp [Op.eqFields, p0, p1, run_equalIn_int W _ _ _ _ _ _ Try.underlying22]
  by_cases h : a = c
  · by_cases h2 : b = d
    · simp [h, h2]
    · have : ¬ (b : Int) = (d : Int) := by omega
      simp [h, h2, this]
  · have : ¬ (a : Int) = (c : Int) := by omega
    simp [h, this]
end Go.Proofs.Ytandkgdlcdoikaa
