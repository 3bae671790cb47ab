/- Strings as lists of numbers. -/
import Derived.Test.YtpfeccbnkgnioaaDoorBase
import Derived.Lib.AppendStr
namespace Go.Proofs.YtpfeccbnkgnioaaDoor
open Go.RowKit
set_option linter.unusedVariables false

/-- the string s has the bytes l -/
structure Txt (s : ByteArray) (l : List Nat) : Prop where
  str : s = strOf l
  byte : ∀ x ∈ l, x < 256

def nums (s : ByteArray) : List Nat := s.data.toList.map UInt8.toNat

section
variable {s t : ByteArray} {l m : List Nat}
theorem Txt.size (T : Txt s l) : s.size = l.length := by rw [T.str, strOf_size]
theorem Txt.at_ (T : Txt s l) (i : Nat) (h : i < s.size) : (s[i]'h).toNat = l.getD i 0 := by
  obtain ⟨rfl, hb⟩ := T
  have hi : i < l.length := by rw [strOf_size] at h; exact h
  have e : (strOf l)[i]'h = UInt8.ofNat l[i] := by
    show ((l.map UInt8.ofNat).toArray)[i]'(by simpa using hi) = _
    simp
  rw [e]
  simp [List.getD, List.getElem?_eq_getElem hi, Nat.mod_eq_of_lt (hb _ (List.getElem_mem hi))]
theorem Txt.get! (T : Txt s l) (i : Nat) (h : i < l.length) : (s.get! i).toNat = l.getD i 0 := by
  have h' : i < s.size := by rw [T.size]; exact h
  rw [← T.at_ i h']
  congr 1
  simp [ByteArray.get!, getElem!_pos, h']
  rfl
theorem Txt.of (h : ∀ x ∈ l, x < 256) : Txt (strOf l) l := ⟨rfl, h⟩
theorem Txt.nums (s : ByteArray) : Txt s (nums s) := by
  constructor
  · apply ByteArray.ext
    apply Array.toList_inj.1
    simp [strOf, Go.Proofs.YtpfeccbnkgnioaaDoor.nums, Function.comp_def]
  · intro x hx
    obtain ⟨u, _, rfl⟩ := List.mem_map.1 hx
    exact u.toNat_lt
theorem strOf_extract (l : List Nat) (a b : Nat) : (strOf l).extract a b = strOf ((l.drop a).take (b - a)) := by
  unfold strOf
  rw [ByteArray.extract_mk, List.map_take, List.map_drop]
theorem Txt.cut (T : Txt s l) (a b : Nat) : Txt (s.extract a b) ((l.drop a).take (b - a)) := by
  obtain ⟨rfl, hb⟩ := T
  exact ⟨strOf_extract l a b, fun x hx => hb x (List.mem_of_mem_drop (List.mem_of_mem_take hx))⟩
theorem Txt.join (T : Txt s l) (U : Txt t m) : Txt (s ++ t) (l ++ m) := by
  obtain ⟨rfl, hb⟩ := T
  obtain ⟨rfl, hc⟩ := U
  exact ⟨strOf_append l m, fun x hx => (List.mem_append.1 hx).elim (hb x) (hc x)⟩
theorem Txt.inj (T : Txt s l) (U : Txt s m) : l = m := strOf_inj T.byte U.byte (by rw [← T.str, ← U.str])
theorem Txt.eql (T : Txt s l) (U : Txt t m) : (s.toList == t.toList) = decide (l = m) := by
  rw [Bool.eq_iff_iff, beq_iff_eq, decide_eq_true_iff]
  constructor
  · intro h
    have h := toList_inj h
    subst h
    exact T.inj U
  · rintro rfl
    rw [T.str, U.str]
theorem Txt.lit (u : List UInt8) : Txt ⟨u.toArray⟩ (u.map UInt8.toNat) := by
  have := Txt.nums ⟨u.toArray⟩
  simpa [Go.Proofs.YtpfeccbnkgnioaaDoor.nums] using this
/-- a string held against a literal, as a walk spells it -/
theorem Txt.eql_lit (T : Txt s l) (u : List UInt8) : (s.toList == u) = decide (l = u.map UInt8.toNat) := by
  rw [← T.eql (Txt.lit u), ByteArray.toList_mk u]
theorem Txt.same (T : Txt s l) (U : Txt t l) : s = t := by rw [T.str, U.str]
theorem Txt.cells (T : Txt s l) : Lib.strCells s = ints .u8 l := by
  obtain ⟨rfl, hb⟩ := T
  unfold Lib.strCells strOf ints
  simp only [List.map_map]
  refine List.map_congr_left fun x hx => ?_
  simp [Nat.mod_eq_of_lt (hb x hx)]
end
end Go.Proofs.YtpfeccbnkgnioaaDoor
