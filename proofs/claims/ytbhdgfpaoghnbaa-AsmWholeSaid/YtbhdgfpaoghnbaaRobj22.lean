/- Words for layer 22's reference's Put: a thing of the table turns; a message more. -/
import Derived.Test.YtbhdgfpaoghnbaaRtick22
import Derived.Test.YtbhdgfpaoghnbaaGv
namespace Go.Proofs.Ytbhdgfpaoghnbaa
open Go.RowKit
set_option linter.unusedVariables false
set_option maxRecDepth 100000
set_option linter.unusedSimpArgs false

section
variable {w w' wr : World} {F : Nat → Prop} {h g : Nat} {vl v : Value} {m : Tm.Lim} {L L' : List (Tm.One × Nat)} {Fo : Nat → Nat → Prop}
/-- the list with the message of thing g turned -/
def turned (g : Nat) (f : Tm.One → Tm.One) (L : List (Tm.One × Nat)) : List (Tm.One × Nat) := L.map (fun x => if x.2 = g then (f x.1, x.2) else x)
theorem turned_rows {f : Tm.One → Tm.One} (hf : ∀ o n, fOe (f o, n) = fOe (o, n)) (L : List (Tm.One × Nat)) : rowsOf fOe (turned g f L) = rowsOf fOe L := by
  induction L with
  | nil => rfl
  | cons x L ih =>
    have : turned g f (x :: L) = (if x.2 = g then (f x.1, x.2) else x) :: turned g f L := rfl
    rw [this, rowsOf_cons, rowsOf_cons, ih]
    congr 1
    split
    · exact hf _ _
    · rfl
theorem turned_len (f : Tm.One → Tm.One) (L : List (Tm.One × Nat)) : (turned g f L).length = L.length := by simp [turned]
theorem turned_snd (f : Tm.One → Tm.One) (L : List (Tm.One × Nat)) : (turned g f L).map (fun x => x.2) = L.map (fun x => x.2) := by
  unfold turned
  rw [List.map_map]
  refine List.map_congr_left fun x _ => ?_
  simp only [Function.comp]
  split <;> rfl
theorem turned_mem {f : Tm.One → Tm.One} {x : Tm.One × Nat} (hx : x ∈ turned g f L) : ∃ y ∈ L, y.2 = x.2 ∧ (y.2 = g → x.1 = f y.1) ∧ (y.2 ≠ g → x = y) := by
  obtain ⟨y, hy, rfl⟩ := List.mem_map.1 hx
  refine ⟨y, hy, ?_, fun e => by rw [if_pos e], fun e => by rw [if_neg e]⟩
  split <;> rfl
theorem snd_uniq : ∀ (L : List (Tm.One × Nat)), (L.map (fun x => x.2)).Nodup → ∀ x ∈ L, ∀ y ∈ L, x.2 = y.2 → x = y
  | [], _, x, hx, _, _, _ => by cases hx
  | z :: L, hd, x, hx, y, hy, e => by
    rw [List.map_cons, List.nodup_cons] at hd
    rcases List.mem_cons.1 hx with rfl | hx'
    · rcases List.mem_cons.1 hy with rfl | hy'
      · rfl
      · exact absurd (List.mem_map.2 ⟨y, hy', e.symm⟩) hd.1
    · rcases List.mem_cons.1 hy with rfl | hy'
      · exact absurd (List.mem_map.2 ⟨x, hx', e⟩) hd.1
      · exact snd_uniq L hd.2 x hx' y hy' e
end
end Go.Proofs.Ytbhdgfpaoghnbaa
