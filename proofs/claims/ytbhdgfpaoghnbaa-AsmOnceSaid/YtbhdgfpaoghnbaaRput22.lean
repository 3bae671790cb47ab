/- Contract of layer 22's reference: Put. -/
import Derived.Test.YtbhdgfpaoghnbaaTm24
import Derived.Test.YtbhdgfpaoghnbaaStepc
namespace Go.Proofs.Ytbhdgfpaoghnbaa
open Go.RowKit
set_option linter.unusedVariables false
set_option maxRecDepth 100000
set_option linter.unusedSimpArgs false

/-- how long the list is -/
def lenIn (w : World) (h : Nat) : Nat := match w.cell? ⟨h, 3, none⟩ with
  | some (.slice _ n _) => n
  | _ => 0
theorem put_arg {m : Tm.Lim} {l : List Tm.One} {sn : Nat} {g : Gd} (h : g.count = 0 ∨ g.count ≤ g.index) : Tm.put m l sn g = ⟨[], false, 1, l⟩ := by unfold Tm.put; rw [if_pos h]
theorem put_form {m : Tm.Lim} {l : List Tm.One} {sn : Nat} {g : Gd} (h : ¬ (g.count = 0 ∨ g.count ≤ g.index)) (h2 : (Tm.cur l sn g).count ≠ g.count ∨ (Tm.cur l sn g).version ≠ g.version) : Tm.put m l sn g = ⟨[], false, 3, l⟩ := by unfold Tm.put; rw [if_neg h, if_pos h2]
theorem put_twice {m : Tm.Lim} {l : List Tm.One} {sn : Nat} {g : Gd} (h : ¬ (g.count = 0 ∨ g.count ≤ g.index)) (h2 : ¬ ((Tm.cur l sn g).count ≠ g.count ∨ (Tm.cur l sn g).version ≠ g.version)) (h3 : (Tm.cur l sn g).s.has g.index = true) : Tm.put m l sn g = ⟨[], false, 12, l⟩ := by unfold Tm.put; rw [if_neg h, if_neg h2, if_pos h3]
theorem put_full {m : Tm.Lim} {l : List Tm.One} {sn : Nat} {g : Gd} (h : ¬ (g.count = 0 ∨ g.count ≤ g.index)) (h2 : ¬ ((Tm.cur l sn g).count ≠ g.count ∨ (Tm.cur l sn g).version ≠ g.version)) (h3 : (Tm.cur l sn g).s.has g.index = false) (h4 : m.by_ < (Tm.cur l sn g).s.size + g.body.length) :
    Tm.put m l sn g = ⟨[], false, 10, Tm.wo l (sn, g.epoch, g.id)⟩ := by unfold Tm.put; rw [if_neg h, if_neg h2, if_neg (by rw [h3]; decide), if_pos h4]
theorem put_good {m : Tm.Lim} {l : List Tm.One} {sn : Nat} {g : Gd} (h : ¬ (g.count = 0 ∨ g.count ≤ g.index)) (h2 : ¬ ((Tm.cur l sn g).count ≠ g.count ∨ (Tm.cur l sn g).version ≠ g.version)) (h3 : (Tm.cur l sn g).s.has g.index = false) (h4 : ¬ m.by_ < (Tm.cur l sn g).s.size + g.body.length) {R : List Tm.One}
    (hR : Tm.shrink m.by_ (sn, g.epoch, g.id) (Tm.opened m l (sn, g.epoch, g.id) ((Tm.cur l sn g).plus g)).length (Tm.opened m l (sn, g.epoch, g.id) ((Tm.cur l sn g).plus g)) = R) :
    Tm.put m l sn g = (if ((Tm.cur l sn g).plus g).s.full then ⟨((Tm.cur l sn g).plus g).s.whole, true, 0, Tm.wo R (sn, g.epoch, g.id)⟩ else ⟨[], false, 0, R⟩) := by
  unfold Tm.put; rw [if_neg h, if_neg h2, if_neg (by rw [h3]; decide), if_neg h4]; dsimp only; rw [hR]
end Go.Proofs.Ytbhdgfpaoghnbaa
