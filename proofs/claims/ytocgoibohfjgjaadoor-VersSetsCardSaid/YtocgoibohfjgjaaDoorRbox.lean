/- A range over a function that keeps its state in blocks of its own, whose rounds all go on: one law for the caller. -/
import Derived.RangeFuncFrom
import Derived.RangeFuncBound
import Derived.RangeFuncCalls
import Derived.RangeFuncLeaves
import Derived.Shelf.Abstract
import Derived.Shelf.RegionOpen
import Derived.WalkKit
import Derived.OwnWalkIn
import Derived.TacticsInMore
import Derived.LoopNIn
import Derived.LoopIn
import Derived.Test.YtocgoibohfjgjaaDoorPA
namespace Go.Proofs.YtocgoibohfjgjaaDoor
open Go.RowKit
set_option linter.unusedVariables false

/-- what a caller's word on the world bears: new blocks; a turn of block B; a turn of what is no cells, from D on -/
def Bears {α : Type} (B D : Nat) (I : List α → World → Prop) : Prop :=
  ∀ s W W' row, I s W → W.grownBy W' row → (∀ r, row = some r → r = B ∨ (D ≤ r ∧ ∃ o : Obj, W.heap[r]? = some o ∧ o.isCells = false)) → I s W'
/-- the function that is ranged over: whatever the caller's word J (that bears a turn of B), each element comes to a round, and the rounds' elements are such that S -/
def Yields {α : Type} (P : Program) (g : Nat) (lb : Array Value) (enc : α → Value) (Ok : α → Prop) (Kp : World → World → Prop) (B : Nat) (S : List α → Prop) (W : World) : Prop :=
  ∀ (l : Nat) (J : List α → World → Prop), (∀ s A A' row, J s A → A.grownBy A' row → (∀ r, row = some r → r = B) → J s A') →
    (∀ pre x A, Ok x → J pre A → YieldAt Fence.wide 1 P l #[enc x] A fun e A' => e = .returned (.bool true) ∧ J (pre ++ [x]) A' ∧ Kp A A') → J [] W →
    CallsIn Fence.wide 2 P g (#[.func (.yield l) #[] #[]] ++ lb) W fun e A' => (∃ v, e = .returned v) ∧ ∃ xs, S xs ∧ J xs A'
/-- how a round must be left: off its end -/
def onward {α : Type} (Kp : World → World → Prop) (I : List α → World → Prop) (xs : List α) (W : World) : Exit → Act → World → Prop
  | .normal, _, W' => KeepsOthers W W' ∧ Kp W W' ∧ I xs W'
  | _, _, _ => False
theorem range_box {α : Type} {P : Program} {g : Operand} {p : Tmp} {assign body : Code} {Q : Exit → Act → World → Prop} {a : Act} {w : World} {gf : Nat} {lb : Array Value}
    (hg : a.eval g = .func (.func gf) #[] lb) (eg : ∀ args w, (callFunc gf args).run P w = .ok (.enter gf args) w)
    {enc : α → Value} {Ok : α → Prop} {Kp : World → World → Prop} {B : Nat} {S : List α → Prop} (hB : B < w.heap.size)
    (hseq : ∀ W, Below w.heap.size w W → Yields P gf lb enc Ok Kp B S W)
    (hKt : ∀ {X Y Z : World}, Kp X Y → Kp Y Z → Kp X Z) (hKb : ∀ (W : World) (l : Nat) (o' : Obj), w.heap.size ≤ l → Kp W (W.putObj l o'))
    (I : List α → World → Prop) (hI : Bears B w.heap.size I) (h0 : I [] w) (a₁ : α → Act)
    (hassign : ∀ (l : Nat) (x : α) (W : World) (K : Act → World → Prop), K (a₁ x) W →
      assign.wpIn (Fence.wide.inRound l) 1 P (Exit.then K (fun _ _ _ => False)) { tmps := a.tmps.setIfInBounds p (enc x), defers := [] } W)
    (hbody : ∀ (l : Nat) (pre : List α) (x : α) (W : World), Ok x → I pre W → body.wpIn (Fence.wide.inRound l) 1 P (onward Kp I (pre ++ [x]) W) (a₁ x) W)
    (hdone : ∀ (D : Nat) (xs : List α) (W : World), w.heap.size ≤ D → S xs → I xs W → W.heap[D]? = some (.deferred (some [])) → Q .normal { a with defers := { target := .collected D, args := #[] } :: a.defers } W) :
    (Code.rangeFunc g #[p] assign body).wpIn Fence.wide 3 P Q a w := by
  refine wpIn_rangeFunc fun fn hfn => ?_
  obtain ⟨R, hR⟩ : ∃ R : LoopState → Loop, R = fun st => { state := st, pending := none, fn, tmps := a.tmps, params := #[p], assign, body, defers := w.heap.size } := ⟨_, rfl⟩
  obtain ⟨V, hV⟩ : ∃ V, V = (w.alloc (.deferred (some []))).alloc (.loop (R .ready)) := ⟨_, rfl⟩
  have v1 : V.heap[w.heap.size + 1]? = some (.loop (R .ready)) := by
    have := World.alloc_heap_new (w.alloc (.deferred (some []))) (.loop (R .ready))
    rw [World.size_alloc, ← hV] at this
    exact this
  have v0 : V.heap[w.heap.size]? = some (.deferred (some [])) := by
    rw [hV, Below.heap_alloc _ _ _ (by rw [World.size_alloc]; omega)]
    exact World.alloc_heap_new w _
  have vb : Below w.heap.size w V := by
    rw [hV]
    exact ((Below.refl _ w).alloc (Nat.le_refl _) _).alloc (by rw [World.size_alloc]; omega) _
  have vi : I [] V := by
    rw [hV]
    exact hI _ _ _ none (hI _ _ _ none h0 (World.grownBy_alloc w _ none) (fun r e => by cases e)) (World.grownBy_alloc _ _ none) (fun r e => by cases e)
  -- the loop's own two blocks
  obtain ⟨T, hT⟩ : ∃ T : World → Prop, T = fun W => W.heap[w.heap.size + 1]? = some (.loop (R .ready)) ∧ W.heap[w.heap.size]? = some (.deferred (some [])) := ⟨_, rfl⟩
  have put : ∀ {s : List α} {W : World} {o : Obj} (o' : Obj), I s W → W.heap[w.heap.size + 1]? = some o → o.isCells = false → I s (W.putObj (w.heap.size + 1) o') := fun o' hi ho hc =>
    hI _ _ _ (some (w.heap.size + 1)) hi (grownBy_putObj' _ _ _) (fun r e => by cases e; exact .inr ⟨by omega, _, ho, hc⟩)
  refine ⟨w.heap.size + 1, [{ target := .collected w.heap.size, args := #[] }], V, { target := .fn (.func gf) lb, args := #[.func (.yield (w.heap.size + 1)) #[] #[]] }, V, gf,
    #[.func (.yield (w.heap.size + 1)) #[] #[]] ++ lb, V, ?_, ?_, fun _ _ => trivial, ?_, fun h => ?_, ?_⟩
  · rw [hV, hR]
    exact run_enterLoop_outer fn a.tmps #[p] assign body
  · simp only [resolve, hg]
    simp [go_sem]
  · simp [invoke, go_sem, eg]
  · cases h
  · refine (hseq V vb (w.heap.size + 1) (fun pre W => I pre W ∧ T W) (fun s A A' row hs hgr hr => ?_) (fun pre x W hx hj => ?_) ⟨vi, by rw [hT]; exact ⟨v1, v0⟩⟩).mono ?_
    · rw [hT] at hs ⊢
      have keep : ∀ k (o : Obj), w.heap.size ≤ k → A.heap[k]? = some o → A'.heap[k]? = some o := fun k o hk ho =>
        (hgr.block k (Array.getElem?_eq_some_iff.1 ho).1 (fun e => by have := hr k e.symm; omega)).trans ho
      exact ⟨hI s A A' row hs.1 hgr (fun r e => .inl (hr r e)), keep _ _ (by omega) hs.2.1, keep _ _ (Nat.le_refl _) hs.2.2⟩
    · rw [hT] at hj ⊢
      obtain ⟨hi, hl, hd⟩ := hj
      have hlt := (Array.getElem?_eq_some_iff.1 hl).1
      have hy := run_yield (P := P) (args := #[enc x]) hl (by rw [hR]; rfl)
      rw [hR] at hy
      have hz : (#[p].zip #[enc x]).foldl (fun (tmps : Array Value) (x : Tmp × Value) => match x with | (t, a) => tmps.setIfInBounds t a) a.tmps = a.tmps.setIfInBounds p (enc x) := by simp
      dsimp only at hy
      rw [hz] at hy
      refine ⟨fn, _, assign, body, hy, roundIn_of_wpIn trivial ?_⟩
      refine hassign (w.heap.size + 1) x W _ ?_
      refine ⟨_, run_beginRound hl (by rw [hR]), ?_⟩
      obtain ⟨Wb, hWb⟩ : ∃ Wb, Wb = W.putObj (w.heap.size + 1) (.loop (R .busy)) := ⟨_, rfl⟩
      have hR2 : W.putObj (w.heap.size + 1) (.loop { R .ready with state := .busy }) = Wb := by rw [hWb, hR]
      rw [hR2]
      have bl : Wb.heap[w.heap.size + 1]? = some (.loop (R .busy)) := by rw [hWb]; exact World.putObj_heap_same hlt
      have bd : Wb.heap[w.heap.size]? = some (.deferred (some [])) := by rw [hWb]; exact (World.putObj_heap_other (by omega)).trans hd
      have bi : I pre Wb := by rw [hWb]; exact put _ hi hl rfl
      have bk : Kp W Wb := by rw [hWb]; exact hKb _ _ _ (by omega)
      refine wpIn_mono (hbody (w.heap.size + 1) pre x Wb hx bi) fun e a' W' hp => ?_
      cases e with
      | normal =>
        obtain ⟨ko, kp, ki⟩ := hp
        have el := ko.same _ _ bl rfl
        have ed := ko.same _ _ bd rfl
        have er := run_endRound (P := P) none el
        have hR3 : ({ R .busy with state := if (none : Option Code).isNone then .ready else .done, pending := none } : Loop) = R .ready := by rw [hR]; rfl
        rw [hR3] at er
        refine ⟨_, _, er, rfl, ⟨put _ ki el rfl, World.putObj_heap_same (Array.getElem?_eq_some_iff.1 el).1, (World.putObj_heap_other (by omega)).trans ed⟩, ?_⟩
        exact hKt (hKt bk kp) (hKb _ _ _ (by omega))
      | ret => exact hp.elim
      | exit id => exact hp.elim
      | goto t => exact hp.elim
      | panic c => exact hp.elim
      | outgrown => exact hp.elim
    · rintro e W ⟨⟨v, rfl⟩, xs, hS, hj⟩
      rw [hT] at hj
      obtain ⟨hi, hl, hd⟩ := hj
      have en := run_endLoop (P := P) hl (by rw [hR]; simp)
      refine ⟨none, _, by rw [hR] at en; exact en, ?_⟩
      exact hdone w.heap.size xs _ (Nat.le_refl _) hS (put _ hi hl rfl) ((World.putObj_heap_other (by omega)).trans hd)
end Go.Proofs.YtocgoibohfjgjaaDoor
