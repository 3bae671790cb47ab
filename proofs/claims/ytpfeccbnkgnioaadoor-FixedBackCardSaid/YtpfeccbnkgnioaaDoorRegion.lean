/- A region that draws its order, walked in ONE order: what yields in every world that meets S is taken where the plan says, all else comes alone. -/
import Derived.OrdersHeld
import Derived.RegionTactic
import Derived.Deep.RegionHeld
namespace Go.Proofs.YtpfeccbnkgnioaaDoor

section
variable {P : Program} {ops : Array Oper} {Q : Exit → Act → World → Prop} {S : World → Prop}

/-- (i, true): operation i is taken; (i, false): it is the only one that may come up -/
def okPlan (ops : Array Oper) : List (Nat × Bool) → Array Bool → Bool
  | [], listed => (Region.ready .any ops listed).isEmpty
  | (i, true) :: r, listed => Region.free .any ops listed i && (Region.ready .any ops listed).contains i && okPlan ops r (listed.setIfInBounds i true)
  | (i, false) :: r, listed => (Region.ready .any ops listed == [i]) && okPlan ops r (listed.setIfInBounds i true)

/-- what is to be shown along the plan -/
def Along (P : Program) (ops : Array Oper) (Q : Exit → Act → World → Prop) (S : World → Prop) : List (Nat × Bool) → Act → World → Prop
  | [], a, w => Q .normal a w
  | (i, true) :: r, a, w => ∃ o v, ops[i]? = some o ∧ YieldsIf P ops S o v a ∧ Along P ops Q S r (a.put o.dst v) w
  | (i, false) :: r, a, w => wpOp P ops Q i (fun a' w' => S w' ∧ Along P ops Q S r a' w') a w

theorem put_any_dst (hQ : ∀ t v c a w, Q (.panic c) (Act.put a (some t) v) w → Q (.panic c) a w) (d : Option Tmp) (v : Value) : ∀ c a w, Q (.panic c) (Act.put a d v) w → Q (.panic c) a w := by
  cases d with
  | none => exact fun _ _ _ h => h
  | some t => exact hQ t v

theorem along_sound (hs : Region.noSelect ops = true) (hQ : ∀ t v c a w, Q (.panic c) (Act.put a (some t) v) w → Q (.panic c) a w) :
    ∀ (r : List (Nat × Bool)) (listed : Array Bool) (a : Act) (w : World), okPlan ops r listed = true → S w → Along P ops Q S r a w → wpAnyH P .any ops Q S r.length listed a w
  | [], listed, a, w, hk, _, h => wpAnyH_done (by simpa [okPlan] using hk) h _
  | (i, true) :: r, listed, a, w, hk, hS, h => by
    obtain ⟨o, v, ho, hy, h⟩ := h
    simp only [okPlan, Bool.and_eq_true] at hk
    exact wpAnyH_take ho hs hk.1.1 hk.1.2 (put_any_dst hQ _ _) hy hS (along_sound hs hQ r _ _ _ hk.2 hS h)
  | (i, false) :: r, listed, a, w, hk, hS, h => by
    simp only [okPlan, Bool.and_eq_true, beq_iff_eq] at hk
    refine wpAnyH_all hk.1 (by simp) fun j hj => ?_
    obtain rfl : j = i := by simpa using hj
    exact wpOp_mono (fun a' w' h' => ⟨h'.1, along_sound hs hQ r _ _ _ hk.2 h'.1 h'.2⟩) h

theorem wp_region_plan {id : Nat} {a : Act} {w : World} (plan : List (Nat × Bool)) (hm : P.follows .mixedOrders = true) (hs : Region.noSelect ops = true) (hl : plan.length = ops.size)
    (hk : okPlan ops plan (Array.replicate ops.size false) = true) (hQ : ∀ t v c a w, Q (.panic c) (Act.put a (some t) v) w → Q (.panic c) a w)
    (hS : S w.drew) (h : Along P ops Q S plan a w.drew) : (Code.region id ops true).wp P Q a w := by
  have := along_sound hs hQ plan _ _ _ hk hS h
  rw [hl] at this
  exact wp_region_held hm this

theorem along_done {a : Act} {w : World} (h : Q .normal a w) : Along P ops Q S [] a w := h
theorem at_of_list {i : Nat} {o : Oper} (h : ops.toList[i]? = some o) : ops[i]? = some o := by rw [← h, Array.getElem?_toList]
theorem along_take {i : Nat} {r : List (Nat × Bool)} {a : Act} {w : World} {o : Oper} {v : Value} (ho : ops.toList[i]? = some o) (hw : Region.wanted o (yielded ops a.tmps) = true)
    (hy : ∀ W, S W → (execOp a.eval o).run P W = .ok (.value v) W) (h : Along P ops Q S r (a.put o.dst v) w) : Along P ops Q S ((i, true) :: r) a w :=
  ⟨o, v, at_of_list ho, .inl ⟨hw, hy⟩, h⟩
theorem along_skip {i : Nat} {r : List (Nat × Bool)} {a : Act} {w : World} {o : Oper} (ho : ops.toList[i]? = some o) (hw : Region.wanted o (yielded ops a.tmps) = false)
    (h : Along P ops Q S r (a.put o.dst undef) w) : Along P ops Q S ((i, true) :: r) a w :=
  ⟨o, undef, at_of_list ho, .inr ⟨hw, rfl⟩, h⟩
theorem along_step {i : Nat} {r : List (Nat × Bool)} {a : Act} {w : World} {o : Oper} (ho : ops.toList[i]? = some o)
    (h : ∀ K' : Act → World → Prop, Shut (∀ a w, S w → Along P ops Q S r a w → K' a w) → if Region.wanted o (yielded ops a.tmps) = true then Oper.wp P o a w K' Q else K' (a.put o.dst undef) w) : Along P ops Q S ((i, false) :: r) a w :=
  wpOp_step (at_of_list ho) fun K' hK => h K' (fun a w hS hA => hK a w ⟨hS, hA⟩)

/-! ### the same, where what is known of the worlds to come may grow behind each step -/

theorem wpAnyH_less {S S' : World → Prop} (hs : ∀ W, S' W → S W) : ∀ (fuel : Nat) (listed : Array Bool) (a : Act) (w : World), wpAnyH P .any ops Q S' fuel listed a w → wpAnyH P .any ops Q S fuel listed a w
  | 0, _, _, _, h => h
  | fuel + 1, _, _, _, h => ⟨h.1, fun i hi => wpOp_mono (fun a' w' h' => ⟨hs _ h'.1, wpAnyH_less hs fuel _ a' w' h'.2⟩) (h.2 i hi)⟩

def AlongS (P : Program) (ops : Array Oper) (Q : Exit → Act → World → Prop) : List (Nat × Bool) → (World → Prop) → Act → World → Prop
  | [], _, a, w => Q .normal a w
  | (i, true) :: r, S, a, w => ∃ o v, ops[i]? = some o ∧ YieldsIf P ops S o v a ∧ AlongS P ops Q r S (a.put o.dst v) w
  | (i, false) :: r, S, a, w => wpOp P ops Q i (fun a' w' => ∃ S' : World → Prop, (∀ W, S' W → S W) ∧ S' w' ∧ AlongS P ops Q r S' a' w') a w

theorem alongS_sound (hs : Region.noSelect ops = true) (hQ : ∀ t v c a w, Q (.panic c) (Act.put a (some t) v) w → Q (.panic c) a w) :
    ∀ (r : List (Nat × Bool)) (S : World → Prop) (listed : Array Bool) (a : Act) (w : World), okPlan ops r listed = true → S w → AlongS P ops Q r S a w → wpAnyH P .any ops Q S r.length listed a w
  | [], S, listed, a, w, hk, _, h => wpAnyH_done (by simpa [okPlan] using hk) h _
  | (i, true) :: r, S, listed, a, w, hk, hS, h => by
    obtain ⟨o, v, ho, hy, h⟩ := h
    simp only [okPlan, Bool.and_eq_true] at hk
    exact wpAnyH_take ho hs hk.1.1 hk.1.2 (put_any_dst hQ _ _) hy hS (alongS_sound hs hQ r S _ _ _ hk.2 hS h)
  | (i, false) :: r, S, listed, a, w, hk, hS, h => by
    simp only [okPlan, Bool.and_eq_true, beq_iff_eq] at hk
    refine wpAnyH_all hk.1 (by simp) fun j hj => ?_
    obtain rfl : j = i := by simpa using hj
    refine wpOp_mono (fun a' w' h' => ?_) h
    obtain ⟨S', h1, h2, h3⟩ := h'
    exact ⟨h1 _ h2, wpAnyH_less h1 _ _ _ _ (alongS_sound hs hQ r S' _ _ _ hk.2 h2 h3)⟩

theorem wp_region_plans {id : Nat} {a : Act} {w : World} (S : World → Prop) (plan : List (Nat × Bool)) (hm : P.follows .mixedOrders = true) (hs : Region.noSelect ops = true) (hl : plan.length = ops.size)
    (hk : okPlan ops plan (Array.replicate ops.size false) = true) (hQ : ∀ t v c a w, Q (.panic c) (Act.put a (some t) v) w → Q (.panic c) a w)
    (hS : S w.drew) (h : AlongS P ops Q plan S a w.drew) : (Code.region id ops true).wp P Q a w := by
  have := alongS_sound hs hQ plan S _ _ _ hk hS h
  rw [hl] at this
  exact wp_region_held hm this
theorem alongs_done {a : Act} {w : World} (h : Q .normal a w) : AlongS P ops Q [] S a w := h
theorem alongs_take {i : Nat} {r : List (Nat × Bool)} {a : Act} {w : World} {o : Oper} {v : Value} (ho : ops.toList[i]? = some o) (hw : Region.wanted o (yielded ops a.tmps) = true)
    (hy : ∀ W, S W → (execOp a.eval o).run P W = .ok (.value v) W) (h : AlongS P ops Q r S (a.put o.dst v) w) : AlongS P ops Q ((i, true) :: r) S a w :=
  ⟨o, v, at_of_list ho, .inl ⟨hw, hy⟩, h⟩
theorem alongs_skip {i : Nat} {r : List (Nat × Bool)} {a : Act} {w : World} {o : Oper} (ho : ops.toList[i]? = some o) (hw : Region.wanted o (yielded ops a.tmps) = false)
    (h : AlongS P ops Q r S (a.put o.dst undef) w) : AlongS P ops Q ((i, true) :: r) S a w :=
  ⟨o, undef, at_of_list ho, .inr ⟨hw, rfl⟩, h⟩
theorem alongs_step {i : Nat} {r : List (Nat × Bool)} {a : Act} {w : World} {o : Oper} (ho : ops.toList[i]? = some o)
    (h : ∀ K' : Act → World → Prop, Shut (∀ (S' : World → Prop) a w, (∀ W, S' W → S W) → S' w → AlongS P ops Q r S' a w → K' a w) → if Region.wanted o (yielded ops a.tmps) = true then Oper.wp P o a w K' Q else K' (a.put o.dst undef) w) : AlongS P ops Q ((i, false) :: r) S a w :=
  wpOp_step (at_of_list ho) fun K' hK => h K' (fun S' a w h1 h2 h3 => hK a w ⟨S', h1, h2, h3⟩)
end
end Go.Proofs.YtpfeccbnkgnioaaDoor
