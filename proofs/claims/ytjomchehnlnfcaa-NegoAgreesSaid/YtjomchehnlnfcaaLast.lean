/- A region that draws its order, and whose last operation is the only one behind which nothing need be known of the world (it stores what the others load). -/
import Derived.Test.YtjomchehnlnfcaaPA
namespace Go.Proofs.Ytjomchehnlnfcaa

section
variable {P : Program} {ops : Array Oper} {Q : Exit → Act → World → Prop} {md : Region.Mode} {S : World → Prop}

/-- whatever order is picked, and S holds behind every operation but number z -/
def wpAnyL (P : Program) (md : Region.Mode) (ops : Array Oper) (Q : Exit → Act → World → Prop) (S : World → Prop) (z : Nat) : Nat → Array Bool → Act → World → Prop
  | 0, listed, a, w => Region.ready md ops listed = [] ∧ Q .normal a w
  | fuel + 1, listed, a, w =>
    (Region.ready md ops listed = [] → Q .normal a w) ∧
    ∀ i ∈ Region.ready md ops listed, wpOp P ops Q i (fun a' w' => (i ≠ z → S w') ∧ wpAnyL P md ops Q S z fuel (listed.setIfInBounds i true) a' w') a w
theorem wpAny_of_last (z : Nat) : ∀ (fuel : Nat) (listed : Array Bool) (a : Act) (w : World), wpAnyL P md ops Q S z fuel listed a w → wpAny P md ops Q fuel listed a w
  | 0, _, _, _, h => h
  | fuel + 1, _, _, _, h => ⟨h.1, fun i hi => wpOp_mono (fun a' w' h' => wpAny_of_last z fuel _ a' w' h'.2) (h.2 i hi)⟩
/-- number i, for which number z waits, may be taken first if it yields its value in every world that meets S -/
theorem wpAnyL_first {i z : Nat} {oi : Oper} {v : Value} (hi : ops[i]? = some oi) (hsel : ∀ (j : Nat) (o : Oper) cs b, ops[j]? = some o → o.op ≠ .select cs b)
    (hQ : ∀ c a w, Q (.panic c) (a.put oi.dst v) w → Q (.panic c) a w) (hz : ∀ oz, ops[z]? = some oz → ∃ e ∈ oz.after, Region.binds md e = true ∧ e.on = i) :
    ∀ (fuel : Nat) (listed : Array Bool) (a : Act) (w : World),
      (∀ j oj, ops[j]? = some oj → j ≠ i → listed.getD j true = false → (∀ e ∈ oj.after, Region.binds md e = true → e.on ≠ i) → oi.apart ops oj = true) →
      i ∈ Region.ready md ops listed → YieldsIf P ops S oi v a → S w →
      wpAnyL P md ops Q S z fuel (listed.setIfInBounds i true) (a.put oi.dst v) w → wpAnyL P md ops Q S z (fuel + 1) listed a w := by
  intro fuel
  induction fuel with
  | zero =>
    intro listed a w _ hr hy hS H
    refine ⟨fun h => (by rw [h] at hr; cases hr), fun j hj => ?_⟩
    by_cases hji : j = i
    · subst hji; exact hy.wpOp hi hS ⟨fun _ => hS, H⟩
    · have := ready_mono hj hji
      rw [H.1] at this
      cases this
  | succ fuel ih =>
    intro listed a w hfree hr hy hS H
    refine ⟨fun h => (by rw [h] at hr; cases hr), fun j hj => ?_⟩
    by_cases hji : j = i
    · subst hji; exact hy.wpOp hi hS ⟨fun _ => hS, H⟩
    · have h1 := H.2 j (ready_mono hj hji)
      obtain ⟨hjun, oj, hoj, hall⟩ := mem_ready.1 hj
      have hnot : ∀ e ∈ oj.after, Region.binds md e = true → e.on ≠ i := fun e he hb heq => by
        have h1 := hall e he hb
        have h0 := (mem_ready.1 hr).1
        rw [heq] at h1
        rcases Nat.lt_or_ge i listed.size with h' | h'
        · simp [h'] at h0 h1; rw [h0] at h1; cases h1
        · simp [Array.getElem?_eq_none h'] at h1
      have hjz : j ≠ z := fun e => by
        subst e
        obtain ⟨e, he, hb, hon⟩ := hz oj hoj
        exact hnot e he hb hon
      have h2 := wpOp_putIf hoj (hfree j oj hoj hji hjun hnot) (fun cs b => hsel i oi cs b hi) (fun cs b => hsel j oj cs b hoj) hQ hy h1
      have hfree' : ∀ k ok, ops[k]? = some ok → k ≠ i → (listed.setIfInBounds j true).getD k true = false →
          (∀ e ∈ ok.after, Region.binds md e = true → e.on ≠ i) → oi.apart ops ok = true := fun k ok hk hki hun hno => by
        refine hfree k ok hk hki ?_ hno
        by_cases hjk : j = k
        · subst hjk; exact hjun
        · rw [getD_set_ne true hjk] at hun; exact hun
      refine wpOp_mono (fun a' w' h3 => ⟨fun _ => h3.2.1 hjz, ih (listed.setIfInBounds j true) a' w' hfree' (ready_mono hr (Ne.symm hji)) h3.1 (h3.2.1 hjz) ?_⟩) h2
      rw [Array.setIfInBounds_comm _ _ hji]
      exact h3.2.2

/-- (i, true): operation i is taken, and number z waits for it; (i, false): it is the only one that may come up -/
def okLast (ops : Array Oper) (z : Nat) : List (Nat × Bool) → Array Bool → Bool
  | [], listed => (Region.ready .any ops listed).isEmpty
  | (i, true) :: r, listed => Region.free .any ops listed i && (Region.ready .any ops listed).contains i && ((ops[z]?).all fun oz => oz.after.toList.any fun e => Region.binds .any e && e.on == i) && okLast ops z r (listed.setIfInBounds i true)
  | (i, false) :: r, listed => (Region.ready .any ops listed == [i]) && okLast ops z r (listed.setIfInBounds i true)
def AlongL (P : Program) (ops : Array Oper) (Q : Exit → Act → World → Prop) (S : World → Prop) (z : Nat) : List (Nat × Bool) → Act → World → Prop
  | [], a, w => Q .normal a w
  | (i, true) :: r, a, w => ∃ o v, ops[i]? = some o ∧ YieldsIf P ops S o v a ∧ AlongL P ops Q S z r (a.put o.dst v) w
  | (i, false) :: r, a, w => wpOp P ops Q i (fun a' w' => (i ≠ z → S w') ∧ AlongL P ops Q S z r a' w') a w
/-- behind number z there is nothing to be taken -/
def endsAt (z : Nat) : List (Nat × Bool) → Bool
  | [] => true
  | (i, b) :: r => (if i = z then r.isEmpty && !b else endsAt z r)
theorem alongL_sound (z : Nat) (hs : Region.noSelect ops = true) (hQ : ∀ t v c a w, Q (.panic c) (Act.put a (some t) v) w → Q (.panic c) a w) :
    ∀ (r : List (Nat × Bool)) (listed : Array Bool) (a : Act) (w : World), okLast ops z r listed = true → endsAt z r = true → S w → AlongL P ops Q S z r a w → wpAnyL P .any ops Q S z r.length listed a w
  | [], listed, a, w, hk, _, _, h => ⟨by simpa [okLast] using hk, h⟩
  | (i, true) :: r, listed, a, w, hk, he, hS, h => by
    obtain ⟨o, v, ho, hy, h⟩ := h
    simp only [okLast, Bool.and_eq_true] at hk
    obtain ⟨⟨⟨k1, k2⟩, k3⟩, k4⟩ := hk
    have hiz : i ≠ z := fun e => by subst e; simp [endsAt] at he
    have he' : endsAt z r = true := by simpa [endsAt, hiz] using he
    refine wpAnyL_first ho (Region.noSelect_spec hs) (put_any_dst hQ _ _) (fun oz hoz => ?_) r.length listed a w (Region.free_spec ho k1) (by simpa using k2) hy hS (alongL_sound z hs hQ r _ _ _ k4 he' hS h)
    rw [hoz] at k3
    simp only [Option.all_some, List.any_eq_true, Bool.and_eq_true, beq_iff_eq] at k3
    obtain ⟨e, h1, h2, h3⟩ := k3
    exact ⟨e, by simpa using h1, h2, h3⟩
  | (i, false) :: r, listed, a, w, hk, he, hS, h => by
    simp only [okLast, Bool.and_eq_true, beq_iff_eq] at hk
    refine ⟨fun h0 => absurd (hk.1 ▸ h0) (by simp), hk.1 ▸ fun j hj => ?_⟩
    obtain rfl : j = i := by simpa using hj
    refine wpOp_mono (fun a' w' h' => ⟨h'.1, ?_⟩) h
    by_cases hiz : j = z
    · subst hiz
      have hr : r = [] := by simpa [endsAt] using he
      subst hr
      exact ⟨by simpa [okLast] using hk.2, h'.2⟩
    · exact alongL_sound z hs hQ r _ _ _ hk.2 (by simpa [endsAt, hiz] using he) (h'.1 hiz) h'.2
theorem wp_region_last {id : Nat} {a : Act} {w : World} (z : Nat) (plan : List (Nat × Bool)) (hm : P.follows .mixedOrders = true) (hs : Region.noSelect ops = true) (hl : plan.length = ops.size)
    (hk : okLast ops z plan (Array.replicate ops.size false) = true) (he : endsAt z plan = true) (hQ : ∀ t v c a w, Q (.panic c) (Act.put a (some t) v) w → Q (.panic c) a w)
    (hS : S w.drew) (h : AlongL P ops Q S z plan a w.drew) : (Code.region id ops true).wp P Q a w := by
  have := alongL_sound z hs hQ plan _ _ _ hk he hS h
  rw [hl] at this
  exact wp_region_any hm (wpAny_of_last z _ _ _ _ this)
theorem alongL_done {z : Nat} {a : Act} {w : World} (h : Q .normal a w) : AlongL P ops Q S z [] a w := h
theorem alongL_take {i z : Nat} {r : List (Nat × Bool)} {a : Act} {w : World} {o : Oper} {v : Value} (ho : ops.toList[i]? = some o) (hw : Region.wanted o (yielded ops a.tmps) = true)
    (hy : ∀ W, S W → (execOp a.eval o).run P W = .ok (.value v) W) (h : AlongL P ops Q S z r (a.put o.dst v) w) : AlongL P ops Q S z ((i, true) :: r) a w :=
  ⟨o, v, at_of_list ho, .inl ⟨hw, hy⟩, h⟩
theorem alongL_step {i z : Nat} {r : List (Nat × Bool)} {a : Act} {w : World} {o : Oper} (ho : ops.toList[i]? = some o)
    (h : ∀ K' : Act → World → Prop, Shut (∀ a w, S w → AlongL P ops Q S z r a w → K' a w) → if Region.wanted o (yielded ops a.tmps) = true then Oper.wp P o a w K' Q else K' (a.put o.dst undef) w) : AlongL P ops Q S z ((i, false) :: r) a w :=
  wpOp_step (at_of_list ho) fun K' hK => h K' (fun a w hS hA => hK a w ⟨fun _ => hS, hA⟩)
/-- the last one -/
theorem alongL_last {z : Nat} {a : Act} {w : World} {o : Oper} (ho : ops.toList[z]? = some o)
    (h : ∀ K' : Act → World → Prop, Shut (∀ a w, Q .normal a w → K' a w) → if Region.wanted o (yielded ops a.tmps) = true then Oper.wp P o a w K' Q else K' (a.put o.dst undef) w) : AlongL P ops Q S z [(z, false)] a w :=
  wpOp_step (at_of_list ho) fun K' hK => h K' (fun a w hA => hK a w ⟨fun e => absurd rfl e, hA⟩)
end
end Go.Proofs.Ytjomchehnlnfcaa
