/- A region that draws its order, with an operation that may come up beside others: a plan with forks. -/
import Derived.Test.YtandkgdlcdoikaaLast
import Derived.Test.YtandkgdlcdoikaaPA
namespace Go.Proofs.Ytandkgdlcdoikaa

/-- take i: operation i is taken; step i: it is the only one that may come up; fork i j: these two may come up, and each way has its own plan; trio: three -/
inductive Pl where
  | done
  | take (i : Nat) (r : Pl)
  | step (i : Nat) (r : Pl)
  | fork (i j : Nat) (r s : Pl)
  | trio (i j k : Nat) (r s t : Pl)
def Pl.len : Pl → Nat
  | done => 0
  | take _ r => r.len + 1
  | step _ r => r.len + 1
  | fork _ _ r _ => r.len + 1
  | trio _ _ _ r _ _ => r.len + 1
section
variable {P : Program} {ops : Array Oper} {Q : Exit → Act → World → Prop} {S : World → Prop}
def okFork (ops : Array Oper) (z : Nat) : Pl → Array Bool → Bool
  | .done, listed => (Region.ready .any ops listed).isEmpty
  | .take i r, listed => Region.free .any ops listed i && (Region.ready .any ops listed).contains i && ((ops[z]?).all fun oz => oz.after.toList.any fun e => Region.binds .any e && e.on == i) && okFork ops z r (listed.setIfInBounds i true)
  | .step i r, listed => (Region.ready .any ops listed == [i]) && okFork ops z r (listed.setIfInBounds i true)
  | .fork i j r s, listed => (Region.ready .any ops listed == [i, j]) && (s.len == r.len) && okFork ops z r (listed.setIfInBounds i true) && okFork ops z s (listed.setIfInBounds j true)
  | .trio i j k r s t, listed => (Region.ready .any ops listed == [i, j, k]) && (s.len == r.len) && (t.len == r.len) && okFork ops z r (listed.setIfInBounds i true) && okFork ops z s (listed.setIfInBounds j true) && okFork ops z t (listed.setIfInBounds k true)
def AlongF (P : Program) (ops : Array Oper) (Q : Exit → Act → World → Prop) (S : World → Prop) (z : Nat) : Pl → Act → World → Prop
  | .done, a, w => Q .normal a w
  | .take i r, a, w => ∃ o v, ops[i]? = some o ∧ YieldsIf P ops S o v a ∧ AlongF P ops Q S z r (a.put o.dst v) w
  | .step i r, a, w => wpOp P ops Q i (fun a' w' => (i ≠ z → S w') ∧ AlongF P ops Q S z r a' w') a w
  | .fork i j r s, a, w => wpOp P ops Q i (fun a' w' => S w' ∧ AlongF P ops Q S z r a' w') a w ∧ wpOp P ops Q j (fun a' w' => S w' ∧ AlongF P ops Q S z s a' w') a w
  | .trio i j k r s t, a, w => wpOp P ops Q i (fun a' w' => S w' ∧ AlongF P ops Q S z r a' w') a w ∧ wpOp P ops Q j (fun a' w' => S w' ∧ AlongF P ops Q S z s a' w') a w ∧ wpOp P ops Q k (fun a' w' => S w' ∧ AlongF P ops Q S z t a' w') a w
def endsF (z : Nat) : Pl → Bool
  | .done => true
  | .take i r => (i != z) && endsF z r
  | .step i r => (if i = z then r.len == 0 else endsF z r)
  | .fork i j r s => (i != z) && (j != z) && endsF z r && endsF z s
  | .trio i j k r s t => (i != z) && (j != z) && (k != z) && endsF z r && endsF z s && endsF z t
theorem Pl.none {r : Pl} (h : r.len = 0) : r = .done := by
  cases r with
  | done => rfl
  | take i r => simp [Pl.len] at h
  | step i r => simp [Pl.len] at h
  | fork i j r s => simp [Pl.len] at h
  | trio i j k r s t => simp [Pl.len] at h
theorem alongF_sound (z : Nat) (hs : Region.noSelect ops = true) (hQ : ∀ t v c a w, Q (.panic c) (Act.put a (some t) v) w → Q (.panic c) a w) :
    ∀ (r : Pl) (listed : Array Bool) (a : Act) (w : World), okFork ops z r listed = true → endsF z r = true → S w → AlongF P ops Q S z r a w → wpAnyL P .any ops Q S z r.len listed a w
  | .done, listed, a, w, hk, _, _, h => ⟨by simpa [okFork] using hk, h⟩
  | .take i r, listed, a, w, hk, he, hS, h => by
    obtain ⟨o, v, ho, hy, h⟩ := h
    simp only [okFork, Bool.and_eq_true] at hk
    obtain ⟨⟨⟨k1, k2⟩, k3⟩, k4⟩ := hk
    have he' : endsF z r = true := by
      simp only [endsF, Bool.and_eq_true] at he
      exact he.2
    refine wpAnyL_first ho (Region.noSelect_spec hs) (put_any_dst hQ _ _) (fun oz hoz => ?_) r.len listed a w (Region.free_spec ho k1) (by simpa using k2) hy hS (alongF_sound z hs hQ r _ _ _ k4 he' hS h)
    rw [hoz] at k3
    simp only [Option.all_some, List.any_eq_true, Bool.and_eq_true, beq_iff_eq] at k3
    obtain ⟨e, h1, h2, h3⟩ := k3
    exact ⟨e, by simpa using h1, h2, h3⟩
  | .step i r, listed, a, w, hk, he, hS, h => by
    simp only [okFork, Bool.and_eq_true, beq_iff_eq] at hk
    refine ⟨fun h0 => absurd (hk.1 ▸ h0) (by simp), hk.1 ▸ fun j hj => ?_⟩
    obtain rfl : j = i := by simpa using hj
    refine wpOp_mono (fun a' w' h' => ⟨h'.1, ?_⟩) h
    by_cases hiz : j = z
    · subst hiz
      have hr : r = .done := Pl.none (by simpa [endsF] using he)
      subst hr
      exact ⟨by simpa [okFork] using hk.2, h'.2⟩
    · exact alongF_sound z hs hQ r _ _ _ hk.2 (by simpa [endsF, hiz] using he) (h'.1 hiz) h'.2
  | .fork i j r s, listed, a, w, hk, he, hS, h => by
    simp only [okFork, Bool.and_eq_true, beq_iff_eq] at hk
    simp only [endsF, Bool.and_eq_true, bne_iff_ne] at he
    obtain ⟨⟨⟨k1, k2⟩, k3⟩, k4⟩ := hk
    obtain ⟨⟨⟨e1, e2⟩, e3⟩, e4⟩ := he
    refine ⟨fun h0 => absurd (k1 ▸ h0) (by simp), k1 ▸ fun l hl => ?_⟩
    rcases List.mem_cons.1 hl with rfl | hl
    · exact wpOp_mono (fun a' w' h' => ⟨fun _ => h'.1, alongF_sound z hs hQ r _ _ _ k3 e3 h'.1 h'.2⟩) h.1
    · obtain rfl : l = j := by simpa using hl
      refine wpOp_mono (fun a' w' h' => ⟨fun _ => h'.1, ?_⟩) h.2
      rw [← k2]
      exact alongF_sound z hs hQ s _ _ _ k4 e4 h'.1 h'.2
  | .trio i j k r s t, listed, a, w, hk, he, hS, h => by
    simp only [okFork, Bool.and_eq_true, beq_iff_eq] at hk
    simp only [endsF, Bool.and_eq_true, bne_iff_ne] at he
    obtain ⟨⟨⟨⟨⟨k1, k2⟩, k2'⟩, k3⟩, k4⟩, k5⟩ := hk
    obtain ⟨⟨⟨⟨⟨e1, e2⟩, e2'⟩, e3⟩, e4⟩, e5⟩ := he
    refine ⟨fun h0 => absurd (k1 ▸ h0) (by simp), k1 ▸ fun l hl => ?_⟩
    rcases List.mem_cons.1 hl with rfl | hl
    · exact wpOp_mono (fun a' w' h' => ⟨fun _ => h'.1, alongF_sound z hs hQ r _ _ _ k3 e3 h'.1 h'.2⟩) h.1
    · rcases List.mem_cons.1 hl with rfl | hl
      · refine wpOp_mono (fun a' w' h' => ⟨fun _ => h'.1, ?_⟩) h.2.1
        rw [← k2]
        exact alongF_sound z hs hQ s _ _ _ k4 e4 h'.1 h'.2
      · obtain rfl : l = k := by simpa using hl
        refine wpOp_mono (fun a' w' h' => ⟨fun _ => h'.1, ?_⟩) h.2.2
        rw [← k2']
        exact alongF_sound z hs hQ t _ _ _ k5 e5 h'.1 h'.2
theorem wp_region_fork {id : Nat} {a : Act} {w : World} (z : Nat) (plan : Pl) (hm : P.follows .mixedOrders = true) (hs : Region.noSelect ops = true) (hl : plan.len = ops.size)
    (hk : okFork ops z plan (Array.replicate ops.size false) = true) (he : endsF z plan = true) (hQ : ∀ t v c a w, Q (.panic c) (Act.put a (some t) v) w → Q (.panic c) a w)
    (hS : S w.drew) (h : AlongF P ops Q S z plan a w.drew) : (Code.region id ops true).wp P Q a w := by
  have := alongF_sound z hs hQ plan _ _ _ hk he hS h
  rw [hl] at this
  exact wp_region_any hm (wpAny_of_last z _ _ _ _ this)
theorem alongF_take {i z : Nat} {r : Pl} {a : Act} {w : World} {o : Oper} {v : Value} (ho : ops.toList[i]? = some o) (hw : Region.wanted o (yielded ops a.tmps) = true)
    (hy : ∀ W, S W → (execOp a.eval o).run P W = .ok (.value v) W) (h : AlongF P ops Q S z r (a.put o.dst v) w) : AlongF P ops Q S z (.take i r) a w :=
  ⟨o, v, at_of_list ho, .inl ⟨hw, hy⟩, h⟩
theorem alongF_step {i z : Nat} {r : Pl} {a : Act} {w : World} {o : Oper} (ho : ops.toList[i]? = some o)
    (h : ∀ K' : Act → World → Prop, Shut (∀ a w, S w → AlongF P ops Q S z r a w → K' a w) → if Region.wanted o (yielded ops a.tmps) = true then Oper.wp P o a w K' Q else K' (a.put o.dst undef) w) : AlongF P ops Q S z (.step i r) a w :=
  wpOp_step (at_of_list ho) fun K' hK => h K' (fun a w hS hA => hK a w ⟨fun _ => hS, hA⟩)
theorem alongF_last {z : Nat} {a : Act} {w : World} {o : Oper} (ho : ops.toList[z]? = some o)
    (h : ∀ K' : Act → World → Prop, Shut (∀ a w, Q .normal a w → K' a w) → if Region.wanted o (yielded ops a.tmps) = true then Oper.wp P o a w K' Q else K' (a.put o.dst undef) w) : AlongF P ops Q S z (.step z .done) a w :=
  wpOp_step (at_of_list ho) fun K' hK => h K' (fun a w hA => hK a w ⟨fun e => absurd rfl e, hA⟩)
theorem alongF_fork {i j z : Nat} {r s : Pl} {a : Act} {w : World} {o o' : Oper} (ho : ops.toList[i]? = some o) (ho' : ops.toList[j]? = some o')
    (h : ∀ K' : Act → World → Prop, Shut (∀ a w, S w → AlongF P ops Q S z r a w → K' a w) → if Region.wanted o (yielded ops a.tmps) = true then Oper.wp P o a w K' Q else K' (a.put o.dst undef) w)
    (h' : ∀ K' : Act → World → Prop, Shut (∀ a w, S w → AlongF P ops Q S z s a w → K' a w) → if Region.wanted o' (yielded ops a.tmps) = true then Oper.wp P o' a w K' Q else K' (a.put o'.dst undef) w) : AlongF P ops Q S z (.fork i j r s) a w :=
  ⟨wpOp_step (at_of_list ho) fun K' hK => h K' (fun a w hS hA => hK a w ⟨hS, hA⟩), wpOp_step (at_of_list ho') fun K' hK => h' K' (fun a w hS hA => hK a w ⟨hS, hA⟩)⟩
theorem alongF_trio {i j k z : Nat} {r s t : Pl} {a : Act} {w : World} {o o' o'' : Oper} (ho : ops.toList[i]? = some o) (ho' : ops.toList[j]? = some o') (ho'' : ops.toList[k]? = some o'')
    (h : ∀ K' : Act → World → Prop, Shut (∀ a w, S w → AlongF P ops Q S z r a w → K' a w) → if Region.wanted o (yielded ops a.tmps) = true then Oper.wp P o a w K' Q else K' (a.put o.dst undef) w)
    (h' : ∀ K' : Act → World → Prop, Shut (∀ a w, S w → AlongF P ops Q S z s a w → K' a w) → if Region.wanted o' (yielded ops a.tmps) = true then Oper.wp P o' a w K' Q else K' (a.put o'.dst undef) w)
    (h'' : ∀ K' : Act → World → Prop, Shut (∀ a w, S w → AlongF P ops Q S z t a w → K' a w) → if Region.wanted o'' (yielded ops a.tmps) = true then Oper.wp P o'' a w K' Q else K' (a.put o''.dst undef) w) : AlongF P ops Q S z (.trio i j k r s t) a w :=
  ⟨wpOp_step (at_of_list ho) fun K' hK => h K' (fun a w hS hA => hK a w ⟨hS, hA⟩), wpOp_step (at_of_list ho') fun K' hK => h' K' (fun a w hS hA => hK a w ⟨hS, hA⟩), wpOp_step (at_of_list ho'') fun K' hK => h'' K' (fun a w hS hA => hK a w ⟨hS, hA⟩)⟩
end
/-- a struct is stored whole, in a region that draws its order -/
theorem step_store_row {P : Program} {ty : TypeId} {cs cs' : Array Value} {ops : Array Oper} {o : Oper} {a : Act} {w : World} {K : Act → World → Prop} {Q : Exit → Act → World → Prop} {F : Prop} {x y : Operand} {g t : Nat} (hgd : o.guard = none) (hd : o.dst = none) (ho : o.op = .store ty x y) (hx : a.eval x = .pointer (some ⟨g, 0, none⟩)) (hy : a.eval y = .agg cs') (hg : Whole w g t cs)
    (hi : (P.info? ty).map (·.size) = some cs'.size) (hs : cs.size = cs'.size) (h1 : cs'.all (·.oneCell') = true) (h : K a (w.setRow g cs')) : if Region.wanted o (yielded ops a.tmps) = true then Oper.wp P o a w K Q else F := by
  have hw : Region.wanted o (yielded ops a.tmps) = true := by simp [Region.wanted, hgd]
  rw [if_pos hw]
  unfold Oper.wp execOp
  simp only [ho, hx, hy, Instr.storeAt, Instr.sureAddr, Sem.run_bind, Sem.run_pure, Result.andThen_ok, run_storeVar_row w g t ty cs cs' hg hi hs h1]
  unfold Oper.upon
  simp only
  try rw [hd]
  exact h
end Go.Proofs.Ytandkgdlcdoikaa
