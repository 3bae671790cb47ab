/- Rows that a call goes on with: what else has turned; contracts of append that tell it. -/
import Derived.Test.YtphanlkobkkgfaaPA
namespace Go.Proofs.Ytphanlkobkkgfaa
open Go.RowKit
set_option linter.unusedVariables false
set_option maxRecDepth 100000

/-- none of the blocks that were there has turned but that of the row v; the row v' lies there, or in a new block -/
structure Kept (w w' : World) (v v' : Value) : Prop where
  grown : w.grownBy w' v.ownBlock
  own : v'.ownBlock = v.ownBlock ∨ ∀ k, v'.ownBlock = some k → w.heap.size ≤ k
section
variable {w w' w'' w1 wr a : World} {v v' v'' v0 : Value} {B b g : Nat} {t : TypeId} {cs : Array Value} {o : Obj}
theorem Kept.refl (w : World) (v : Value) : Kept w w v v := ⟨World.grownBy.refl w _, .inl rfl⟩
theorem Kept.trans (h : Kept w w' v v') (k : Kept w' w'' v' v'') : Kept w w'' v v'' := by
  refine ⟨⟨k.grown.os.trans h.grown.os, k.grown.tape.trans h.grown.tape, k.grown.output.trans h.grown.output, Nat.le_trans h.grown.size k.grown.size, fun i hi hv => ?_⟩, ?_⟩
  · refine (k.grown.block i (Nat.lt_of_lt_of_le hi h.grown.size) (fun e => ?_)).trans (h.grown.block i hi hv)
    rcases h.own with h1 | h1
    · exact hv (e.trans h1)
    · have := h1 i e.symm
      omega
  · rcases k.own with k1 | k1
    · rcases h.own with h1 | h1
      · exact .inl (k1.trans h1)
      · exact .inr fun i hi => h1 i (k1 ▸ hi)
    · exact .inr fun i hi => Nat.le_trans h.grown.size (k1 i hi)
theorem Kept.of_below (h : Below w.heap.size w w') (v : Value) : Kept w w' v v := ⟨⟨h.os, h.tape, h.output, h.size, fun i hi _ => h.block i hi⟩, .inl rfl⟩
theorem Kept.drew (h : Kept w w' v v') : Kept w w'.drew v v' := h.trans (Kept.of_below (Below.refl _ _).drew _)
theorem Kept.alloc (h : Kept w w' v v') (o : Obj) : Kept w (w'.alloc o) v v' := h.trans (Kept.of_below ((Below.refl _ _).alloc (Nat.le_refl _) o) _)
/-- behind whatever leaves all blocks that were there, the new ones aside -/
theorem Kept.behind (h : Kept w w' v v') (hb : Below w'.heap.size w' w'') : Kept w w'' v v' := h.trans (Kept.of_below hb _)
theorem Kept.below (h : Kept w w' v v') (hr : ∀ k, v.ownBlock = some k → B ≤ k) (hB : B ≤ w.heap.size) : Below B w w' :=
  ⟨h.grown.os, h.grown.tape, h.grown.output, h.grown.size, fun i hi => h.grown.block i (by omega) (fun e => by have := hr i e.symm; omega)⟩
theorem Kept.size (h : Kept w w' v v') : w.heap.size ≤ w'.heap.size := h.grown.size
theorem Kept.apart (h : Kept w w' v v') (hb : b < w.heap.size) (hne : v.ownBlock ≠ some b) : v'.ownBlock ≠ some b := by
  rcases h.own with h1 | h1
  · rw [h1]; exact hne
  · intro e
    have := h1 b e
    omega
theorem Kept.block (h : Kept w w' v v') (hb : b < w.heap.size) (hne : v.ownBlock ≠ some b) : w'.heap[b]? = w.heap[b]? := h.grown.block b hb (fun e => hne e.symm)
theorem Whole.kept (hw : Whole w b t cs) (h : Kept w w' v v') (hne : v.ownBlock ≠ some b) : Whole w' b t cs := (h.block hw.lt hne).trans hw
/-- a store into a block that is new -/
theorem Kept.setCell (h : Kept w w' v v') (hb : w.heap.size ≤ b) (i : Nat) (u : Value) : Kept w (w'.setCell ⟨b, i, none⟩ u) v v' :=
  ⟨⟨h.grown.os, h.grown.tape, h.grown.output, by simpa [World.setCell] using h.grown.size, fun j hj hv => (Below.heap_setCell _ _ _ _ (by show j ≠ b; omega)).trans (h.grown.block j hj hv)⟩, h.own⟩
theorem Kept.setRow (h : Kept w w' v v') (hb : w.heap.size ≤ b) (cs : Array Value) : Kept w (w'.setRow b cs) v v' :=
  ⟨⟨h.grown.os, h.grown.tape, h.grown.output, by rw [size_setRow]; exact h.grown.size, fun j hj hv => (setRow_other w' b j cs (by omega)).trans (h.grown.block j hj hv)⟩, h.own⟩
theorem own_lt {base n : Nat} {sz : Nat} {xs : List Value} (h : w.ownsRow base t sz v n xs) : ∀ k, v.ownBlock = some k → base ≤ k := fun k hk => (h.lt k hk).1
theorem own_new {base n : Nat} {sz : Nat} {xs : List Value} (h : w.ownsRow base t sz v n xs) : v.ownBlock ≠ some w.heap.size := fun e => by have := (h.lt _ e).2; omega
end

/-- the call answers the row of its own, v, with l in it -/
def MadeK (base : Nat) (l : List Nat) (v : Value) (w : World) (e : Ending) (w' : World) : Prop :=
  ∃ v', e = .returned v' ∧ w'.ownsRow base 5 1 v' l.length (ints .u8 l) ∧ Kept w w' v v'

section
variable {P : Program} {T E : TypeId} {z : Value} {bytes : Nat}
/-- 'append(s, x)' of one element, with what else has turned -/
theorem wpList_append1k (hT : ElemT P T E z bytes) {ops : Array Oper} {rest : List Oper} {o : Oper} {a : Act} {Q : Exit → Act → World → Prop} {wr : World} {u : Value} (s x : Operand) (hgd : o.guard = none)
    (ho : o.op = .call { callee := .builtin .append, args := #[s, x], argTypes := #[T, T] }) (base : Nat) (v : Value) (n : Nat) (xs : List Value) (hs : a.eval s = v) (hx : a.eval x = .slice (some ⟨wr.heap.size, 0, none⟩) 1 1) (hu : u.oneCell' = true)
    (hown : wr.ownsRow base E 1 v n xs) (hn : n ≤ 1000000001000) (hbase : base ≤ wr.heap.size)
    (h : ∀ v' w', w'.ownsRow base E 1 v' (n + 1) (xs ++ [u]) → Kept wr w' v v' → wpList P ops Q rest (a.put o.dst v') w') : wpList P ops Q (o :: rest) a (wr.alloc (.cells #[u] E)) := by
  obtain ⟨i0, hi, hz0, hz1, hz2⟩ := info_parts hT.info
  have hf := hT.few
  have hm : (n + 1) * bytes ≤ 140737488355328 := Nat.le_trans (Nat.mul_le_mul (show n + 1 ≤ 1000000001001 by omega) hf) (by omega)
  refine wpList_append_own_at _ hgd s x T ho base E i0 z 1 bytes hT.under hi hz0 hz1 hz2 hT.one (by decide) v n xs hs (hown.alloc _) ⟨wr.heap.size, 0, none⟩ 1 1 [u] hx rfl (cell_one_new _ _ _) (by simpa using hu) (by unfold maxLen; omega) hm (by simp; omega) (fun v' w' h1 h2 _ h4 => h v' w' h1 ?_)
  refine ((Kept.refl wr v).alloc (.cells #[u] E)).trans ⟨h2, ?_⟩
  rcases h4 with h4 | h4
  · exact .inl h4
  · exact .inr fun k hk => by rw [h4] at hk; injection hk with hk; omega
/-- 'append(s, x...)' of bytes in a plain walk, with what else has turned -/
theorem run_append_rowk (hT : ElemT P T E z bytes) {w : World} (ty base : Nat) (v : Value) (n : Nat) (xs : List Value) (hown : w.ownsRow base E 1 v n xs) {k : IntKind} {B : Nat} {A : Option Addr} {l : List Nat} (m c : Nat) (hm : l.length = m) (hc : A = none → c = 0)
    (hsee : Sees k w B A l) (hn : n + m ≤ 1000000001001) (hbase : base ≤ w.heap.size) :
    ∃ v' w', (Builtin.append_ #[T, T] ty #[v, .slice A m c]).run P w = .ok v' w' ∧ w'.ownsRow base E 1 v' (n + m) (xs ++ ints k l) ∧ Kept w w' v v' := by
  obtain ⟨i0, hi, hz0, hz1, hz2⟩ := info_parts hT.info
  have hf := hT.few
  have hb : (n + m) * bytes ≤ 140737488355328 := Nat.le_trans (Nat.mul_le_mul hn hf) (by omega)
  cases A with
  | none =>
    have h0 : l = [] := by
      rcases Nat.eq_zero_or_pos l.length with h | h
      · exact List.eq_nil_of_length_eq_zero h
      · obtain ⟨_, _, e, _⟩ := hsee h; cases e
    have hc0 := hc rfl
    subst h0 hc0
    have hm0 : m = 0 := by simpa using hm.symm
    subst hm0
    exact ⟨v, w, run_append_owned_none w base T ty E i0 1 hT.under hi v n xs hown, by simpa [ints] using hown, Kept.refl w _⟩
  | some ad =>
    have hnews : ∀ j u, (ints k l)[j]? = some u → w.cell? (ad.add j) = some u := by
      intro j u hu
      have hj : j < l.length := by
        rcases Nat.lt_or_ge j l.length with h | h
        · exact h
        · rw [List.getElem?_eq_none (by rw [ints_length]; exact h)] at hu; cases hu
      obtain ⟨b, off, e, _, hcell⟩ := hsee (by omega)
      injection e with e
      subst e
      have ha : (⟨b, off, none⟩ : Addr).add j = ⟨b, off + j, none⟩ := by unfold Addr.add; split <;> simp_all
      rw [ha, hcell j hj, ← ints_get k l j hj, hu]
    obtain ⟨v', w', h1, h2, h3, _, h5⟩ := run_append_own_at (P := P) w base T ty E i0 z 1 bytes hT.under hi hz0 hz1 hz2 hT.one (by decide) v n xs hown ad m c (ints k l) (by rw [ints_length]; omega) hnews (ints_one k l) (by unfold maxLen; omega) hb hbase
    refine ⟨v', w', h1, h2, h3, ?_⟩
    rcases h5 with h5 | h5
    · exact .inl h5
    · exact .inr fun k hk => by rw [h5] at hk; injection hk with hk; omega
theorem wpList_append_rowk (hT : ElemT P T E z bytes) {ops : Array Oper} {rest : List Oper} {o : Oper} {a : Act} {w : World} {Q : Exit → Act → World → Prop} (s x : Operand) (hgd : o.guard = none)
    (ho : o.op = .call { callee := .builtin .append, args := #[s, x], argTypes := #[T, T] }) (base : Nat) (v : Value) (n : Nat) (xs : List Value) (hs : a.eval s = v) (hown : w.ownsRow base E 1 v n xs) {k : IntKind} {B : Nat} {A : Option Addr} {l : List Nat} (m c : Nat)
    (hx : a.eval x = .slice A m c) (hm : l.length = m) (hc : A = none → c = 0) (hsee : Sees k w B A l) (hn : n + m ≤ 1000000001001) (hbase : base ≤ w.heap.size)
    (h : ∀ v' w', w'.ownsRow base E 1 v' (n + m) (xs ++ ints k l) → Kept w w' v v' → wpList P ops Q rest (a.put o.dst v') w') : wpList P ops Q (o :: rest) a w := by
  refine wpList_plain hgd fun K hK => ?_
  obtain ⟨v', w', hr, h2, h3⟩ := run_append_rowk hT (w := w) o.type base v n xs hown m c hm hc hsee hn hbase
  unfold Oper.wp execOp
  simp only [ho, resolve, invoke, builtin, Sem.run_bind, Sem.run_pure, Result.andThen_ok, List.map_toArray, List.map_cons, List.map_nil, hs, hx, hr]
  exact hK _ _ (h v' w' h2 h3)
end
/-- 'append(b, s...)' of a string, with what else has turned -/
theorem run_append_strk {w : World} (ty base : Nat) (v : Value) (n : Nat) (xs : List Value) (hown : w.ownsRow base 5 1 v n xs) {s : ByteArray} {l : List Nat} (T : Txt s l) (m : Nat) (hm : l.length = m) (hn : n + m ≤ 1000000001001) (hbase : base ≤ w.heap.size) :
    ∃ v' w', (Builtin.append_ #[28, 9] ty #[v, .string s]).run Try.prog w = .ok v' w' ∧ w'.ownsRow base 5 1 v' (n + m) (xs ++ ints .u8 l) ∧ Kept w w' v v' := by
  obtain ⟨i0, hi, hz0, hz1, hz2⟩ := info_parts (byteT.info)
  have hsz : s.size = m := by rw [T.size, hm]
  obtain ⟨v', w', h1, h2, h3, _⟩ := Lib.run_append_own_string (P := Try.prog) w base 28 9 ty 5 i0 Try.underlying28 Try.underlying9 hi hz0 hz1 hz2 v n xs hown s (by rw [hsz]; unfold maxLen; omega) (by rw [hsz]; omega) hbase
  refine ⟨v', w', h1, by rw [← hsz, ← T.cells]; exact h2, h3, ?_⟩
  rcases hown.2 with ⟨rfl, rfl⟩ | ⟨g, cap, cur, rfl, hbg, hg, hnc, hcm, hcs, htake⟩
  · have hx : xs = [] := List.eq_nil_of_length_eq_zero (by simpa using hown.1)
    subst hx
    obtain ⟨v2, w2, h4, h5, _⟩ := Lib.run_append_own_string (P := Try.prog) w w.heap.size 28 9 ty 5 i0 Try.underlying28 Try.underlying9 hi hz0 hz1 hz2 _ 0 [] (World.ownsRow_nil w w.heap.size _ 1) s (by rw [hsz]; unfold maxLen; omega) (by rw [hsz]; omega) (Nat.le_refl _)
    rw [h1] at h4
    injection h4 with h4 h6
    subst h4 h6
    exact .inr fun k hk => (h5.lt k hk).1
  · by_cases hroom : n + s.size ≤ cap
    · have hr := Lib.run_append_room_string (P := Try.prog) w 28 9 ty 5 i0 Try.underlying28 Try.underlying9 hi hz1 g n cap cur hg s hroom (by have : cur.size = cap := (by simpa using hcs); omega)
      rw [h1] at hr
      injection hr with hr _
      subst hr
      exact .inl rfl
    · have hxl : xs.length = n := by simpa using hown.1
      have hr := Lib.run_append_grow_string (P := Try.prog) w 28 9 ty 5 i0 (.int .u8 0) Try.underlying28 Try.underlying9 hi hz0 ⟨g, 0, none⟩ n cap xs (by rw [hz1]; simpa using hxl) (hown.cells (g := g) rfl) s (by omega) (by rw [hsz]; omega) (by rw [hz2]; exact growslice_fits (by unfold maxLen at hcm; omega) (by rw [hsz]; omega))
      rw [h1] at hr
      injection hr with hr _
      subst hr
      refine .inr fun k hk => ?_
      injection hk with hk
      rw [← hk]
      exact Nat.le_refl _
theorem wpList_append_strk {ops : Array Oper} {rest : List Oper} {o : Oper} {a : Act} {w : World} {Q : Exit → Act → World → Prop} (sl x : Operand) (hgd : o.guard = none)
    (ho : o.op = .call { callee := .builtin .append, args := #[sl, x], argTypes := #[28, 9] }) (base : Nat) (v : Value) (n : Nat) (xs : List Value) (hs : a.eval sl = v) (hown : w.ownsRow base 5 1 v n xs) {s : ByteArray} {l : List Nat} (T : Txt s l) (hx : a.eval x = .string s) (m : Nat) (hm : l.length = m) (hn : n + m ≤ 1000000001001) (hbase : base ≤ w.heap.size)
    (h : ∀ v' w', w'.ownsRow base 5 1 v' (n + m) (xs ++ ints .u8 l) → Kept w w' v v' → wpList Try.prog ops Q rest (a.put o.dst v') w') : wpList Try.prog ops Q (o :: rest) a w := by
  refine wpList_plain hgd fun K hK => ?_
  obtain ⟨v', w', hr, h2, h3⟩ := run_append_strk (w := w) o.type base v n xs hown T m hm hn hbase
  unfold Oper.wp execOp
  simp only [ho, resolve, invoke, builtin, Sem.run_bind, Sem.run_pure, Result.andThen_ok, List.map_toArray, List.map_cons, List.map_nil, hs, hx, hr]
  exact hK _ _ (h v' w' h2 h3)

/-- what a loop has done that writes ps behind xs, when the first j of them stand there -/
structure WroteK (base : Nat) (xs ps : List Nat) (w : World) (v0 : Value) (j : Nat) (v : Value) (wr : World) : Prop where
  own : wr.ownsRow base 5 1 v (xs.length + j) (ints .u8 (xs ++ ps.take j))
  kept : Kept w wr v0 v
  size : base ≤ wr.heap.size
section
variable {base : Nat} {xs ps : List Nat} {j : Nat} {v v' v0 : Value} {w wr w1 : World} {x : Int}
theorem WroteK.start (ho : w.ownsRow base 5 1 v xs.length (ints .u8 xs)) (hb : base ≤ w.heap.size) : WroteK base xs ps w v 0 v w :=
  ⟨by simpa using ho, Kept.refl _ _, hb⟩
theorem WroteK.next (h : WroteK base xs ps w v0 j v wr) (hj : j < ps.length) (hx : x = ((ps.getD j 0 : Nat) : Int))
    (ho : w1.ownsRow base 5 1 v' (xs.length + j + 1) (ints .u8 (xs ++ ps.take j) ++ [.int .u8 x])) (hg : Kept wr w1 v v') : WroteK base xs ps w v0 (j + 1) v' w1 := by
  obtain ⟨h1, h2, h3⟩ := h
  subst hx
  refine ⟨?_, h2.trans hg, Nat.le_trans h3 hg.size⟩
  rw [take_next hj, ← List.append_assoc, ints_append]
  exact ho
end


end Go.Proofs.Ytphanlkobkkgfaa
