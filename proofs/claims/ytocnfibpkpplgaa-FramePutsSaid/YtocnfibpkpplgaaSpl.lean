/- Copies within rows of the call's own, of elements of any size: shared words. -/
import Derived.Test.YtocnfibpkpplgaaPA
import Derived.Laws.CopyOwn
import Derived.Laws.Externs
import Derived.Lib.AppendZerosOnto
import Derived.Deep.MidRow
namespace Go.Proofs.Ytocnfibpkpplgaa
open Go.RowKit
set_option linter.unusedVariables false
set_option maxRecDepth 100000
set_option linter.unusedSimpArgs false

theorem splice_get {α : Type} (L : List α) (o : Nat) (cs : List α) (h : o + cs.length ≤ L.length) (j : Nat) : (splice L o cs)[j]? = if j < o then L[j]? else if j < o + cs.length then cs[j - o]? else L[j]? := by
  unfold splice
  rw [List.getElem?_append, List.length_take, Nat.min_eq_left (by omega)]
  by_cases h1 : j < o
  · rw [if_pos h1, if_pos h1, List.getElem?_take_of_lt h1]
  · rw [if_neg h1, if_neg h1, List.getElem?_append]
    by_cases h2 : j < o + cs.length
    · rw [if_pos (by omega), if_pos h2]
    · rw [if_neg (by omega), if_neg h2, List.getElem?_drop]
      congr 1
      omega
theorem splice_set {α : Type} (L : List α) (o : Nat) (v : α) (r : List α) (h : o + (r.length + 1) ≤ L.length) : splice (L.set o v) (o + 1) r = splice L o (v :: r) := by
  apply List.ext_getElem?
  intro j
  rw [splice_get _ _ _ (by rw [List.length_set]; omega), splice_get _ _ _ (by simpa using h), List.getElem?_set, List.length_cons]
  by_cases h1 : j < o
  · rw [if_pos (by omega), if_pos h1, if_neg (by omega)]
  · by_cases h2 : j = o
    · subst h2
      rw [if_pos (by omega), if_pos rfl, if_pos (by omega), if_neg (by omega), if_pos (by omega), Nat.sub_self]
      rfl
    · rw [if_neg (by omega), if_neg h1]
      by_cases h3 : j < o + (r.length + 1)
      · rw [if_pos (by omega), if_pos h3, show j - o = (j - (o + 1)) + 1 by omega]
        rfl
      · rw [if_neg (by omega), if_neg h3, if_neg (by omega)]
theorem own_splice {base sz g n cap : Nat} {E : TypeId} : ∀ (cs : List Value) (o : Nat) {xs : List Value} {w : World}, w.ownsRow base E sz (.slice (some ⟨g, 0, none⟩) n cap) n xs → o + cs.length ≤ xs.length → (w.setCells g o cs).ownsRow base E sz (.slice (some ⟨g, 0, none⟩) n cap) n (splice xs o cs)
  | [], o, xs, w, h, _ => by
    have : splice xs o ([] : List Value) = xs := by simp [splice]
    rw [this]
    exact h
  | v :: r, o, xs, w, h, hl => by
    rw [← splice_set xs o v r (by simpa using hl)]
    exact own_splice r (o + 1) (h.stored o v).1 (by rw [List.length_set]; simp at hl; omega)
/-- there is room for one element more -/
theorem own_room {w : World} {base sz g n cap : Nat} {E : TypeId} {xs : List Value} (h : w.ownsRow base E sz (.slice (some ⟨g, 0, none⟩) n cap) n xs) (hr : n + 1 ≤ cap) : ∃ t, t.length = sz ∧ w.ownsRow base E sz (.slice (some ⟨g, 0, none⟩) (n + 1) cap) (n + 1) (xs ++ t) := by
  obtain ⟨h1, h2⟩ := h
  rcases h2 with ⟨hv, _⟩ | ⟨g', cap', cur, hv, hg, hh, hn, hm, hs, ht⟩
  · cases hv
  · cases hv
    have hle := Nat.mul_le_mul_right sz hr
    have hle2 : (n + 1) * sz = n * sz + sz := Nat.succ_mul n sz
    refine ⟨(cur.toList.drop (n * sz)).take sz, ?_, ?_, .inr ⟨g, cap, cur, rfl, hg, hh, hr, hm, hs, ?_⟩⟩
    · rw [List.length_take, List.length_drop, Array.length_toList]; omega
    · rw [List.length_append, h1, List.length_take, List.length_drop, Array.length_toList]; omega
    · rw [hle2, ← ht, List.take_add]
theorem own_isrow {w : World} {base sz g n cap : Nat} {E : TypeId} {xs : List Value} (h : w.ownsRow base E sz (.slice (some ⟨g, 0, none⟩) n cap) n xs) : ∃ cur : Array Value, w.heap[g]? = some (.cells cur E (0, 0)) ∧ cur.size = cap * sz ∧ n ≤ cap ∧ base ≤ g ∧ cap ≤ maxLen := by
  rcases h.2 with ⟨hv, _⟩ | ⟨g', cap', cur, hv, hg, hh, hn, hm, hs, ht⟩
  · cases hv
  · cases hv
    exact ⟨cur, hh, hs, hn, hg, hm⟩
theorem run_copy_sz {P : Program} {dT sT ty elem : TypeId} {sz : Nat} (hu : P.underlying dT = some (.slice elem)) (hsz : (P.info? elem).map (·.size) = some sz) {w : World} {base g n cap : Nat} {E : TypeId} {xs : List Value} (hown : w.ownsRow base E sz (.slice (some ⟨g, 0, none⟩) n cap) n xs)
    (o dLen dCap : Nat) (ad : Addr) (sLen sCap : Nat) (cs : List Value) (hn : cs.length = Nat.min sLen dLen * sz) (hsrc : ∀ j u, cs[j]? = some u → w.cell? (ad.add j) = some u) (hfit : o + cs.length ≤ xs.length) (h1 : ∀ u ∈ cs, u.oneCell' = true) :
    (Builtin.copy_ #[dT, sT] ty #[.slice (some ⟨g, o, none⟩) dLen dCap, .slice (some ad) sLen sCap]).run P w = .ok (goInt (Nat.min sLen dLen)) (w.setCells g o cs) := by
  have hl := run_loadCells_list (P := P) w ad cs hsrc
  have hst := run_storeCells_cells (P := P) g o cs 0 w (fun j hj => by
    rw [Nat.add_zero]
    have := hown.cells (g := g) rfl (o + j) _ (List.getElem?_eq_getElem (by omega))
    rw [Addr.add_mid, Nat.zero_add] at this
    rw [this]; rfl) (fun j hj => hown.frozenAt _) h1
  cases hq : P.info? elem with
  | none => simp [hq] at hsz
  | some i =>
    have hi : i.size = sz := by simpa [hq] using hsz
    simp [Builtin.copy_, run_underlying hu, Builtin.lenOf, Builtin.firstCells, sizeOf, typeInfo, hq, hi, ← hn, hl, hst]
theorem wpList_copy_eq {P : Program} {w w' : World} {ops : Array Oper} {rest : List Oper} {o : Oper} {a : Act} {Q : Exit → Act → World → Prop} {v u v' : Value} (hgd : o.guard = none) (d s : Operand) (T U : TypeId)
    (ho : o.op = .call { callee := .builtin .copy, args := #[d, s], argTypes := #[T, U] }) (hd : a.eval d = v) (hs : a.eval s = u) (hr : (Builtin.copy_ #[T, U] o.type #[v, u]).run P w = .ok v' w') (h : wpList P ops Q rest (a.put o.dst v') w') : wpList P ops Q (o :: rest) a w := by
  refine wpList_plain hgd fun K hK => ?_
  unfold Oper.wp
  simp only [execOp, ho, resolve, invoke, builtin, Sem.run_bind, Sem.run_pure, Result.andThen_ok, List.map_toArray, List.map_cons, List.map_nil, hd, hs, hr]
  exact hK _ _ h
theorem step_copy_eq {P : Program} {w w' : World} {ops : Array Oper} {o : Oper} {a : Act} {K : Act → World → Prop} {Q : Exit → Act → World → Prop} {F : Prop} {v u v' : Value} (hgd : o.guard = none) (d s : Operand) (T U : TypeId)
    (ho : o.op = .call { callee := .builtin .copy, args := #[d, s], argTypes := #[T, U] }) (hd : a.eval d = v) (hs : a.eval s = u) (hr : (Builtin.copy_ #[T, U] o.type #[v, u]).run P w = .ok v' w') (h : K (a.put o.dst v') w') : if Region.wanted o (yielded ops a.tmps) = true then Oper.wp P o a w K Q else F := by
  have hw : Region.wanted o (yielded ops a.tmps) = true := by simp [Region.wanted, hgd]
  rw [if_pos hw]
  unfold Oper.wp
  simp only [execOp, ho, resolve, invoke, builtin, Sem.run_bind, Sem.run_pure, Result.andThen_ok, List.map_toArray, List.map_cons, List.map_nil, hd, hs, hr]
  exact h
end Go.Proofs.Ytocnfibpkpplgaa
