/- Rows of the call's own whose elements are strings, or trees; append to them. -/
import Derived.Test.YtphanlkobkkgfaaRget11
import Derived.Deep.MidRow
import Derived.Deep.AppendLies
namespace Go.Proofs.Ytphanlkobkkgfaa
open Go.RowKit
set_option linter.unusedVariables false
set_option maxRecDepth 100000
set_option linter.unusedSimpArgs false

/-- the cells from address A on are these -/
def Src (w : World) (A : Option Addr) (news : List Value) : Prop := ∀ j u, news[j]? = some u → ∃ b off, A = some ⟨b, off, none⟩ ∧ w.cell? ⟨b, off + j, none⟩ = some u
theorem run_append_cells {P : Program} {T E : TypeId} {z : Value} {size bytes : Nat} (ht : P.underlying T = some (.slice E)) (hinf : (P.info? E).map (fun i => (i.zero, i.size, i.bytes)) = some (some z, size, bytes)) (hzs : z.cells.size = size) (hsz : 0 < size) (hfew : bytes ≤ 128)
    {w : World} (ty base : Nat) (v : Value) (n : Nat) (xs : List Value) (hown : w.ownsRow base E size v n xs) {A : Option Addr} (m c : Nat) (news : List Value) (hl : news.length = m * size) (hc : A = none → c = 0) (hmc : m ≤ c) (hsee : Src w A news) (h1 : ∀ u ∈ news, u.oneCell' = true)
    (hn : n + m ≤ 1000000000000) (hbase : base ≤ w.heap.size) :
    ∃ v' w', (Builtin.append_ #[T, T] ty #[v, .slice A m c]).run P w = .ok v' w' ∧ w'.ownsRow base E size v' (n + m) (xs ++ news) ∧ w.grownBy w' v.ownBlock ∧ (v'.ownBlock = v.ownBlock ∨ v'.ownBlock = some w.heap.size) := by
  obtain ⟨i0, hi, hz0, hz1, hz2⟩ := info_parts hinf
  have hb : (n + m) * bytes ≤ 140737488355328 := Nat.le_trans (Nat.mul_le_mul hn hfew) (by omega)
  cases A with
  | none =>
    have hc0 := hc rfl
    subst hc0
    have hm0 : m = 0 := by omega
    subst hm0
    have h0 : news = [] := List.eq_nil_of_length_eq_zero (by omega)
    subst h0
    exact ⟨v, w, run_append_owned_none w base T ty E i0 size ht hi v n xs hown, by simpa using hown, World.grownBy.refl w _, .inl rfl⟩
  | some ad =>
    have hnews : ∀ j u, news[j]? = some u → w.cell? (ad.add j) = some u := by
      intro j u hu
      obtain ⟨b, off, e, hcell⟩ := hsee j u hu
      injection e with e
      subst e
      rw [Addr.add_mid]
      exact hcell
    obtain ⟨v', w', h2, h3, h4, _, h5⟩ := run_append_own_at (P := P) w base T ty E i0 z size bytes ht hi hz0 hz1 hz2 hzs hsz v n xs hown ad m c news hl hnews h1 (by unfold maxLen; omega) hb hbase
    exact ⟨v', w', h2, h3, h4, h5⟩
theorem wpList_append_cells {P : Program} {T E : TypeId} {z : Value} {size bytes : Nat} (ht : P.underlying T = some (.slice E)) (hinf : (P.info? E).map (fun i => (i.zero, i.size, i.bytes)) = some (some z, size, bytes)) (hzs : z.cells.size = size) (hsz : 0 < size) (hfew : bytes ≤ 128)
    {ops : Array Oper} {rest : List Oper} {o : Oper} {a : Act} {w : World} {Q : Exit → Act → World → Prop} (s x : Operand) (hgd : o.guard = none)
    (ho : o.op = .call { callee := .builtin .append, args := #[s, x], argTypes := #[T, T] }) (base : Nat) (v : Value) (n : Nat) (xs : List Value) (hs : a.eval s = v) (hown : w.ownsRow base E size v n xs) {A : Option Addr} (m c : Nat) (news : List Value)
    (hx : a.eval x = .slice A m c) (hl : news.length = m * size) (hc : A = none → c = 0) (hmc : m ≤ c) (hsee : Src w A news) (h1 : ∀ u ∈ news, u.oneCell' = true) (hn : n + m ≤ 1000000000000) (hbase : base ≤ w.heap.size)
    (h : ∀ v' w', w'.ownsRow base E size v' (n + m) (xs ++ news) → w.grownBy w' v.ownBlock → (v'.ownBlock = v.ownBlock ∨ v'.ownBlock = some w.heap.size) → wpList P ops Q rest (a.put o.dst v') w') : wpList P ops Q (o :: rest) a w := by
  refine wpList_plain hgd fun K hK => ?_
  obtain ⟨v', w', hr, h2, h3, h4⟩ := run_append_cells ht hinf hzs hsz hfew (w := w) o.type base v n xs hown m c news hl hc hmc hsee h1 hn hbase
  unfold Oper.wp execOp
  simp only [ho, resolve, invoke, builtin, Sem.run_bind, Sem.run_pure, Result.andThen_ok, List.map_toArray, List.map_cons, List.map_nil, hs, hx, hr]
  exact hK _ _ (h v' w' h2 h3 h4)

/-! ### strings -/
def txs (l : List ByteArray) : List Value := l.map Value.string
theorem txs_length (l : List ByteArray) : (txs l).length = l.length := by simp [txs]
theorem txs_append (a b : List ByteArray) : txs (a ++ b) = txs a ++ txs b := by simp [txs]
theorem txs_one (l : List ByteArray) : ∀ u ∈ txs l, u.oneCell' = true := fun u hu => by
  simp only [txs, List.mem_map] at hu
  obtain ⟨x, _, rfl⟩ := hu
  rfl
theorem Sc.src {w : World} {B : Nat} {A : Option Addr} {l : List ByteArray} (h : Sc w B A l) : Src w A (txs l) := fun j u hu => by
  have hj : j < l.length := by
    rcases Nat.lt_or_ge j l.length with h | h
    · exact h
    · rw [List.getElem?_eq_none (by rw [txs_length]; exact h)] at hu; cases hu
  obtain ⟨b, off, e, _, hcl⟩ := h j hj
  refine ⟨b, off, e, ?_⟩
  have : (txs l)[j]? = some (.string l[j]) := by simp [txs, List.getElem?_eq_getElem hj]
  rw [this] at hu
  cases hu
  exact hcl
theorem Sc.take {w : World} {B : Nat} {A : Option Addr} {l : List ByteArray} (h : Sc w B A l) (i : Nat) : Sc w B A (l.take i) := fun j hj => by
  rw [List.length_take] at hj
  obtain ⟨b, off, e, hb, hc⟩ := h j (by omega)
  exact ⟨b, off, e, hb, by rw [List.getElem_take]; exact hc⟩
theorem Sc.drop {w : World} {B b off : Nat} {l : List ByteArray} (h : Sc w B (some ⟨b, off, none⟩) l) (i : Nat) : Sc w B (some ⟨b, off + i, none⟩) (l.drop i) := fun j hj => by
  rw [List.length_drop] at hj
  obtain ⟨b', off', e, hb, hc⟩ := h (i + j) (by omega)
  injection e with e
  injection e with e1 e2 _
  subst e1 e2
  exact ⟨_, _, rfl, hb, by rw [List.getElem_drop, Nat.add_assoc]; exact hc⟩
/-- what a row of the call's own looks like -/
theorem own_look {w : World} {base : Nat} {E size : Nat} {v : Value} {n : Nat} {xs : List Value} (h : w.ownsRow base E size v n xs) :
    ∃ A c, v = .slice A n c ∧ n ≤ c ∧ c ≤ maxLen ∧ (A = none → c = 0) ∧ ∀ j u, xs[j]? = some u → ∃ b, A = some ⟨b, 0, none⟩ ∧ base ≤ b ∧ b < w.heap.size ∧ w.cell? ⟨b, j, none⟩ = some u := by
  have h0 := h
  rcases h.2 with ⟨hv, hn⟩ | ⟨g, cap, cur, hv, hg, hh, hnc, hm, hs, ht⟩
  · subst hv hn
    have : xs = [] := List.eq_nil_of_length_eq_zero (by have := h.1; omega)
    subst this
    exact ⟨none, 0, rfl, Nat.le_refl _, by unfold maxLen; omega, fun _ => rfl, fun j u hu => by simp at hu⟩
  · subst hv
    refine ⟨_, cap, rfl, hnc, hm, fun h => by (cases h), fun j u hu => ⟨g, rfl, hg, (Array.getElem?_eq_some_iff.1 hh).1, ?_⟩⟩
    have := World.ownsRow.cells h0 (g := g) rfl j u hu
    rwa [Addr.add_mid, Nat.zero_add] at this
theorem Sk.of_own {w : World} {base : Nat} {v : Value} {l : List ByteArray} (h : w.ownsRow base 9 1 v l.length (txs l)) (hx : ∀ s ∈ l, s.size ≤ maxLen) : Sk w w.heap.size v l := by
  obtain ⟨A, c, rfl, h1, h2, h3, h4⟩ := own_look h
  refine ⟨A, c, rfl, fun i hi => ?_, h1, h2, h3, hx⟩
  obtain ⟨b, e, _, hb, hc⟩ := h4 i _ (show (txs l)[i]? = some (.string l[i]) by simp [txs, List.getElem?_eq_getElem hi])
  exact ⟨b, 0, e, hb, by rw [Nat.zero_add]; exact hc⟩

/-! ### trees -/
/-- a tree with its slices -/
abbrev Tq := Tn × Value × Value
def five (L : List Tq) : List Value := L.flatMap fun x => [.int .i64 x.1.kind, .int .i64 x.1.n, .string x.1.s, x.2.1, x.2.2]
theorem five_cons (x : Tq) (L : List Tq) : five (x :: L) = .int .i64 x.1.kind :: .int .i64 x.1.n :: .string x.1.s :: x.2.1 :: x.2.2 :: five L := rfl
theorem five_append (a b : List Tq) : five (a ++ b) = five a ++ five b := by simp [five]
theorem five_length (L : List Tq) : (five L).length = L.length * 5 := by
  induction L with
  | nil => rfl
  | cons x L ih => rw [five_cons]; simp only [List.length_cons, ih]; omega
theorem five_get : ∀ (L : List Tq) (i : Nat) (h : i < L.length), (five L)[i * 5]? = some (.int .i64 L[i].1.kind) ∧ (five L)[i * 5 + 1]? = some (.int .i64 L[i].1.n) ∧ (five L)[i * 5 + 2]? = some (.string L[i].1.s) ∧ (five L)[i * 5 + 3]? = some L[i].2.1 ∧ (five L)[i * 5 + 4]? = some L[i].2.2
  | x :: L, 0, h => ⟨rfl, rfl, rfl, rfl, rfl⟩
  | x :: L, i + 1, h => by
    rw [five_cons, show (i + 1) * 5 = i * 5 + 1 + 1 + 1 + 1 + 1 by omega]
    have := five_get L i (by simpa using h)
    refine ⟨?_, ?_, ?_, ?_, ?_⟩
    · simpa using this.1
    · rw [show i * 5 + 1 + 1 + 1 + 1 + 1 + 1 = (i * 5 + 1) + 1 + 1 + 1 + 1 + 1 by omega]; simpa using this.2.1
    · rw [show i * 5 + 1 + 1 + 1 + 1 + 1 + 2 = (i * 5 + 2) + 1 + 1 + 1 + 1 + 1 by omega]; simpa using this.2.2.1
    · rw [show i * 5 + 1 + 1 + 1 + 1 + 1 + 3 = (i * 5 + 3) + 1 + 1 + 1 + 1 + 1 by omega]; simpa using this.2.2.2.1
    · rw [show i * 5 + 1 + 1 + 1 + 1 + 1 + 4 = (i * 5 + 4) + 1 + 1 + 1 + 1 + 1 by omega]; simpa using this.2.2.2.2
/-- the slice with address A holds the trees L, in blocks below B -/
def Ks (w : World) (B : Nat) (A : Option Addr) (L : List Tq) : Prop := ∀ i (h : i < L.length), ∃ b off, A = some ⟨b, off, none⟩ ∧ b < B ∧ Cell5 w b (off + i * 5) L[i].1 L[i].2.1 L[i].2.2 ∧ Tv w B L[i].1 L[i].2.1 L[i].2.2
theorem Kv.list {w : World} {B : Nat} {v : Value} {l : List Tn} (h : Kv w B v l) : ∃ A c L, v = .slice A L.length c ∧ L.map (·.1) = l ∧ L.length ≤ c ∧ c ≤ maxLen ∧ (A = none → c = 0) ∧ Ks w B A L := by
  obtain ⟨A, c, rfl, h1, h2, h3, K, Q, hK⟩ := h
  refine ⟨A, c, l.mapIdx (fun i t => (t, K i, Q i)), by simp, ?_, by simpa using h1, h2, h3, fun i hi => ?_⟩
  · apply List.ext_getElem (by simp)
    intro i h1 h2
    simp
  · have hi' : i < l.length := by simpa using hi
    rw [List.getElem_mapIdx]
    exact hK i hi'
theorem Kv.of_list {w : World} {B : Nat} {A : Option Addr} {c : Nat} {L : List Tq} {l : List Tn} (hl : L.map (·.1) = l) (h1 : L.length ≤ c) (h2 : c ≤ maxLen) (h3 : A = none → c = 0) (h : Ks w B A L) : Kv w B (.slice A L.length c) l := by
  subst hl
  refine ⟨A, c, by simp, by simpa using h1, h2, h3, fun i => (L.map (·.2.1)).getD i (.bool false), fun i => (L.map (·.2.2)).getD i (.bool false), fun i hi => ?_⟩
  have hi' : i < L.length := by simpa using hi
  obtain ⟨b, off, e, hb, h5, h6⟩ := h i hi'
  have e1 : (L.map (·.2.1)).getD i (.bool false) = L[i].2.1 := by simp [List.getD, List.getElem?_eq_getElem hi']
  have e2 : (L.map (·.2.2)).getD i (.bool false) = L[i].2.2 := by simp [List.getD, List.getElem?_eq_getElem hi']
  simp only [e1, e2, List.getElem_map]
  exact ⟨b, off, e, hb, h5, h6⟩
theorem Ks.below {w w' : World} {B : Nat} {A : Option Addr} {L : List Tq} (h : Ks w B A L) (hb : Below B w w') : Ks w' B A L := fun i hi => by
  obtain ⟨b, off, e, hB, h5, h6⟩ := h i hi
  exact ⟨b, off, e, hB, h5.below hb hB, h6.keep hb⟩
theorem Ks.take {w : World} {B : Nat} {A : Option Addr} {L : List Tq} (h : Ks w B A L) (i : Nat) : Ks w B A (L.take i) := fun j hj => by
  rw [List.length_take] at hj
  obtain ⟨b, off, e, hb, hc⟩ := h j (by omega)
  exact ⟨b, off, e, hb, by rw [List.getElem_take]; exact hc⟩
theorem Ks.drop {w : World} {B b off : Nat} {L : List Tq} (h : Ks w B (some ⟨b, off, none⟩) L) (i : Nat) : Ks w B (some ⟨b, off + i * 5, none⟩) (L.drop i) := fun j hj => by
  rw [List.length_drop] at hj
  obtain ⟨b', off', e, hb, hc⟩ := h (i + j) (by omega)
  injection e with e
  injection e with e1 e2 _
  subst e1 e2
  exact ⟨_, _, rfl, hb, by rw [List.getElem_drop, show off + i * 5 + j * 5 = off + (i + j) * 5 by omega]; exact hc⟩
theorem Ks.tv {w : World} {B : Nat} {A : Option Addr} {L : List Tq} (h : Ks w B A L) : ∀ x ∈ L, Tv w B x.1 x.2.1 x.2.2 := fun x hx => by
  obtain ⟨i, hi, rfl⟩ := List.mem_iff_getElem.1 hx
  obtain ⟨_, _, _, _, _, h6⟩ := h i hi
  exact h6
theorem Ks.src {w : World} {B : Nat} {A : Option Addr} {L : List Tq} (h : Ks w B A L) : Src w A (five L) := fun j u hu => by
  have hj : j < L.length * 5 := by
    rcases Nat.lt_or_ge j (L.length * 5) with h | h
    · exact h
    · rw [List.getElem?_eq_none (by rw [five_length]; exact h)] at hu; cases hu
  obtain ⟨i, hij, hi⟩ : ∃ i, (j = i * 5 ∨ j = i * 5 + 1 ∨ j = i * 5 + 2 ∨ j = i * 5 + 3 ∨ j = i * 5 + 4) ∧ i < L.length := ⟨j / 5, by omega, by omega⟩
  obtain ⟨b, off, e, _, h5, _⟩ := h i hi
  obtain ⟨g0, g1, g2, g3, g4⟩ := five_get L i hi
  refine ⟨b, off, e, ?_⟩
  rcases hij with rfl | rfl | rfl | rfl | rfl
  · rw [g0] at hu; cases hu; exact h5.c0
  · rw [g1] at hu; cases hu; exact h5.c1
  · rw [g2] at hu; cases hu; exact h5.c2
  · rw [g3] at hu; cases hu; exact h5.c3
  · rw [g4] at hu; cases hu; exact h5.c4
theorem five_one {w : World} {B : Nat} {L : List Tq} (h : ∀ x ∈ L, Tv w B x.1 x.2.1 x.2.2) : ∀ u ∈ five L, u.oneCell' = true := fun u hu => by
  simp only [five, List.mem_flatMap] at hu
  obtain ⟨x, hx, hu⟩ := hu
  have := (h x hx).one
  simp at hu
  rcases hu with rfl | rfl | rfl | rfl | rfl
  · rfl
  · rfl
  · rfl
  · exact this.1
  · exact this.2
theorem Ks.of_own {w : World} {base B n c : Nat} {A : Option Addr} {L : List Tq} (h : w.ownsRow base 25 5 (.slice A n c) L.length (five L)) (hb : w.heap.size ≤ B) (ht : ∀ x ∈ L, Tv w B x.1 x.2.1 x.2.2) : Ks w B A L := fun i hi => by
  obtain ⟨A', c', e, h1, h2, h3, h4⟩ := own_look h
  injection e with e1 e2 e3
  subst e1 e3
  obtain ⟨g0, g1, g2, g3, g4⟩ := five_get L i hi
  obtain ⟨b, eb, _, hlt, q0⟩ := h4 _ _ g0
  obtain ⟨b1, eb1, _, _, q1⟩ := h4 _ _ g1
  obtain ⟨b2, eb2, _, _, q2⟩ := h4 _ _ g2
  obtain ⟨b3, eb3, _, _, q3⟩ := h4 _ _ g3
  obtain ⟨b4, eb4, _, _, q4⟩ := h4 _ _ g4
  subst eb
  cases eb1; cases eb2; cases eb3; cases eb4
  refine ⟨b, 0, rfl, by omega, ⟨?_, ?_, ?_, ?_, ?_⟩, ht _ (List.getElem_mem hi)⟩ <;> rw [Nat.zero_add]
  · exact q0
  · exact q1
  · exact q2
  · exact q3
  · exact q4
theorem Kv.of_own {w : World} {base B : Nat} {v : Value} {L : List Tq} {l : List Tn} (h : w.ownsRow base 25 5 v L.length (five L)) (hl : L.map (·.1) = l) (hb : w.heap.size ≤ B) (ht : ∀ x ∈ L, Tv w B x.1 x.2.1 x.2.2) : Kv w B v l := by
  obtain ⟨A, c, rfl, h1, h2, h3, h4⟩ := own_look h
  exact Kv.of_list hl h1 h2 h3 (Ks.of_own h hb ht)
/-- a tree is stored into a row of the call's own -/
theorem five_set (L : List Tq) (i : Nat) (h : i < L.length) (x : Tq) : five (L.set i x) = (((((five L).set (i * 5) (.int .i64 x.1.kind)).set (i * 5 + 1) (.int .i64 x.1.n)).set (i * 5 + 2) (.string x.1.s)).set (i * 5 + 3) x.2.1).set (i * 5 + 4) x.2.2 := by
  induction L generalizing i with
  | nil => simp at h
  | cons y L ih =>
    cases i with
    | zero => rfl
    | succ i =>
      rw [List.set_cons_succ, five_cons, five_cons, ih i (by simpa using h)]
      rw [show (i + 1) * 5 = i * 5 + 5 by omega]
      rfl
theorem own_store {w : World} {base g n cap i : Nat} {L : List Tq} (h : w.ownsRow base 25 5 (.slice (some ⟨g, 0, none⟩) n cap) n (five L)) (hn : n = L.length) (hi : i < L.length) (x : Tq) :
    (w.setCells g (i * 5) [.int .i64 x.1.kind, .int .i64 x.1.n, .string x.1.s, x.2.1, x.2.2]).ownsRow base 25 5 (.slice (some ⟨g, 0, none⟩) n cap) n (five (L.set i x)) := by
  rw [five_set L i hi x]
  have h1 := (h.stored (i * 5) (.int .i64 x.1.kind)).1
  have h2 := (h1.stored (i * 5 + 1) (.int .i64 x.1.n)).1
  have h3 := (h2.stored (i * 5 + 2) (.string x.1.s)).1
  have h4 := (h3.stored (i * 5 + 3) x.2.1).1
  exact (h4.stored (i * 5 + 4) x.2.2).1
theorem own_there {w : World} {base g n cap i : Nat} {L : List Tq} (h : w.ownsRow base 25 5 (.slice (some ⟨g, 0, none⟩) n cap) n (five L)) (hn : n = L.length) (hi : i < L.length) : w.there g (i * 5) 5 := fun j hj => by
  refine ⟨?_, h.frozenAt _⟩
  rw [h.cellAt (i * 5 + j) (by omega)]
  have : i * 5 + j < (five L).length := by rw [five_length]; omega
  rw [List.getElem?_eq_getElem this]
  rfl
theorem below_setCells {B : Nat} {a : World} {g : Nat} (hg : B ≤ g) : ∀ (vs : List Value) (o : Nat) {w : World}, Below B a w → Below B a (w.setCells g o vs)
  | [], _, _, h => h
  | v :: r, o, w, h => below_setCells hg r (o + 1) (h.setCell (p := ⟨g, o, none⟩) hg v)
end Go.Proofs.Ytphanlkobkkgfaa
