/- Texts Own11, Tp11, Rset11, Rsetn, in one. -/
import Derived.Test.YtldjdoebappkoaaGreatDoorPJ
import Derived.Deep.MidRow
import Derived.Deep.AppendLies
import Derived.Deep.CutRange
/- Rows of the call's own whose elements are strings, or trees; append to them. -/
namespace Go.Proofs.YtldjdoebappkoaaGreatDoor
open Go.RowKit
set_option linter.unusedVariables false
set_option maxRecDepth 100000
set_option linter.unusedSimpArgs false

/-- the cells from address A on are these -/
def Src (w : World) (A : Option Addr) (news : List Value) : Prop := ∀ j u, news[j]? = some u → ∃ b off, A = some ⟨b, off, none⟩ ∧ w.cell? ⟨b, off + j, none⟩ = some u
theorem run_append_cells {P : Program} {T E : TypeId} {z : Value} {size bytes : Nat} (ht : P.underlying T = some (.slice E)) (hinf : (P.info? E).map (fun i => (i.zero, i.size, i.bytes)) = some (some z, size, bytes)) (hzs : z.cells.size = size) (hsz : 0 < size) (hfew : bytes ≤ 128)
    {w : World} (ty base : Nat) (v : Value) (n : Nat) (xs : List Value) (hown : w.ownsRow base E size v n xs) {A : Option Addr} (m c : Nat) (news : List Value) (hl : news.length = m * size) (hc : A = none → c = 0) (hmc : m ≤ c) (hsee : Src w A news) (h1 : ∀ u ∈ news, u.oneCell' = true)
    (hn : n + m ≤ 1000000000000) (hbase : base ≤ w.heap.size) :
    ∃ v' w', (Builtin.append_ #[T, T] ty #[v, .slice A m c]).run P w = .ok v' w' ∧ w'.ownsRow base E size v' (n + m) (xs ++ news) ∧ w.grownBy w' v.ownBlock ∧ (v'.ownBlock = v.ownBlock ∨ v'.ownBlock = some w.heap.size) := by
  obtain ⟨i0, hi, hz0, hz1, hz2⟩ := info_parts hinf
  have hb : (n + m) * bytes ≤ 140737488355328 := Nat.le_trans (Nat.mul_le_mul hn hfew) (by omega)
  cases A with
  | none =>
    have hc0 := hc rfl
    subst hc0
    have hm0 : m = 0 := by omega
    subst hm0
    have h0 : news = [] := List.eq_nil_of_length_eq_zero (by omega)
    subst h0
    exact ⟨v, w, run_append_owned_none w base T ty E i0 size ht hi v n xs hown, by simpa using hown, World.grownBy.refl w _, .inl rfl⟩
  | some ad =>
    have hnews : ∀ j u, news[j]? = some u → w.cell? (ad.add j) = some u := by
      intro j u hu
      obtain ⟨b, off, e, hcell⟩ := hsee j u hu
      injection e with e
      subst e
      rw [Addr.add_mid]
      exact hcell
    obtain ⟨v', w', h2, h3, h4, _, h5⟩ := run_append_own_at (P := P) w base T ty E i0 z size bytes ht hi hz0 hz1 hz2 hzs hsz v n xs hown ad m c news hl hnews h1 (by unfold maxLen; omega) hb hbase
    exact ⟨v', w', h2, h3, h4, h5⟩
theorem wpList_append_cells {P : Program} {T E : TypeId} {z : Value} {size bytes : Nat} (ht : P.underlying T = some (.slice E)) (hinf : (P.info? E).map (fun i => (i.zero, i.size, i.bytes)) = some (some z, size, bytes)) (hzs : z.cells.size = size) (hsz : 0 < size) (hfew : bytes ≤ 128)
    {ops : Array Oper} {rest : List Oper} {o : Oper} {a : Act} {w : World} {Q : Exit → Act → World → Prop} (s x : Operand) (hgd : o.guard = none)
    (ho : o.op = .call { callee := .builtin .append, args := #[s, x], argTypes := #[T, T] }) (base : Nat) (v : Value) (n : Nat) (xs : List Value) (hs : a.eval s = v) (hown : w.ownsRow base E size v n xs) {A : Option Addr} (m c : Nat) (news : List Value)
    (hx : a.eval x = .slice A m c) (hl : news.length = m * size) (hc : A = none → c = 0) (hmc : m ≤ c) (hsee : Src w A news) (h1 : ∀ u ∈ news, u.oneCell' = true) (hn : n + m ≤ 1000000000000) (hbase : base ≤ w.heap.size)
    (h : ∀ v' w', w'.ownsRow base E size v' (n + m) (xs ++ news) → w.grownBy w' v.ownBlock → (v'.ownBlock = v.ownBlock ∨ v'.ownBlock = some w.heap.size) → wpList P ops Q rest (a.put o.dst v') w') : wpList P ops Q (o :: rest) a w := by
  refine wpList_plain hgd fun K hK => ?_
  obtain ⟨v', w', hr, h2, h3, h4⟩ := run_append_cells ht hinf hzs hsz hfew (w := w) o.type base v n xs hown m c news hl hc hmc hsee h1 hn hbase
  unfold Oper.wp execOp
  simp only [ho, resolve, invoke, builtin, Sem.run_bind, Sem.run_pure, Result.andThen_ok, List.map_toArray, List.map_cons, List.map_nil, hs, hx, hr]
  exact hK _ _ (h v' w' h2 h3 h4)

/-! ### strings -/
def txs (l : List ByteArray) : List Value := l.map Value.string
theorem txs_length (l : List ByteArray) : (txs l).length = l.length := by simp [txs]
theorem txs_append (a b : List ByteArray) : txs (a ++ b) = txs a ++ txs b := by simp [txs]
theorem txs_one (l : List ByteArray) : ∀ u ∈ txs l, u.oneCell' = true := fun u hu => by
  simp only [txs, List.mem_map] at hu
  obtain ⟨x, _, rfl⟩ := hu
  rfl
theorem Sc.src {w : World} {B : Nat} {A : Option Addr} {l : List ByteArray} (h : Sc w B A l) : Src w A (txs l) := fun j u hu => by
  have hj : j < l.length := by
    rcases Nat.lt_or_ge j l.length with h | h
    · exact h
    · rw [List.getElem?_eq_none (by rw [txs_length]; exact h)] at hu; cases hu
  obtain ⟨b, off, e, _, hcl⟩ := h j hj
  refine ⟨b, off, e, ?_⟩
  have : (txs l)[j]? = some (.string l[j]) := by simp [txs, List.getElem?_eq_getElem hj]
  rw [this] at hu
  cases hu
  exact hcl
theorem Sc.take {w : World} {B : Nat} {A : Option Addr} {l : List ByteArray} (h : Sc w B A l) (i : Nat) : Sc w B A (l.take i) := fun j hj => by
  rw [List.length_take] at hj
  obtain ⟨b, off, e, hb, hc⟩ := h j (by omega)
  exact ⟨b, off, e, hb, by rw [List.getElem_take]; exact hc⟩
theorem Sc.drop {w : World} {B b off : Nat} {l : List ByteArray} (h : Sc w B (some ⟨b, off, none⟩) l) (i : Nat) : Sc w B (some ⟨b, off + i, none⟩) (l.drop i) := fun j hj => by
  rw [List.length_drop] at hj
  obtain ⟨b', off', e, hb, hc⟩ := h (i + j) (by omega)
  injection e with e
  injection e with e1 e2 _
  subst e1 e2
  exact ⟨_, _, rfl, hb, by rw [List.getElem_drop, Nat.add_assoc]; exact hc⟩
/-- what a row of the call's own looks like -/
theorem own_look {w : World} {base : Nat} {E size : Nat} {v : Value} {n : Nat} {xs : List Value} (h : w.ownsRow base E size v n xs) :
    ∃ A c, v = .slice A n c ∧ n ≤ c ∧ c ≤ maxLen ∧ (A = none → c = 0) ∧ ∀ j u, xs[j]? = some u → ∃ b, A = some ⟨b, 0, none⟩ ∧ base ≤ b ∧ b < w.heap.size ∧ w.cell? ⟨b, j, none⟩ = some u := by
  have h0 := h
  rcases h.2 with ⟨hv, hn⟩ | ⟨g, cap, cur, hv, hg, hh, hnc, hm, hs, ht⟩
  · subst hv hn
    have : xs = [] := List.eq_nil_of_length_eq_zero (by have := h.1; omega)
    subst this
    exact ⟨none, 0, rfl, Nat.le_refl _, by unfold maxLen; omega, fun _ => rfl, fun j u hu => by simp at hu⟩
  · subst hv
    refine ⟨_, cap, rfl, hnc, hm, fun h => by (cases h), fun j u hu => ⟨g, rfl, hg, (Array.getElem?_eq_some_iff.1 hh).1, ?_⟩⟩
    have := World.ownsRow.cells h0 (g := g) rfl j u hu
    rwa [Addr.add_mid, Nat.zero_add] at this
theorem Sk.of_own {w : World} {base : Nat} {v : Value} {l : List ByteArray} (h : w.ownsRow base 9 1 v l.length (txs l)) (hx : ∀ s ∈ l, s.size ≤ maxLen) : Sk w w.heap.size v l := by
  obtain ⟨A, c, rfl, h1, h2, h3, h4⟩ := own_look h
  refine ⟨A, c, rfl, fun i hi => ?_, h1, h2, h3, hx⟩
  obtain ⟨b, e, _, hb, hc⟩ := h4 i _ (show (txs l)[i]? = some (.string l[i]) by simp [txs, List.getElem?_eq_getElem hi])
  exact ⟨b, 0, e, hb, by rw [Nat.zero_add]; exact hc⟩

/-! ### trees -/
/-- a tree with its slices -/
abbrev Tq := Tn × Value × Value
def five (L : List Tq) : List Value := L.flatMap fun x => [.int .i64 x.1.kind, .int .i64 x.1.n, .string x.1.s, x.2.1, x.2.2]
theorem five_cons (x : Tq) (L : List Tq) : five (x :: L) = .int .i64 x.1.kind :: .int .i64 x.1.n :: .string x.1.s :: x.2.1 :: x.2.2 :: five L := rfl
theorem five_append (a b : List Tq) : five (a ++ b) = five a ++ five b := by simp [five]
theorem five_length (L : List Tq) : (five L).length = L.length * 5 := by
  induction L with
  | nil => rfl
  | cons x L ih => rw [five_cons]; simp only [List.length_cons, ih]; omega
theorem five_get : ∀ (L : List Tq) (i : Nat) (h : i < L.length), (five L)[i * 5]? = some (.int .i64 L[i].1.kind) ∧ (five L)[i * 5 + 1]? = some (.int .i64 L[i].1.n) ∧ (five L)[i * 5 + 2]? = some (.string L[i].1.s) ∧ (five L)[i * 5 + 3]? = some L[i].2.1 ∧ (five L)[i * 5 + 4]? = some L[i].2.2
  | x :: L, 0, h => ⟨rfl, rfl, rfl, rfl, rfl⟩
  | x :: L, i + 1, h => by
    rw [five_cons, show (i + 1) * 5 = i * 5 + 1 + 1 + 1 + 1 + 1 by omega]
    have := five_get L i (by simpa using h)
    refine ⟨?_, ?_, ?_, ?_, ?_⟩
    · simpa using this.1
    · rw [show i * 5 + 1 + 1 + 1 + 1 + 1 + 1 = (i * 5 + 1) + 1 + 1 + 1 + 1 + 1 by omega]; simpa using this.2.1
    · rw [show i * 5 + 1 + 1 + 1 + 1 + 1 + 2 = (i * 5 + 2) + 1 + 1 + 1 + 1 + 1 by omega]; simpa using this.2.2.1
    · rw [show i * 5 + 1 + 1 + 1 + 1 + 1 + 3 = (i * 5 + 3) + 1 + 1 + 1 + 1 + 1 by omega]; simpa using this.2.2.2.1
    · rw [show i * 5 + 1 + 1 + 1 + 1 + 1 + 4 = (i * 5 + 4) + 1 + 1 + 1 + 1 + 1 by omega]; simpa using this.2.2.2.2
/-- the slice with address A holds the trees L, in blocks below B -/
def Ks (w : World) (B : Nat) (A : Option Addr) (L : List Tq) : Prop := ∀ i (h : i < L.length), ∃ b off, A = some ⟨b, off, none⟩ ∧ b < B ∧ Cell5 w b (off + i * 5) L[i].1 L[i].2.1 L[i].2.2 ∧ Tv w B L[i].1 L[i].2.1 L[i].2.2
theorem Kv.list {w : World} {B : Nat} {v : Value} {l : List Tn} (h : Kv w B v l) : ∃ A c L, v = .slice A L.length c ∧ L.map (·.1) = l ∧ L.length ≤ c ∧ c ≤ maxLen ∧ (A = none → c = 0) ∧ Ks w B A L := by
  obtain ⟨A, c, rfl, h1, h2, h3, K, Q, hK⟩ := h
  refine ⟨A, c, l.mapIdx (fun i t => (t, K i, Q i)), by simp, ?_, by simpa using h1, h2, h3, fun i hi => ?_⟩
  · apply List.ext_getElem (by simp)
    intro i h1 h2
    simp
  · have hi' : i < l.length := by simpa using hi
    rw [List.getElem_mapIdx]
    exact hK i hi'
theorem Kv.of_list {w : World} {B : Nat} {A : Option Addr} {c : Nat} {L : List Tq} {l : List Tn} (hl : L.map (·.1) = l) (h1 : L.length ≤ c) (h2 : c ≤ maxLen) (h3 : A = none → c = 0) (h : Ks w B A L) : Kv w B (.slice A L.length c) l := by
  subst hl
  refine ⟨A, c, by simp, by simpa using h1, h2, h3, fun i => (L.map (·.2.1)).getD i (.bool false), fun i => (L.map (·.2.2)).getD i (.bool false), fun i hi => ?_⟩
  have hi' : i < L.length := by simpa using hi
  obtain ⟨b, off, e, hb, h5, h6⟩ := h i hi'
  have e1 : (L.map (·.2.1)).getD i (.bool false) = L[i].2.1 := by simp [List.getD, List.getElem?_eq_getElem hi']
  have e2 : (L.map (·.2.2)).getD i (.bool false) = L[i].2.2 := by simp [List.getD, List.getElem?_eq_getElem hi']
  simp only [e1, e2, List.getElem_map]
  exact ⟨b, off, e, hb, h5, h6⟩
theorem Ks.below {w w' : World} {B : Nat} {A : Option Addr} {L : List Tq} (h : Ks w B A L) (hb : Below B w w') : Ks w' B A L := fun i hi => by
  obtain ⟨b, off, e, hB, h5, h6⟩ := h i hi
  exact ⟨b, off, e, hB, h5.below hb hB, h6.keep hb⟩
theorem Ks.take {w : World} {B : Nat} {A : Option Addr} {L : List Tq} (h : Ks w B A L) (i : Nat) : Ks w B A (L.take i) := fun j hj => by
  rw [List.length_take] at hj
  obtain ⟨b, off, e, hb, hc⟩ := h j (by omega)
  exact ⟨b, off, e, hb, by rw [List.getElem_take]; exact hc⟩
theorem Ks.drop {w : World} {B b off : Nat} {L : List Tq} (h : Ks w B (some ⟨b, off, none⟩) L) (i : Nat) : Ks w B (some ⟨b, off + i * 5, none⟩) (L.drop i) := fun j hj => by
  rw [List.length_drop] at hj
  obtain ⟨b', off', e, hb, hc⟩ := h (i + j) (by omega)
  injection e with e
  injection e with e1 e2 _
  subst e1 e2
  exact ⟨_, _, rfl, hb, by rw [List.getElem_drop, show off + i * 5 + j * 5 = off + (i + j) * 5 by omega]; exact hc⟩
theorem Ks.tv {w : World} {B : Nat} {A : Option Addr} {L : List Tq} (h : Ks w B A L) : ∀ x ∈ L, Tv w B x.1 x.2.1 x.2.2 := fun x hx => by
  obtain ⟨i, hi, rfl⟩ := List.mem_iff_getElem.1 hx
  obtain ⟨_, _, _, _, _, h6⟩ := h i hi
  exact h6
theorem Ks.src {w : World} {B : Nat} {A : Option Addr} {L : List Tq} (h : Ks w B A L) : Src w A (five L) := fun j u hu => by
  have hj : j < L.length * 5 := by
    rcases Nat.lt_or_ge j (L.length * 5) with h | h
    · exact h
    · rw [List.getElem?_eq_none (by rw [five_length]; exact h)] at hu; cases hu
  obtain ⟨i, hij, hi⟩ : ∃ i, (j = i * 5 ∨ j = i * 5 + 1 ∨ j = i * 5 + 2 ∨ j = i * 5 + 3 ∨ j = i * 5 + 4) ∧ i < L.length := ⟨j / 5, by omega, by omega⟩
  obtain ⟨b, off, e, _, h5, _⟩ := h i hi
  obtain ⟨g0, g1, g2, g3, g4⟩ := five_get L i hi
  refine ⟨b, off, e, ?_⟩
  rcases hij with rfl | rfl | rfl | rfl | rfl
  · rw [g0] at hu; cases hu; exact h5.c0
  · rw [g1] at hu; cases hu; exact h5.c1
  · rw [g2] at hu; cases hu; exact h5.c2
  · rw [g3] at hu; cases hu; exact h5.c3
  · rw [g4] at hu; cases hu; exact h5.c4
theorem five_one {w : World} {B : Nat} {L : List Tq} (h : ∀ x ∈ L, Tv w B x.1 x.2.1 x.2.2) : ∀ u ∈ five L, u.oneCell' = true := fun u hu => by
  simp only [five, List.mem_flatMap] at hu
  obtain ⟨x, hx, hu⟩ := hu
  have := (h x hx).one
  simp at hu
  rcases hu with rfl | rfl | rfl | rfl | rfl
  · rfl
  · rfl
  · rfl
  · exact this.1
  · exact this.2
theorem Ks.of_own {w : World} {base B n c : Nat} {A : Option Addr} {L : List Tq} (h : w.ownsRow base 25 5 (.slice A n c) L.length (five L)) (hb : w.heap.size ≤ B) (ht : ∀ x ∈ L, Tv w B x.1 x.2.1 x.2.2) : Ks w B A L := fun i hi => by
  obtain ⟨A', c', e, h1, h2, h3, h4⟩ := own_look h
  injection e with e1 e2 e3
  subst e1 e3
  obtain ⟨g0, g1, g2, g3, g4⟩ := five_get L i hi
  obtain ⟨b, eb, _, hlt, q0⟩ := h4 _ _ g0
  obtain ⟨b1, eb1, _, _, q1⟩ := h4 _ _ g1
  obtain ⟨b2, eb2, _, _, q2⟩ := h4 _ _ g2
  obtain ⟨b3, eb3, _, _, q3⟩ := h4 _ _ g3
  obtain ⟨b4, eb4, _, _, q4⟩ := h4 _ _ g4
  subst eb
  cases eb1; cases eb2; cases eb3; cases eb4
  refine ⟨b, 0, rfl, by omega, ⟨?_, ?_, ?_, ?_, ?_⟩, ht _ (List.getElem_mem hi)⟩ <;> rw [Nat.zero_add]
  · exact q0
  · exact q1
  · exact q2
  · exact q3
  · exact q4
theorem Kv.of_own {w : World} {base B : Nat} {v : Value} {L : List Tq} {l : List Tn} (h : w.ownsRow base 25 5 v L.length (five L)) (hl : L.map (·.1) = l) (hb : w.heap.size ≤ B) (ht : ∀ x ∈ L, Tv w B x.1 x.2.1 x.2.2) : Kv w B v l := by
  obtain ⟨A, c, rfl, h1, h2, h3, h4⟩ := own_look h
  exact Kv.of_list hl h1 h2 h3 (Ks.of_own h hb ht)
/-- a tree is stored into a row of the call's own -/
theorem five_set (L : List Tq) (i : Nat) (h : i < L.length) (x : Tq) : five (L.set i x) = (((((five L).set (i * 5) (.int .i64 x.1.kind)).set (i * 5 + 1) (.int .i64 x.1.n)).set (i * 5 + 2) (.string x.1.s)).set (i * 5 + 3) x.2.1).set (i * 5 + 4) x.2.2 := by
  induction L generalizing i with
  | nil => simp at h
  | cons y L ih =>
    cases i with
    | zero => rfl
    | succ i =>
      rw [List.set_cons_succ, five_cons, five_cons, ih i (by simpa using h)]
      rw [show (i + 1) * 5 = i * 5 + 5 by omega]
      rfl
theorem own_store {w : World} {base g n cap i : Nat} {L : List Tq} (h : w.ownsRow base 25 5 (.slice (some ⟨g, 0, none⟩) n cap) n (five L)) (hn : n = L.length) (hi : i < L.length) (x : Tq) :
    (w.setCells g (i * 5) [.int .i64 x.1.kind, .int .i64 x.1.n, .string x.1.s, x.2.1, x.2.2]).ownsRow base 25 5 (.slice (some ⟨g, 0, none⟩) n cap) n (five (L.set i x)) := by
  rw [five_set L i hi x]
  have h1 := (h.stored (i * 5) (.int .i64 x.1.kind)).1
  have h2 := (h1.stored (i * 5 + 1) (.int .i64 x.1.n)).1
  have h3 := (h2.stored (i * 5 + 2) (.string x.1.s)).1
  have h4 := (h3.stored (i * 5 + 3) x.2.1).1
  exact (h4.stored (i * 5 + 4) x.2.2).1
theorem own_there {w : World} {base g n cap i : Nat} {L : List Tq} (h : w.ownsRow base 25 5 (.slice (some ⟨g, 0, none⟩) n cap) n (five L)) (hn : n = L.length) (hi : i < L.length) : w.there g (i * 5) 5 := fun j hj => by
  refine ⟨?_, h.frozenAt _⟩
  rw [h.cellAt (i * 5 + j) (by omega)]
  have : i * 5 + j < (five L).length := by rw [five_length]; omega
  rw [List.getElem?_eq_getElem this]
  rfl
theorem below_setCells {B : Nat} {a : World} {g : Nat} (hg : B ≤ g) : ∀ (vs : List Value) (o : Nat) {w : World}, Below B a w → Below B a (w.setCells g o vs)
  | [], _, _, h => h
  | v :: r, o, w, h => below_setCells hg r (o + 1) (h.setCell (p := ⟨g, o, none⟩) hg v)
end Go.Proofs.YtldjdoebappkoaaGreatDoor
/- Trees in blocks that meet a condition. -/
namespace Go.Proofs.YtldjdoebappkoaaGreatDoor
open Go.RowKit
set_option linter.unusedVariables false
set_option maxRecDepth 100000
set_option linter.unusedSimpArgs false

/-- the slices vk and vq are those of the tree t; all lies in blocks that meet P -/
inductive Tp (w : World) (P : Nat → Prop) : Tn → Value → Value → Prop
  | mk {k n : Int} {s : ByteArray} {keys : List ByteArray} {kids : List Tn} {Ak A : Option Addr} {ck c : Nat} (K Q : Nat → Value)
      (rk : -9223372036854775808 ≤ k ∧ k ≤ 9223372036854775807) (rn : -9223372036854775808 ≤ n ∧ n ≤ 9223372036854775807) (rs : s.size ≤ maxLen)
      (hk : ∀ i (h : i < keys.length), ∃ b off, Ak = some ⟨b, off, none⟩ ∧ P b ∧ w.cell? ⟨b, off + i, none⟩ = some (.string keys[i])) (h1 : keys.length ≤ ck) (h2 : ck ≤ maxLen) (h3 : Ak = none → ck = 0) (h4 : ∀ s ∈ keys, s.size ≤ maxLen)
      (hl : kids.length ≤ c) (hm : c ≤ maxLen) (hn : A = none → c = 0)
      (hc : ∀ i (h : i < kids.length), ∃ b off, A = some ⟨b, off, none⟩ ∧ P b ∧ Cell5 w b (off + i * 5) kids[i] (K i) (Q i))
      (ht : ∀ i (h : i < kids.length), Tp w P kids[i] (K i) (Q i)) : Tp w P (.mk k n s keys kids) (.slice Ak keys.length ck) (.slice A kids.length c)
section
variable {P P' : Nat → Prop} {w w' : World} {t : Tn} {vk vq : Value}
theorem Tp.tv (h : Tp w P t vk vq) : Tv w w.heap.size t vk vq := by
  induction h with
  | mk K Q rk rn rs hk h1 h2 h3 h4 hl hm hn hc ht ih =>
    refine .mk K Q rk rn rs ⟨_, _, rfl, fun i hi => ?_, h1, h2, h3, h4⟩ hl hm hn (fun i hi => ?_) ih
    · obtain ⟨b, off, e, _, hcl⟩ := hk i hi
      exact ⟨b, off, e, lt_of_cell hcl, hcl⟩
    · obtain ⟨b, off, e, _, h5⟩ := hc i hi
      exact ⟨b, off, e, lt_of_cell h5.c0, h5⟩
/-- the blocks that meet P are as they were, and meet P' -/
theorem Tp.keep (h : Tp w P t vk vq) (hf : ∀ b, P b → b < w.heap.size → P' b ∧ w'.heap[b]? = w.heap[b]?) : Tp w' P' t vk vq := by
  induction h with
  | mk K Q rk rn rs hk h1 h2 h3 h4 hl hm hn hc ht ih =>
    refine .mk K Q rk rn rs (fun i hi => ?_) h1 h2 h3 h4 hl hm hn (fun i hi => ?_) ih
    · obtain ⟨b, off, e, hb, hcl⟩ := hk i hi
      obtain ⟨p, q⟩ := hf b hb (lt_of_cell hcl)
      exact ⟨b, off, e, p, (World.cell?_of_block q).trans hcl⟩
    · obtain ⟨b, off, e, hb, h5⟩ := hc i hi
      obtain ⟨p, q⟩ := hf b hb (lt_of_cell h5.c0)
      exact ⟨b, off, e, p, ⟨(World.cell?_of_block (a := ⟨b, _, none⟩) q).trans h5.c0, (World.cell?_of_block (a := ⟨b, _, none⟩) q).trans h5.c1, (World.cell?_of_block (a := ⟨b, _, none⟩) q).trans h5.c2, (World.cell?_of_block (a := ⟨b, _, none⟩) q).trans h5.c3, (World.cell?_of_block (a := ⟨b, _, none⟩) q).trans h5.c4⟩⟩
theorem Tp.of_own {base : Nat} {L : List Tq} (b1 : -9223372036854775808 ≤ t.kind ∧ t.kind ≤ 9223372036854775807) (b2 : -9223372036854775808 ≤ t.n ∧ t.n ≤ 9223372036854775807) (b3 : t.s.size ≤ maxLen)
    (hk : w.ownsRow base 9 1 vk t.keys.length (txs t.keys)) (hx : ∀ s ∈ t.keys, s.size ≤ maxLen) (hq : w.ownsRow base 25 5 vq L.length (five L)) (hL : L.map (·.1) = t.kids) (hP : ∀ b, base ≤ b → P b) (hs : ∀ x ∈ L, Tp w P x.1 x.2.1 x.2.2) : Tp w P t vk vq := by
  obtain ⟨k, n, s, keys, kids⟩ := t
  change L.map (·.1) = kids at hL
  obtain ⟨Ak, ck, rfl, h1, h2, h3, h4⟩ := own_look hk
  obtain ⟨A, c, rfl, g1, g2, g3, g4⟩ := own_look hq
  have hlen : L.length = kids.length := by rw [← hL]; simp
  rw [hlen]
  refine .mk (fun i => (L.map (·.2.1)).getD i (.bool false)) (fun i => (L.map (·.2.2)).getD i (.bool false)) b1 b2 b3 (fun i hi => ?_) h1 h2 h3 hx (by omega) g2 g3 (fun i hi => ?_) (fun i hi => ?_)
  · obtain ⟨b, e, hb, _, hc⟩ := h4 i _ (show (txs keys)[i]? = some (.string keys[i]) by simp [txs, List.getElem?_eq_getElem hi])
    exact ⟨b, 0, e, hP b hb, by rw [Nat.zero_add]; exact hc⟩
  · have hi' : i < L.length := by omega
    have e1 : (L.map (·.2.1)).getD i (.bool false) = L[i].2.1 := by simp [List.getD, List.getElem?_eq_getElem hi']
    have e2 : (L.map (·.2.2)).getD i (.bool false) = L[i].2.2 := by simp [List.getD, List.getElem?_eq_getElem hi']
    have e3 : kids[i] = L[i].1 := by subst hL; simp
    simp only [e1, e2, e3]
    obtain ⟨f0, f1, f2, f3, f4⟩ := five_get L i hi'
    obtain ⟨b, eb, hb, hlt, q0⟩ := g4 _ _ f0
    obtain ⟨_, eb1, _, _, q1⟩ := g4 _ _ f1
    obtain ⟨_, eb2, _, _, q2⟩ := g4 _ _ f2
    obtain ⟨_, eb3, _, _, q3⟩ := g4 _ _ f3
    obtain ⟨_, eb4, _, _, q4⟩ := g4 _ _ f4
    subst eb
    cases eb1; cases eb2; cases eb3; cases eb4
    refine ⟨b, 0, rfl, hP b hb, ⟨?_, ?_, ?_, ?_, ?_⟩⟩ <;> rw [Nat.zero_add]
    · exact q0
    · exact q1
    · exact q2
    · exact q3
    · exact q4
  · have hi' : i < L.length := by omega
    have e1 : (L.map (·.2.1)).getD i (.bool false) = L[i].2.1 := by simp [List.getD, List.getElem?_eq_getElem hi']
    have e2 : (L.map (·.2.2)).getD i (.bool false) = L[i].2.2 := by simp [List.getD, List.getElem?_eq_getElem hi']
    have e3 : kids[i] = L[i].1 := by subst hL; simp
    simp only [e1, e2, e3]
    exact hs _ (List.getElem_mem hi')
theorem Tp.leaf (w : World) (P : Nat → Prop) {k n : Int} {s : ByteArray} (b1 : -9223372036854775808 ≤ k ∧ k ≤ 9223372036854775807) (b2 : -9223372036854775808 ≤ n ∧ n ≤ 9223372036854775807) (b3 : s.size ≤ maxLen) : Tp w P (.mk k n s [] []) (.slice none 0 0) (.slice none 0 0) :=
  .mk (fun _ => .bool false) (fun _ => .bool false) b1 b2 b3 (fun i hi => by simp at hi) (by simp) (by unfold maxLen; omega) (fun _ => rfl) (fun s hs => by cases hs) (by simp) (by unfold maxLen; omega) (fun _ => rfl) (fun i hi => by simp at hi) (fun i hi => by simp at hi)
end
theorem own_low {w : World} {base base' n sz : Nat} {t : TypeId} {v : Value} {xs : List Value} (h : w.ownsRow base t sz v n xs) (hb : base' ≤ base) : w.ownsRow base' t sz v n xs := by
  obtain ⟨h1, h2⟩ := h
  refine ⟨h1, ?_⟩
  rcases h2 with h2 | ⟨g, cap, cur, hv, hg, r⟩
  · exact .inl h2
  · exact .inr ⟨g, cap, cur, hv, Nat.le_trans hb hg, r⟩
theorem Tv.tp {w : World} {B : Nat} {t : Tn} {vk vq : Value} (h : Tv w B t vk vq) : Tp w (fun b => b < B) t vk vq := by
  induction h with
  | mk K Q rk rn rs hs hl hm hn hc ht ih =>
    obtain ⟨A, c, rfl, h1, h2, h3, h4, h5⟩ := hs
    exact .mk K Q rk rn rs h1 h2 h3 h4 h5 hl hm hn hc ih
theorem Tp.any {w : World} {P P' : Nat → Prop} {t : Tn} {vk vq : Value} (h : Tp w P t vk vq) (hf : ∀ b, P b → P' b) : Tp w P' t vk vq := h.keep (fun b hb _ => ⟨hf b hb, rfl⟩)
/-- its kids as a list -/
theorem Tp.list {w : World} {P : Nat → Prop} {t : Tn} {vk vq : Value} (h : Tp w P t vk vq) : ∃ A c L, vq = .slice A L.length c ∧ L.map (·.1) = t.kids ∧ L.length ≤ c ∧ c ≤ maxLen ∧ (A = none → c = 0) ∧ Ks w w.heap.size A L ∧ ∀ y ∈ L, Tp w P y.1 y.2.1 y.2.2 := by
  cases h with
  | @mk k n s keys kids Ak A ck c K Q rk rn rs hk h1 h2 h3 h4 hl hm hn hc ht =>
    refine ⟨A, c, kids.mapIdx (fun i t => (t, K i, Q i)), by simp, ?_, by simpa using hl, hm, hn, fun i hi => ?_, fun y hy => ?_⟩
    · apply List.ext_getElem (by simp [Tn.kids])
      intro i h1 h2
      simp [Tn.kids]
    · have hi' : i < kids.length := by simpa using hi
      rw [List.getElem_mapIdx]
      obtain ⟨b, off, e, hb, h5⟩ := hc i hi'
      exact ⟨b, off, e, lt_of_cell h5.c0, h5, (ht i hi').tv⟩
    · obtain ⟨i, hi, rfl⟩ := List.mem_iff_getElem.1 hy
      have hi' : i < kids.length := by simpa using hi
      rw [List.getElem_mapIdx]
      exact ht i hi'
end Go.Proofs.YtldjdoebappkoaaGreatDoor
/- Contract of the reference's Set of layer 11. -/
namespace Go.Proofs.YtldjdoebappkoaaGreatDoor
open Go.RowKit
set_option linter.unusedVariables false
set_option maxRecDepth 100000
set_option linter.unusedSimpArgs false

theorem results_tree {fn : Func} {p : Tmp} {tmps : Array Value} {w : World} {g : Nat} {cs : Array Value} (h : fn.results = #[.cell p 25])
    (hp : tmps.getD p undef = .pointer (some ⟨g, 0, none⟩)) (hg : Whole w g 25 cs) (hc : cs.size = 5) :
    (results fn tmps).run Tryz.prog w = .ok (.agg cs) w := by
  have hp' : tmps[p]?.getD undef = .pointer (some ⟨g, 0, none⟩) := by simpa using hp
  simp [results, h, hp', asAddr, run_loadVar_row w g 25 25 cs (0, 0) _ hg Tryz.underlying25 rfl (treeI hc)]
theorem Tn.set_same {t : Tn} {key : ByteArray} {x : Tn} (h : t.fits = false) : t.set key x = t := by unfold set; rw [if_pos h]
theorem Tn.fits_false {t : Tn} (h : ¬ t.kind = 4 ∨ ¬ t.keys.length = t.kids.length) : t.fits = false := by
  unfold fits
  rcases h with h | h <;> simp [h]
/-- an answer that is a tree -/
def TreePost (t : Tn) (w : World) (e : Ending) (w' : World) : Prop := ∃ vk vq, e = .returned (tval t vk vq) ∧ Tv w' w'.heap.size t vk vq ∧ Below w.heap.size w w'
theorem treeZ : (Tryz.prog.info? 25).map (fun i => (i.zero, i.size, i.bytes)) = some (some (.agg #[.int .i64 0, .int .i64 0, .string ⟨#[]⟩, .slice none 0 0, .slice none 0 0]), 5, 80) := by kernel_rfl

theorem own_other {w : World} {base g n sz : Nat} {E : TypeId} {v : Value} {xs : List Value} (h : w.ownsRow base E sz v n xs) (hg : g < base) (cs : Array Value) : (w.setRow g cs).ownsRow base E sz v n xs := by
  obtain ⟨h1, h2⟩ := h
  refine ⟨h1, ?_⟩
  rcases h2 with h2 | ⟨k, cap, cur, hv, hk, hh, r⟩
  · exact .inl h2
  · exact .inr ⟨k, cap, cur, hv, hk, (setRow_other w g k cs (by omega)).trans hh, r⟩
theorem mem_set {α : Type} {l : List α} {i : Nat} {x y : α} (h : y ∈ l.set i x) : y = x ∨ y ∈ l := by
  rcases List.mem_or_eq_of_mem_set h with h | h
  · exact .inr h
  · exact .inl h
set_option maxHeartbeats 4000000 in
theorem rset11_old {t x : Tn} {w : World} {B C : Nat} {vk vq xk xq : Value} (H : Tv w B t vk vq) (hl1 : t.keys.length ≤ 100000) (hl2 : t.kids.length ≤ 100000) (key : ByteArray) (hkey : key.size ≤ maxLen) (HX : Tv w C x xk xq) (hw : t.fits = true → Tn.place t.keys key < t.keys.length) :
    Calls Tryz.prog 59 #[tval t vk vq, .string key, tval x xk xq] w (TreePost (t.set key x) w) := by
  obtain ⟨Axk, cxk, rfl, _⟩ := HX.keys
  obtain ⟨Axq, cxq, rfl, _⟩ := HX.kids
  obtain ⟨b, w1, hs, hal, hT1, hb1⟩ := boxedT H
  have hTw : Tv w b t vk vq := by rw [← hs]; exact H.all
  obtain ⟨A, c, L, rfl, hL, h1, h2, h3, hKw⟩ := hTw.kv.list
  have HTw := Lib.hid hTw
  have HXv : Hid (Tv w b x (.slice Axk x.keys.length cxk) (.slice Axq x.kids.length cxq)) := Lib.hid (by rw [← hs]; exact HX.all)
  have HX1 : Tv w1 w1.heap.size x (.slice Axk x.keys.length cxk) (.slice Axq x.kids.length cxq) := (HX.all.keep (by rw [hs]; exact hb1)).all
  obtain ⟨b2, w2, hs2, hal2, hX2, hb2⟩ := boxedT HX1
  obtain ⟨g, w3, hg, hal3, hY, hb3, hs3⟩ := var_tree w2
  have hbb : b < b2 := by rw [← hs2]; exact hT1.lt
  have hbg : b2 < g := by rw [← hg]; exact hX2.lt
  have hT := (hT1.below hb2 hbb).below hb3 (by omega)
  have hX := hX2.below hb3 hbg
  have HT := Lib.hid hT
  have HXb := Lib.hid hX
  have HY := Lib.hid hY
  have HB3 : Hid (Below b w w3) := Lib.hid (hb1.trans ((hb2.trans (hb3.mono (by omega))).mono (by omega)))
  obtain ⟨c0, c1, c2, c3, c4⟩ := hT.cells
  have HPL := Lib.hid (rplace_any hT.tv.keys key)
  have HKw := Lib.hid hKw
  have HKs : Hid (Ks w3 b A L) := Lib.hid (hKw.below HB3.out)
  obtain ⟨Ak, ck, rfl, hSk⟩ := hT.tv.keys
  have HSk := Lib.hid hSk.1
  have hsk := hSk.2
  unfold maxLen at h2 hsk
  obtain ⟨hsk1, hsk2, hsk3, hsk4⟩ := hsk
  have HSZ := Lib.hid hsk4
  have hpl := Tn.place_le t.keys key
  have S1 := Lib.hid (fun h => Tn.set_same (t := t) (key := key) (x := x) h)
  have F1 := Lib.hid (fun h => Tn.fits_false (t := t) h)
  have HLn : Hid (L.length = t.kids.length) := Lib.hid (by rw [← hL]; simp)
  obtain ⟨n, hn⟩ : ∃ n, Hid (L.length = n) := ⟨_, rfl⟩
  obtain ⟨nk, hnk⟩ : ∃ n, Hid (t.keys.length = n) := ⟨_, rfl⟩
  rw [hnk.out] at hl1 c3 hsk1 hal HPL hpl F1 ⊢
  rw [← HLn.out] at hl2 F1
  rw [hn.out] at hl2 h1 c4 hal F1 ⊢
  unfold tcells at hal hal2
  unfold tval
  clear hT1 hT hX2 hX H HX HX1 hKw hTw hSk hsk4 hY hb1 hb2 hb3
  have HTv : Hid (Tv w3 b t (.slice Ak nk ck) (.slice A n c)) := Lib.hid (by rw [← hnk.out, ← hn.out]; exact HT.out.tv)
  by_cases e0 : t.kind = 4
  case neg =>
    have HS := Lib.hid (S1.out (F1.out (.inl e0)))
    have q : (t.kind == 4) = false := by simpa using e0
    have q1 : (t.kind != 4) = true := by simpa using e0
    go_enter Tryz.func59, Tryz.ntmps59
    go_wp2_with (refine wpList_store_whole rfl rfl rfl rfl rfl HY.out (treeI rfl) rfl (by simp [Value.oneCell']) ?_)
    refine bodyPost_ret (v := tval t (.slice Ak nk ck) (.slice A n c)) ?_ rfl ⟨.slice Ak nk ck, .slice A n c, by rw [HS.out], ?_, by rw [hs]; exact below_row HB3.out (by omega) _⟩
    · exact results_tree rfl rfl (HY.out.row _) rfl
    · rw [HS.out]
      exact (HTv.out.keep (below_row (Below.refl _ _) (show b ≤ g by omega) _)).all
  rw [e0] at hal c0 ⊢
  by_cases e1 : nk = n
  case neg =>
    have HS := Lib.hid (S1.out (F1.out (.inr e1)))
    have q : ((nk : Int) == (n : Int)) = false := by simp; omega
    have q1 : ((nk : Int) != (n : Int)) = true := by simp; omega
    go_enter Tryz.func59, Tryz.ntmps59
    go_wp2_with (refine wpList_store_whole rfl rfl rfl rfl rfl HY.out (treeI rfl) rfl (by simp [Value.oneCell']) ?_)
    refine bodyPost_ret (v := tval t (.slice Ak nk ck) (.slice A n c)) ?_ rfl ⟨.slice Ak nk ck, .slice A n c, by rw [HS.out], ?_, by rw [hs]; exact below_row HB3.out (by omega) _⟩
    · rw [← e0]; exact results_tree rfl rfl (HY.out.row _) rfl
    · rw [HS.out]
      exact (HTv.out.keep (below_row (Below.refl _ _) (show b ≤ g by omega) _)).all
  subst e1
  clear S1 F1
  obtain ⟨p, hp⟩ : ∃ p, Hid (Tn.place t.keys key = p) := ⟨_, rfl⟩
  rw [hp.out] at HPL hpl
  by_cases e2 : p < nk
  · have HS := Lib.hid (Tn.set_found (t := t) (key := key) (x := x) (by unfold Tn.fits; simp [e0, hnk.out, ← HLn.out, hn.out]) (by rw [hp.out, hnk.out]; exact e2))
    rw [hp.out] at HS
    obtain ⟨w5, hal5⟩ : ∃ w5, w3.alloc (.cells #[] 25) = w5 := ⟨_, rfl⟩
    have hB5 : Below w3.heap.size w3 w5 := by rw [← hal5]; exact (Below.refl _ _).alloc (Nat.le_refl _) _
    have hO5 : w5.ownsRow (g + 1) 25 5 (.slice (some ⟨g + 1, 0, none⟩) 0 0) 0 [] := by rw [← hal5, ← hs3]; exact World.ownsRow_made _ _ 0 (by omega) (by unfold maxLen; omega) rfl
    have hs5 : w5.heap.size = g + 2 := by rw [← hal5]; simp [hs3]
    have k0 : w5.cell? ⟨b, 0, none⟩ = _ := (hB5.cell (lt_of_cell c0)).trans c0
    have k1 : w5.cell? ⟨b, 1, none⟩ = _ := (hB5.cell (lt_of_cell c1)).trans c1
    have k2 : w5.cell? ⟨b, 2, none⟩ = _ := (hB5.cell (lt_of_cell c2)).trans c2
    have k3 : w5.cell? ⟨b, 3, none⟩ = _ := (hB5.cell (lt_of_cell c3)).trans c3
    have k4 : w5.cell? ⟨b, 4, none⟩ = _ := (hB5.cell (lt_of_cell c4)).trans c4
    have HO5 := Lib.hid hO5
    have HB5 : Hid (Below w3.heap.size w3 w5) := Lib.hid hB5
    have HSr : Hid (Src w5 A (five L)) := Lib.hid (HKs.out.below (hB5.mono (by omega))).src
    have HF1 := Lib.hid (five_one HKs.out.tv)
    clear hB5 hO5
    go_enter Tryz.func59, Tryz.ntmps59
    go_upto_region 6 with (first | (refine (HPL.out).mono ?_; rintro e w4 ⟨rfl, rfl⟩) | (at_builtin; refine wpList_append_cells Tryz.underlying23 treeZ rfl (by decide) (by decide) _ _ rfl rfl (g + 1) _ 0 [] rfl HO5.out nk c (five L) rfl (by rw [five_length, hn.out]) h3 h1 HSr.out HF1.out (by omega) (by omega) ?_; intro v6 w6 ho6 hg6 _; rw [Nat.zero_add, List.nil_append] at ho6; obtain ⟨g6, cap6, rfl, hbg6, hlt6⟩ := ho6.form (by omega); have hb6 : Below (g + 1) w5 w6 := (Below.refl _ _).grown hg6 (by omega) (fun k hk => by cases hk; exact Nat.le_refl _); have j0 := (hb6.cell (p := ⟨b, 4, none⟩) (show b < g + 1 by omega)).trans k4; have j1 : w6.frozen? ⟨b, 4, none⟩ = false := (HT.out.below (HB5.out.trans (hb6.mono (by omega))) (by omega)).bx.free 4))
    obtain ⟨w7, hw7⟩ : ∃ w7, w6.setCell ⟨b, 4, none⟩ (.slice (some ⟨g6, 0, none⟩) nk cap6) = w7 := ⟨_, rfl⟩
    rw [hw7]
    have hpL : p < L.length := by rw [hn.out]; exact e2
    have ho7 : w7.ownsRow (g + 1) 25 5 (.slice (some ⟨g6, 0, none⟩) nk cap6) nk (five L) := by rw [← hw7]; exact ownsRow_setCell_below ho6 (show b < g + 1 by omega) _
    have hW6 := (HT.out.below (HB5.out.trans (hb6.mono (by omega))) (by omega)).bx
    have hW7 := hW6.put 4 (.slice (some ⟨g6, 0, none⟩) nk cap6)
    rw [hw7] at hW7
    have hX7 : Whole w7 b2 25 (tcells x (.slice Axk x.keys.length cxk) (.slice Axq x.kids.length cxq)) := by
      rw [← hw7]
      exact ((HXb.out.below (HB5.out.trans (hb6.mono (by omega))) (by omega)).bx).other (by simp; omega) _
    have hY7 : Whole w7 g 25 #[.int .i64 0, .int .i64 0, .string ⟨#[]⟩, .slice none 0 0, .slice none 0 0] := by
      rw [← hw7]
      exact ((HY.out.below HB5.out (by omega)).below hb6 (by omega)).other (by simp; omega) _
    have HB7 : Hid (Below b w w7) := Lib.hid (by rw [← hw7]; exact ((HB3.out.trans (HB5.out.mono (by omega))).trans (hb6.mono (by omega))).setCell (p := ⟨b, 4, none⟩) (Nat.le_refl _) _)
    have m0 := hW7.at_ 0
    have m4 := hW7.at_ 4
    have q0 := hX7.at_ 0
    have q1 := hX7.at_ 1
    have q2 := hX7.at_ 2
    have q3 := hX7.at_ 3
    have q4 := hX7.at_ 4
    have HTh := Lib.hid (own_there ho7 hn.out.symm hpL)
    have HO7 := Lib.hid ho7
    have HY7 := Lib.hid hY7
    have HW7 := Lib.hid hW7
    simp at m0 m4 q0 q1 q2 q3 q4
    clear ho6 hg6 hb6 j0 j1 hw7 hW6 hX7 hY7 ho7 hW7 k0 k1 k2 k3 k4 c0 c1 c2 c3 c4 hal hal2 hal3 hal5
    go_upto_region 7 with (refine wpList_store_mid rfl 25 _ _ rfl g6 (p * 5) #[.int .i64 x.kind, .int .i64 x.n, .string x.s, .slice Axk x.keys.length cxk, .slice Axq x.kids.length cxq] rfl rfl HTh.out (treeI rfl) (by simp [Value.oneCell']) ?_)
    try simp only [Act.put]
    obtain ⟨w8, hw8⟩ : ∃ w8, w7.setCells g6 (p * 5) (#[.int .i64 x.kind, .int .i64 x.n, .string x.s, .slice Axk x.keys.length cxk, .slice Axq x.kids.length cxq] : Array Value).toList = w8 := ⟨_, rfl⟩
    have hb8 : Below (g + 1) w7 w8 := by rw [← hw8]; exact below_setCells (by omega) _ _ (Below.refl _ _)
    have ho8 : w8.ownsRow (g + 1) 25 5 (.slice (some ⟨g6, 0, none⟩) nk cap6) nk (five (L.set p (x, .slice Axk x.keys.length cxk, .slice Axq x.kids.length cxq))) := by rw [← hw8]; exact own_store HO7.out hn.out.symm hpL (x, .slice Axk x.keys.length cxk, .slice Axq x.kids.length cxq)
    have hW8 := HW7.out.below hb8 (by omega)
    have HY8 := Lib.hid (HY7.out.below hb8 (by omega))
    have HB8 := Lib.hid (HB7.out.trans (hb8.mono (by omega)))
    simp only [] at hw8
    rw [hw8]
    have m0 := hW8.at_ 0
    have m1 := hW8.at_ 1
    have m2 := hW8.at_ 2
    have m3 := hW8.at_ 3
    have m4 := hW8.at_ 4
    simp [hnk.out] at m0 m1 m2 m3 m4
    rw [e0] at m0
    have HO8 := Lib.hid ho8
    clear hw8 ho8 hb8 hW8 q0 q1 q2 q3 q4
    go_wp2_with (refine wpList_store_whole rfl rfl rfl rfl rfl HY8.out (treeI rfl) rfl (by simp [Value.oneCell']) ?_)
    obtain ⟨w9, hw9⟩ : ∃ w9, w8.setRow g #[.int .i64 4, .int .i64 t.n, .string t.s, .slice Ak nk ck, .slice (some ⟨g6, 0, none⟩) nk cap6] = w9 := ⟨_, rfl⟩
    have hO9 : w9.ownsRow (g + 1) 25 5 (.slice (some ⟨g6, 0, none⟩) nk cap6) nk (five (L.set p (x, .slice Axk x.keys.length cxk, .slice Axq x.kids.length cxq))) := by rw [← hw9]; exact own_other HO8.out (by omega) _
    have hB9 : Below b w w9 := by rw [← hw9]; exact below_row HB8.out (by omega) _
    refine bodyPost_ret (v := tval (t.set key x) (.slice Ak nk ck) (.slice (some ⟨g6, 0, none⟩) nk cap6)) ?_ rfl ⟨.slice Ak nk ck, .slice (some ⟨g6, 0, none⟩) nk cap6, rfl, ?_, ?_⟩
    · have hv : tval (Tn.mk t.kind t.n t.s t.keys (t.kids.set p x)) (.slice Ak nk ck) (.slice (some ⟨g6, 0, none⟩) nk cap6) = .agg #[.int .i64 4, .int .i64 t.n, .string t.s, .slice Ak nk ck, .slice (some ⟨g6, 0, none⟩) nk cap6] := by rw [← e0]; rfl
      rw [HS.out, hv]
      exact results_tree rfl rfl (HY8.out.row _) rfl
    · rw [hw9, HS.out]
      have hTv9 := HTw.out.keep hB9
      have hbs : b ≤ w9.heap.size := by rw [← hs]; exact hB9.size
      have hx9 : Tv w9 w9.heap.size x (.slice Axk x.keys.length cxk) (.slice Axq x.kids.length cxq) := (HXv.out.keep hB9).more hbs
      rw [← hnk.out]
      refine Tv.of hTv9.kind hTv9.num hTv9.str (hTv9.keys.more hbs) (Kv.of_own (L := L.set p (x, .slice Axk x.keys.length cxk, .slice Axq x.kids.length cxq)) (base := g + 1) (by rw [List.length_set, hn.out, hnk.out]; exact hO9) (by rw [List.map_set, hL]; rfl) (Nat.le_refl _) (fun y hy => ?_))
      rcases mem_set hy with rfl | hy
      · exact hx9
      · exact ((HKw.out.tv y hy).keep hB9).more hbs
    · rw [hw9, hs]; exact hB9
  · exact absurd (by have h := hw (by unfold Tn.fits; simp [e0, hnk.out, ← HLn.out, hn.out]); rw [hp.out, hnk.out] at h; exact h) e2
end Go.Proofs.YtldjdoebappkoaaGreatDoor
/- Contract of the reference's Set of layer 11, where the key is new. -/
namespace Go.Proofs.YtldjdoebappkoaaGreatDoor
open Go.RowKit
set_option linter.unusedVariables false
set_option maxRecDepth 100000
set_option linter.unusedSimpArgs false
namespace Tn
theorem gap_not {l : List ByteArray} {key : ByteArray} {i : Nat} (h : i < gap l key) (hl : i < l.length) : less key l[i] = false := by
  have := List.not_of_lt_findIdx h
  simpa using this
theorem gap_is {l : List ByteArray} {key : ByteArray} {i : Nat} (hl : i < l.length) (h : ∀ j (h : j < i), less key (l[j]'(by omega)) = false) (h1 : less key l[i] = true) : gap l key = i := by
  unfold gap
  refine (List.findIdx_eq hl).2 ⟨h1, fun j hj => by simpa using h j hj⟩
theorem gap_end {l : List ByteArray} {key : ByteArray} (h : ∀ k ∈ l, less key k = false) : gap l key = l.length := by
  unfold gap
  exact List.findIdx_eq_length.2 (fun k hk => by simpa using h k hk)
end Tn

theorem strZ11 : (Tryz.prog.info? 9).map (fun i => (i.zero, i.size, i.bytes)) = some (some (.string ⟨#[]⟩), 1, 16) := by kernel_rfl
theorem own_lit0 {E sz : Nat} (w : World) {base z : Nat} (hz : w.heap.size = z) (hb : base ≤ z) : (w.alloc (.cells #[] E)).ownsRow base E sz (.slice (some ⟨z, 0, none⟩) 0 0) 0 [] := by
  subst hz
  exact World.ownsRow_made _ _ 0 hb (by unfold maxLen; omega) (by simp)
theorem src_lit {E : Nat} (w : World) {z : Nat} (hz : w.heap.size = z) (cs : Array Value) : Src (w.alloc (.cells cs E)) (some ⟨z, 0, none⟩) cs.toList := fun j u hu => by
  subst hz
  refine ⟨_, 0, rfl, ?_⟩
  rw [Nat.zero_add, cell_of_row _ _ j cs E (0, 0) (heap_alloc_new w _), ← hu]
  simp
theorem below_lit {E : Nat} (w : World) {z : Nat} (hz : w.heap.size = z) (cs : Array Value) : Below z w (w.alloc (.cells cs E)) := (Below.refl z w).alloc (by omega) _
theorem cutAt_add (A : Option Addr) (c j : Nat) (h : c ≠ j) : (if c = j then A else A.map (fun x => x.add j)) = A.map (fun x => x.add j) := if_neg h
theorem Sc.cut {w : World} {B c j : Nat} {A : Option Addr} {l : List ByteArray} (h : Sc w B A l) (hc : l.length ≤ c) : Sc w B (if c = j then A else A.map (fun x => x.add j)) (l.drop j) := by
  intro i hi
  rw [List.length_drop] at hi
  rw [if_neg (by omega)]
  obtain ⟨b, off, e, hb, hcl⟩ := h (j + i) (by omega)
  subst e
  refine ⟨b, off + j, by simp [Addr.add_mid], hb, ?_⟩
  rw [List.getElem_drop, Nat.add_assoc]
  exact hcl
theorem Ks.cut {w : World} {B c j : Nat} {A : Option Addr} {L : List Tq} (h : Ks w B A L) (hc : L.length ≤ c) : Ks w B (if c = j then A else A.map (fun x => x.add (j * 5))) (L.drop j) := by
  intro i hi
  rw [List.length_drop] at hi
  rw [if_neg (by omega)]
  obtain ⟨b, off, e, hb, hcl⟩ := h (j + i) (by omega)
  subst e
  refine ⟨b, off + j * 5, by simp [Addr.add_mid], hb, ?_⟩
  rw [List.getElem_drop, show off + j * 5 + i * 5 = off + (j + i) * 5 by omega]
  exact hcl
theorem cut_null {A : Option Addr} {c j k : Nat} (h : A = none → c = 0) (e : (if c = j then A else A.map (fun x => x.add k)) = none) : c - j = 0 := by
  split at e
  · omega
  · cases A with
    | none => have := h rfl; omega
    | some a => simp at e
def pickIf (c j : Nat) (X Y : Option Addr) : Option Addr := if c = j then X else Y
/-- what Set answers: a tree in blocks that meet P, or that the call has made -/
def TreeAt (P : Nat → Prop) (t : Tn) (w : World) (e : Ending) (w' : World) : Prop := ∃ vk vq, e = .returned (tval t vk vq) ∧ Tp w' (fun b => P b ∨ w.heap.size ≤ b) t vk vq ∧ Below w.heap.size w w'
set_option maxHeartbeats 4000000 in
theorem rset11_at {t x : Tn} {w : World} {P : Nat → Prop} {vk vq xk xq : Value} (HP : Tp w P t vk vq) (hl1 : t.keys.length ≤ 100000) (hl2 : t.kids.length ≤ 100000) (key : ByteArray) (hkey : key.size ≤ maxLen) (HXP : Tp w P x xk xq) (hf : t.fits = true) (hw : ¬ Tn.place t.keys key < t.keys.length) :
    Calls Tryz.prog 59 #[tval t vk vq, .string key, tval x xk xq] w (TreeAt P (t.set key x) w) := by
  have H := HP.tv
  have HX := HXP.tv
  obtain ⟨Axk, cxk, rfl, _⟩ := HX.keys
  obtain ⟨Axq, cxq, rfl, _⟩ := HX.kids
  obtain ⟨b, w1, hs, hal, hT1, hb1⟩ := boxedT H
  have hTw : Tv w b t vk vq := by rw [← hs]; exact H.all
  obtain ⟨A, c, L, rfl, hL, h1, h2, h3, hKw, hLP⟩ := HP.list
  rw [hs] at hKw
  have HLP := Lib.hid hLP
  have HXp := Lib.hid HXP
  clear hLP HP HXP
  have HTw := Lib.hid hTw
  have HX1 : Tv w1 w1.heap.size x (.slice Axk x.keys.length cxk) (.slice Axq x.kids.length cxq) := (HX.all.keep (by rw [hs]; exact hb1)).all
  obtain ⟨b2, w2, hs2, hal2, hX2, hb2⟩ := boxedT HX1
  obtain ⟨g, w3, hg, hal3, hY, hb3, hs3⟩ := var_tree w2
  have hbb : b < b2 := by rw [← hs2]; exact hT1.lt
  have hbg : b2 < g := by rw [← hg]; exact hX2.lt
  have hT := (hT1.below hb2 hbb).below hb3 (by omega)
  have hX := hX2.below hb3 hbg
  have HT := Lib.hid hT
  have HXb := Lib.hid hX
  have HY := Lib.hid hY
  have HB3 : Hid (Below b w w3) := Lib.hid (hb1.trans ((hb2.trans (hb3.mono (by omega))).mono (by omega)))
  obtain ⟨c0, c1, c2, c3, c4⟩ := hT.cells
  have HPL := Lib.hid (rplace_any hT.tv.keys key)
  have HKw := Lib.hid hKw
  have HKs : Hid (Ks w3 b A L) := Lib.hid (hKw.below HB3.out)
  obtain ⟨Ak, ck, rfl, hSk⟩ := hT.tv.keys
  have HSk := Lib.hid hSk.1
  have hsk := hSk.2
  unfold maxLen at h2 hsk
  obtain ⟨hsk1, hsk2, hsk3, hsk4⟩ := hsk
  have HSZ := Lib.hid hsk4
  have hpl := Tn.place_le t.keys key
  have S1 := Lib.hid (fun h => Tn.set_same (t := t) (key := key) (x := x) h)
  have F1 := Lib.hid (fun h => Tn.fits_false (t := t) h)
  have HLn : Hid (L.length = t.kids.length) := Lib.hid (by rw [← hL]; simp)
  obtain ⟨n, hn⟩ : ∃ n, Hid (L.length = n) := ⟨_, rfl⟩
  obtain ⟨nk, hnk⟩ : ∃ n, Hid (t.keys.length = n) := ⟨_, rfl⟩
  rw [hnk.out] at hl1 c3 hsk1 hal HPL hpl F1 ⊢
  rw [← HLn.out] at hl2 F1
  rw [hn.out] at hl2 h1 c4 hal F1 ⊢
  unfold tcells at hal hal2
  unfold tval
  clear hT1 hT hX2 hX H HX HX1 hKw hTw hSk hsk4 hY hb1 hb2 hb3
  have HTv : Hid (Tv w3 b t (.slice Ak nk ck) (.slice A n c)) := Lib.hid (by rw [← hnk.out, ← hn.out]; exact HT.out.tv)
  have e0 : t.kind = 4 := (Tn.fits_eq hf).1
  have e1 : nk = n := by rw [← hnk.out, ← hn.out, HLn.out]; exact (Tn.fits_eq hf).2
  rw [e0] at hal c0 ⊢
  subst e1
  clear S1 F1
  have HS := Lib.hid (Tn.set_new (t := t) (key := key) (x := x) hf hw)
  rw [hnk.out] at hw
  obtain ⟨p, hp⟩ : ∃ p, Hid (Tn.place t.keys key = p) := ⟨_, rfl⟩
  rw [hp.out] at HPL hpl
  have epn : ¬ p < nk := by rw [← hp.out]; exact hw
  have epn2 : p = nk := by omega
  subst epn2
  have G1 := Lib.hid (fun i hi h h1 => Tn.gap_is (l := t.keys) (key := key) (i := i) hi h h1)
  have G2 := Lib.hid (fun h => Tn.gap_end (l := t.keys) (key := key) h)
  have hgl := Tn.gap_le t.keys key
  obtain ⟨q, hq⟩ : ∃ q, Hid (Tn.gap t.keys key = q) := ⟨_, rfl⟩
  rw [hq.out] at G1 G2 hgl
  rw [hnk.out] at hgl
  have HLs := Lib.hid (fun i (hi : i < t.keys.length) => rless_any key t.keys[i] hkey (HSZ.out _ (List.getElem_mem hi)))
  have HCt := Lib.hid (fun W (h : Below w3.heap.size w3 W) => (HT.out.keep h).cells)
  rw [hnk.out, hn.out] at HCt
  go_enter Tryz.func59, Tryz.ntmps59
  go_wp2_with (refine (HPL.out).mono ?_; rintro e w4 ⟨rfl, rfl⟩)
  have hbw : b ≤ w3.heap.size := by omega
  clear c0 c1 c2 c3 c4
  go_loopw [7] (fun v7 wr => ∃ (i : Nat), i ≤ p ∧ v7 = .int .i64 i ∧ Hid (∀ j, j < i → ∀ (h : j < t.keys.length), Tn.less key t.keys[j] = false) ∧ Hid (Below w3.heap.size w3 wr)) (fun v _ => p - (intOf v).toNat)
  case atStart => exact ⟨0, by omega, rfl, Lib.hid (fun j hj => by omega), Lib.hid (Below.refl _ _)⟩
  case round =>
    obtain ⟨i, hi, rfl, HI, HC⟩ := hrel
    obtain ⟨d0, d1, d2, d3, d4⟩ := HCt.out wr HC.out
    by_cases hlt : i < p
    · have hia : i < t.keys.length := by rw [hnk.out]; exact hlt
      obtain ⟨x1, o1, eAk, _, g1⟩ := Sc.below HSk.out (HC.out.mono hbw) i hia
      rw [eAk] at d3
      clear eAk
      have HLi := Lib.hid (HLs.out i hia wr)
      have HE : Hid (Tn.less key t.keys[i] = true → q = i) := Lib.hid (fun h => (G1.out i hia (fun j hj => HI.out j hj (by omega)) h).symm ▸ rfl)
      have HN : Hid (Tn.less key t.keys[i] = false → ∀ j, j < i + 1 → ∀ (h : j < t.keys.length), Tn.less key t.keys[j] = false) := Lib.hid (fun h j hj hj2 => by
        by_cases e : j = i
        · subst e; exact h
        · exact HI.out j (by omega) hj2)
      obtain ⟨u, hu⟩ : ∃ u, Hid (t.keys[i] = u) := ⟨t.keys[i], Lib.hid rfl⟩
      rw [hu.out] at g1 HLi HE HN
      obtain ⟨y, hy⟩ : ∃ y, Hid (Tn.less key u = y) := ⟨_, rfl⟩
      rw [hy.out] at HLi HE HN
      go_wp2_with fail
      refine (HLi.out).mono ?_
      rintro e w4 ⟨rfl, hb4⟩
      have HC4 := Lib.hid (HC.out.trans (hb4.mono HC.out.size))
      clear hb4
      cases y with
      | false =>
        have HN' := Lib.hid (HN.out rfl)
        clear HE HN HI
        go_wp2_with fail
        go_roundw
        case rel => exact ⟨i + 1, by omega, by go_num, HN', HC4⟩
        case measure => simp [intOf]; omega
      | true =>
        obtain rfl : i = q := (HE.out rfl).symm
        clear HE HN HI
        clear d0 d1 d2 d3 d4
        obtain ⟨d0, d1, d2, d3, d4⟩ := HCt.out w4 HC4.out
        go_upto_region 11 with fail
        obtain ⟨z, hz⟩ : ∃ z, w4.heap.size = z := ⟨_, rfl⟩
        have hzb : w3.heap.size ≤ z := by rw [← hz]; exact HC4.out.size
        obtain ⟨wa, hala⟩ : ∃ wa, w4.alloc (.cells #[] 9) = wa := ⟨_, rfl⟩
        have hBa : Below z w4 wa := by rw [← hala]; exact below_lit _ hz _
        have hOa : wa.ownsRow z 9 1 (.slice (some ⟨z, 0, none⟩) 0 0) 0 [] := by rw [← hala]; exact own_lit0 _ hz (Nat.le_refl _)
        have hsa : wa.heap.size = z + 1 := by rw [← hala]; simp [hz]
        have HBa : Hid (Below w3.heap.size w3 wa) := Lib.hid (HC4.out.trans (hBa.mono hzb))
        have k3 := (HCt.out wa HBa.out).2.2.2.1
        have HOa := Lib.hid hOa
        have HSa : Hid (Src wa Ak (txs (t.keys.take i))) := Lib.hid ((Sc.below HSk.out (HBa.out.mono hbw)).take i).src
        have hli : (t.keys.take i).length = i := by rw [List.length_take, hnk.out]; omega
        clear hBa hOa
        go_upto_region 12 with (at_builtin; refine wpList_append_cells Tryz.underlying22 strZ11 rfl (by decide) (by decide) _ _ rfl rfl z (.slice (some ⟨z, 0, none⟩) 0 0) 0 [] rfl HOa.out i ck (txs (t.keys.take i)) rfl (by rw [txs_length, hli, Nat.mul_one]) hsk3 (by omega) HSa.out (txs_one _) (by omega) (by omega) ?_; intro v1 w5 ho5 hg5 _; rw [Nat.zero_add, List.nil_append] at ho5)
        have hb5 : Below z wa w5 := (Below.refl _ _).grown hg5 (by omega) (fun k hk => by cases hk; exact Nat.le_refl _)
        have HB5 : Hid (Below w3.heap.size w3 w5) := Lib.hid (HBa.out.trans (hb5.mono hzb))
        obtain ⟨z5, hz5⟩ : ∃ z5, w5.heap.size = z5 := ⟨_, rfl⟩
        have hzz5 : z ≤ z5 := by have := hb5.size; omega
        obtain ⟨wb, halb⟩ : ∃ wb, w5.alloc (.cells #[.string key] 9) = wb := ⟨_, rfl⟩
        have hBb : Below z5 w5 wb := by rw [← halb]; exact below_lit _ hz5 _
        have hob : wb.ownsRow z 9 1 v1 i (txs (t.keys.take i)) := by rw [← halb]; exact ho5.alloc _
        have hsrcb : Src wb (some ⟨z5, 0, none⟩) [.string key] := by rw [← halb]; exact src_lit _ hz5 _
        have hsb : wb.heap.size = z5 + 1 := by rw [← halb]; simp [hz5]
        have HBb : Hid (Below w3.heap.size w3 wb) := Lib.hid (HB5.out.trans (hBb.mono (by omega)))
        have HOb := Lib.hid hob
        have HSb := Lib.hid hsrcb
        clear hBb hob hsrcb hb5 ho5 hg5 hala k3 HOa HSa
        go_upto_region 13 with (at_builtin; refine wpList_append_cells Tryz.underlying22 strZ11 rfl (by decide) (by decide) _ _ rfl rfl z v1 i _ rfl HOb.out 1 1 [.string key] rfl rfl (fun h => by cases h) (Nat.le_refl _) HSb.out (by simp [Value.oneCell']) (by omega) (by omega) ?_; intro v2 w6 ho6 hg6 _)
        have hb6 : Below z wb w6 := (Below.refl _ _).grown hg6 (by omega) (fun k hk => (HOb.out.lt k hk).1)
        have HB6 : Hid (Below w3.heap.size w3 w6) := Lib.hid (HBb.out.trans (hb6.mono hzb))
        obtain ⟨g2, c2, rfl, hg2, hg2'⟩ := ho6.form (by omega)
        have HO6 := Lib.hid ho6
        obtain ⟨z6, hz6⟩ : ∃ z6, w6.heap.size = z6 := ⟨_, rfl⟩
        have hzz6 : z5 ≤ z6 := by have := hb6.size; omega
        rw [hz6] at hg2'
        clear hb6 ho6 hg6 halb HOb HSb
        obtain ⟨wc, halc⟩ : ∃ wc, w6.alloc (.cells #[] 25) = wc := ⟨_, rfl⟩
        have hBc : Below z6 w6 wc := by rw [← halc]; exact below_lit _ hz6 _
        have hOc : wc.ownsRow z6 25 5 (.slice (some ⟨z6, 0, none⟩) 0 0) 0 [] := by rw [← halc]; exact own_lit0 _ hz6 (Nat.le_refl _)
        have hsc : wc.heap.size = z6 + 1 := by rw [← halc]; simp [hz6]
        have HBc : Hid (Below w3.heap.size w3 wc) := Lib.hid (HB6.out.trans (hBc.mono (by omega)))
        have HOK1 : Hid (wc.ownsRow z 9 1 (.slice (some ⟨g2, 0, none⟩) (i + 1) c2) (i + 1) (txs (t.keys.take i) ++ [.string key])) := Lib.hid (by rw [← halc]; exact HO6.out.alloc _)
        have k4 := (HCt.out wc HBc.out).2.2.2.2
        have HOc := Lib.hid hOc
        have HSc : Hid (Src wc A (five (L.take i))) := Lib.hid ((HKs.out.below (HBc.out.mono hbw)).take i).src
        have HFc : Hid (∀ u ∈ five (L.take i), u.oneCell' = true) := Lib.hid (five_one ((HKs.out.take i).tv))
        have hLi : (L.take i).length = i := by rw [List.length_take, hn.out]; omega
        clear hBc hOc
        go_upto_region 14 with (at_builtin; refine wpList_append_cells Tryz.underlying23 treeZ rfl (by decide) (by decide) _ _ rfl rfl z6 (.slice (some ⟨z6, 0, none⟩) 0 0) 0 [] rfl HOc.out i c (five (L.take i)) rfl (by rw [five_length, hLi]) h3 (by omega) HSc.out HFc.out (by omega) (by omega) ?_; intro v3 w7 ho7 hg7 _; rw [Nat.zero_add, List.nil_append] at ho7)
        have hb7 : Below z6 wc w7 := (Below.refl _ _).grown hg7 (by omega) (fun k hk => by cases hk; exact Nat.le_refl _)
        have HB7 : Hid (Below w3.heap.size w3 w7) := Lib.hid (HBc.out.trans (hb7.mono (by omega)))
        have HOK7 : Hid (w7.ownsRow z 9 1 (.slice (some ⟨g2, 0, none⟩) (i + 1) c2) (i + 1) (txs (t.keys.take i) ++ [.string key])) := Lib.hid (World.ownsRow.kept HOK1.out hg7 (.inr (by simp [Value.ownBlock]; omega)))
        obtain ⟨q0, q1, q2, q3, q4⟩ := (HXb.out.below HB7.out (by omega)).cells
        obtain ⟨z7, hz7⟩ : ∃ z7, w7.heap.size = z7 := ⟨_, rfl⟩
        have hzz7 : z6 ≤ z7 := by have := hb7.size; omega
        obtain ⟨wd, hald⟩ : ∃ wd, w7.alloc (.cells #[.int .i64 x.kind, .int .i64 x.n, .string x.s, .slice Axk x.keys.length cxk, .slice Axq x.kids.length cxq] 25) = wd := ⟨_, rfl⟩
        have hBd : Below z7 w7 wd := by rw [← hald]; exact below_lit _ hz7 _
        have hod : wd.ownsRow z6 25 5 v3 i (five (L.take i)) := by rw [← hald]; exact ho7.alloc _
        have hsrcd : Src wd (some ⟨z7, 0, none⟩) (five [(x, .slice Axk x.keys.length cxk, .slice Axq x.kids.length cxq)]) := by rw [← hald]; exact src_lit _ hz7 _
        have hsd : wd.heap.size = z7 + 1 := by rw [← hald]; simp [hz7]
        have HBd : Hid (Below w3.heap.size w3 wd) := Lib.hid (HB7.out.trans (hBd.mono (by omega)))
        have HOKd : Hid (wd.ownsRow z 9 1 (.slice (some ⟨g2, 0, none⟩) (i + 1) c2) (i + 1) (txs (t.keys.take i) ++ [.string key])) := Lib.hid (by rw [← hald]; exact HOK7.out.alloc _)
        have HOd := Lib.hid hod
        have HSd := Lib.hid hsrcd
        clear hBd hod hsrcd hb7 ho7 hg7 halc k4 HOc HSc HFc HOK1 HOK7
        go_upto_region 15 with (at_builtin; refine wpList_append_cells Tryz.underlying23 treeZ rfl (by decide) (by decide) _ _ rfl rfl z6 v3 i _ rfl HOd.out 1 1 (five [(x, .slice Axk x.keys.length cxk, .slice Axq x.kids.length cxq)]) rfl rfl (fun h => by cases h) (Nat.le_refl _) HSd.out (by simp [five, Value.oneCell']) (by omega) (by omega) ?_; intro v4 w8 ho8 hg8 _)
        have hb8 : Below z6 wd w8 := (Below.refl _ _).grown hg8 (by omega) (fun k hk => (HOd.out.lt k hk).1)
        have HB8 : Hid (Below w3.heap.size w3 w8) := Lib.hid (HBd.out.trans (hb8.mono (by omega)))
        have HOK8 : Hid (w8.ownsRow z 9 1 (.slice (some ⟨g2, 0, none⟩) (i + 1) c2) (i + 1) (txs (t.keys.take i) ++ [.string key])) := Lib.hid (World.ownsRow.kept HOKd.out hg8 (.inr (fun h => by
          have h1 := (HOd.out.lt g2 (by simpa [Value.ownBlock] using h.symm)).1
          omega)))
        obtain ⟨g4, c4', rfl, hg4, hg4'⟩ := ho8.form (by omega)
        have HO8 := Lib.hid ho8
        obtain ⟨z8, hz8⟩ : ∃ z8, w8.heap.size = z8 := ⟨_, rfl⟩
        have hzz8 : z7 ≤ z8 := by have := hb8.size; omega
        rw [hz8] at hg4'
        have k3 := (HCt.out w8 HB8.out).2.2.2.1
        have HSe : Hid (∀ A', A' = (if ck = i then Ak else Ak.map (fun x => x.add i)) → Src w8 A' (txs (t.keys.drop i))) := Lib.hid (fun A' e => by rw [e]; exact (Sc.cut (Sc.below HSk.out (HB8.out.mono hbw)) (by rw [hnk.out]; exact hsk1)).src)
        have hld : (t.keys.drop i).length = p - i := by rw [List.length_drop, hnk.out]
        have HNe : Hid (∀ A' : Option Addr, A' = (if ck = i then Ak else Ak.map (fun x => x.add i)) → A' = none → ck - i = 0) := Lib.hid (fun A' e h => by rw [e] at h; exact cut_null (A := Ak) (c := ck) (j := i) (k := i) hsk3 h)
        clear hb8 ho8 hg8 hald HOd HSd q0 q1 q2 q3 q4 HOKd
        go_upto_region 16 with (at_builtin; refine wpList_append_cells Tryz.underlying22 strZ11 rfl (by decide) (by decide) _ _ rfl rfl z (.slice (some ⟨g2, 0, none⟩) (i + 1) c2) (i + 1) _ rfl HOK8.out (p - i) (ck - i) (txs (t.keys.drop i)) rfl (by rw [txs_length, hld, Nat.mul_one]) (HNe.out _ (by first | rfl | rw [if_neg (by omega)])) (by omega) (HSe.out _ (by first | rfl | rw [if_neg (by omega)])) (txs_one _) (by omega) (by omega) ?_; intro v5 w9 ho9 hg9 hw9; obtain ⟨g5, c5, rfl, hg5a, hg5b⟩ := ho9.form (by omega); have hb9 : Below z w8 w9 := (Below.refl _ _).grown hg9 (by omega) (fun k hk => (HOK8.out.lt k hk).1); have j3 := (HCt.out w9 (HB8.out.trans (hb9.mono hzb))).2.2.2.1; have jf : w9.frozen? ⟨b, 3, none⟩ = false := (HT.out.below (HB8.out.trans (hb9.mono hzb)) (by omega)).bx.free 3)
        have HB9 : Hid (Below w3.heap.size w3 w9) := Lib.hid (HB8.out.trans (hb9.mono hzb))
        have hO4 : w9.ownsRow z6 25 5 (.slice (some ⟨g4, 0, none⟩) (i + 1) c4') (i + 1) (five (L.take i) ++ five [(x, .slice Axk x.keys.length cxk, .slice Axq x.kids.length cxq)]) := World.ownsRow.kept HO8.out hg9 (.inr (by simp [Value.ownBlock]; omega))
        have hblk : g5 ≠ g4 := by
          rcases hw9 with h | h
          · simp [Value.ownBlock] at h; omega
          · simp [Value.ownBlock, hz8] at h; omega
        have hs9 : z8 ≤ w9.heap.size := by have := hb9.size; omega
        obtain ⟨w10, hw10⟩ : ∃ w10, w9.setCell ⟨b, 3, none⟩ (.slice (some ⟨g5, 0, none⟩) (i + 1 + (p - i)) c5) = w10 := ⟨_, rfl⟩
        rw [hw10]
        have hs10 : w10.heap.size = w9.heap.size := by rw [← hw10]; simp [World.setCell]
        have hW10 := ((HT.out.below HB9.out (by omega)).bx).put 3 (.slice (some ⟨g5, 0, none⟩) (i + 1 + (p - i)) c5)
        rw [hw10] at hW10
        have HW10 := Lib.hid hW10
        have HBb10 : Hid (Below b w w10) := Lib.hid (by rw [← hw10]; exact (HB3.out.trans (HB9.out.mono hbw)).setCell (p := ⟨b, 3, none⟩) (Nat.le_refl _) _)
        have HO10 : Hid (w10.ownsRow z6 25 5 (.slice (some ⟨g4, 0, none⟩) (i + 1) c4') (i + 1) (five (L.take i) ++ five [(x, .slice Axk x.keys.length cxk, .slice Axq x.kids.length cxq)])) := Lib.hid (by rw [← hw10]; exact ownsRow_setCell_below hO4 (show b < z6 by omega) _)
        have HOK10 : Hid (w10.ownsRow z 9 1 (.slice (some ⟨g5, 0, none⟩) (i + 1 + (p - i)) c5) (i + 1 + (p - i)) (txs (t.keys.take i) ++ [.string key] ++ txs (t.keys.drop i))) := Lib.hid (by rw [← hw10]; exact ownsRow_setCell_below ho9 (show b < z by omega) _)
        have HY10 : Hid (Whole w10 g 25 #[.int .i64 0, .int .i64 0, .string ⟨#[]⟩, .slice none 0 0, .slice none 0 0]) := Lib.hid (by rw [← hw10]; exact (HY.out.below HB9.out (by omega)).other (by simp; omega) _)
        have m4 := hW10.at_ 4
        simp [hn.out] at m4
        have HSf : Hid (∀ A', A' = (if c = i then A else A.map (fun x => x.add (i * 5))) → Src w10 A' (five (L.drop i))) := Lib.hid (fun A' e => by rw [e]; exact (Ks.cut (HKw.out.below HBb10.out) (by rw [hn.out]; exact h1)).src)
        have HNf : Hid (∀ A' : Option Addr, A' = (if c = i then A else A.map (fun x => x.add (i * 5))) → A' = none → c - i = 0) := Lib.hid (fun A' e h => by rw [e] at h; exact cut_null (A := A) (c := c) (j := i) (k := i * 5) h3 h)
        have hLd : (L.drop i).length = p - i := by rw [List.length_drop, hn.out]
        have HFf : Hid (∀ u ∈ five (L.drop i), u.oneCell' = true) := Lib.hid (five_one (fun y hy => HKw.out.tv y (List.mem_of_mem_drop hy)))
        clear hw10 hW10 hO4 ho9 hg9 hw9 hb9 j3 jf k3 HSe HNe HO8 HOK8
        go_upto_region 17 with (at_builtin; refine wpList_append_cells Tryz.underlying23 treeZ rfl (by decide) (by decide) _ _ rfl rfl z6 (.slice (some ⟨g4, 0, none⟩) (i + 1) c4') (i + 1) _ rfl HO10.out (p - i) (c - i) (five (L.drop i)) rfl (by rw [five_length, hLd]) (HNf.out _ (by first | rfl | rw [if_neg (by omega)])) (by omega) (HSf.out _ (by first | rfl | rw [if_neg (by omega)])) HFf.out (by omega) (by omega) ?_; intro v7 w11 ho11 hg11 _; obtain ⟨g6, c6, rfl, hg6a, hg6b⟩ := ho11.form (by omega); have hb11 : Below z6 w10 w11 := (Below.refl _ _).grown hg11 (by omega) (fun k hk => (HO10.out.lt k hk).1); have j4 := (hb11.cell (p := ⟨b, 4, none⟩) (show b < z6 by omega)).trans m4; have jf : w11.frozen? ⟨b, 4, none⟩ = false := (HW10.out.below hb11 (by omega)).free 4)
        obtain ⟨w12, hw12⟩ : ∃ w12, w11.setCell ⟨b, 4, none⟩ (.slice (some ⟨g6, 0, none⟩) (i + 1 + (p - i)) c6) = w12 := ⟨_, rfl⟩
        rw [hw12]
        have hW12 := (HW10.out.below hb11 (by omega)).put 4 (.slice (some ⟨g6, 0, none⟩) (i + 1 + (p - i)) c6)
        rw [hw12] at hW12
        have HBb12 : Hid (Below b w w12) := Lib.hid (by rw [← hw12]; exact (HBb10.out.trans (hb11.mono (by omega))).setCell (p := ⟨b, 4, none⟩) (Nat.le_refl _) _)
        have HO12 : Hid (w12.ownsRow z6 25 5 (.slice (some ⟨g6, 0, none⟩) (i + 1 + (p - i)) c6) (i + 1 + (p - i)) (five (L.take i) ++ five [(x, .slice Axk x.keys.length cxk, .slice Axq x.kids.length cxq)] ++ five (L.drop i))) := Lib.hid (by rw [← hw12]; exact ownsRow_setCell_below ho11 (show b < z6 by omega) _)
        have HOK12 : Hid (w12.ownsRow z 9 1 (.slice (some ⟨g5, 0, none⟩) (i + 1 + (p - i)) c5) (i + 1 + (p - i)) (txs (t.keys.take i) ++ [.string key] ++ txs (t.keys.drop i))) := Lib.hid (by rw [← hw12]; exact ownsRow_setCell_below (World.ownsRow.kept HOK10.out hg11 (.inr (by simp [Value.ownBlock]; exact hblk))) (show b < z by omega) _)
        have HY12 := Lib.hid (by rw [← hw12]; exact (HY10.out.below hb11 (by omega)).other (by simp; omega) _ : Whole w12 g 25 #[.int .i64 0, .int .i64 0, .string ⟨#[]⟩, .slice none 0 0, .slice none 0 0])
        have n0 := hW12.at_ 0
        have n1 := hW12.at_ 1
        have n2 := hW12.at_ 2
        have n3 := hW12.at_ 3
        have n4 := hW12.at_ 4
        simp at n0 n1 n2 n3 n4
        rw [e0] at n0
        clear hw12 hW12 ho11 hg11 hb11 j4 jf m4 HO10 HOK10 HY10 HW10 HSf HNf HFf
        go_wp2_with (refine wpList_store_whole rfl rfl rfl rfl rfl HY12.out (treeI rfl) rfl (by simp [Value.oneCell']) ?_)
        obtain ⟨w13, hw13⟩ : ∃ w13, w12.setRow g #[.int .i64 4, .int .i64 t.n, .string t.s, .slice (some ⟨g5, 0, none⟩) (i + 1 + (p - i)) c5, .slice (some ⟨g6, 0, none⟩) (i + 1 + (p - i)) c6] = w13 := ⟨_, rfl⟩
        have hO13 := own_other HO12.out (show g < z6 by omega) #[.int .i64 4, .int .i64 t.n, .string t.s, .slice (some ⟨g5, 0, none⟩) (i + 1 + (p - i)) c5, .slice (some ⟨g6, 0, none⟩) (i + 1 + (p - i)) c6]
        have hOK13 := own_other HOK12.out (show g < z by omega) #[.int .i64 4, .int .i64 t.n, .string t.s, .slice (some ⟨g5, 0, none⟩) (i + 1 + (p - i)) c5, .slice (some ⟨g6, 0, none⟩) (i + 1 + (p - i)) c6]
        have hB13 := below_row HBb12.out (show b ≤ g by omega) #[.int .i64 4, .int .i64 t.n, .string t.s, .slice (some ⟨g5, 0, none⟩) (i + 1 + (p - i)) c5, .slice (some ⟨g6, 0, none⟩) (i + 1 + (p - i)) c6]
        rw [hw13] at hO13 hOK13 hB13
        have HS' := HS.out
        rw [hq.out] at HS'
        refine bodyPost_ret (v := tval (t.set key x) (.slice (some ⟨g5, 0, none⟩) (i + 1 + (p - i)) c5) (.slice (some ⟨g6, 0, none⟩) (i + 1 + (p - i)) c6)) ?_ rfl ⟨.slice (some ⟨g5, 0, none⟩) (i + 1 + (p - i)) c5, .slice (some ⟨g6, 0, none⟩) (i + 1 + (p - i)) c6, rfl, ?_, ?_⟩
        · have hv : tval (Tn.mk t.kind t.n t.s (Tn.put t.keys i key) (Tn.put t.kids i x)) (.slice (some ⟨g5, 0, none⟩) (i + 1 + (p - i)) c5) (.slice (some ⟨g6, 0, none⟩) (i + 1 + (p - i)) c6) = .agg #[.int .i64 4, .int .i64 t.n, .string t.s, .slice (some ⟨g5, 0, none⟩) (i + 1 + (p - i)) c5, .slice (some ⟨g6, 0, none⟩) (i + 1 + (p - i)) c6] := by rw [← e0]; rfl
          rw [HS', hv]
          exact results_tree rfl rfl (HY12.out.row _) rfl
        · rw [hw13, HS']
          have hTv := HTw.out.keep hB13
          have eK : txs (Tn.put t.keys i key) = txs (t.keys.take i) ++ [.string key] ++ txs (t.keys.drop i) := by simp [Tn.put, txs]
          have eKl : (Tn.put t.keys i key).length = i + 1 + (p - i) := by rw [Tn.put_length _ _ _ (by rw [hnk.out]; exact hgl), hnk.out]; omega
          have eL : five (Tn.put L i (x, .slice Axk x.keys.length cxk, .slice Axq x.kids.length cxq)) = five (L.take i) ++ five [(x, .slice Axk x.keys.length cxk, .slice Axq x.kids.length cxq)] ++ five (L.drop i) := by simp [Tn.put, five]
          have eLl : (Tn.put L i (x, .slice Axk x.keys.length cxk, .slice Axq x.kids.length cxq)).length = i + 1 + (p - i) := by rw [Tn.put_length _ _ _ (by rw [hn.out]; exact hgl), hn.out]; omega
          have hold : ∀ (q : Nat), P q → q < w.heap.size → (P q ∨ w.heap.size ≤ q) ∧ w13.heap[q]? = w.heap[q]? := fun q h1 h2 => ⟨.inl h1, hB13.block q (by rw [← hs]; exact h2)⟩
          refine Tp.of_own (base := w.heap.size) (L := Tn.put L i (x, .slice Axk x.keys.length cxk, .slice Axq x.kids.length cxq)) hTv.kind hTv.num hTv.str (own_low (base := z) (by show w13.ownsRow z _ 1 _ (Tn.put t.keys i key).length (txs (Tn.put t.keys i key)); rw [eKl, eK]; exact hOK13) (by omega)) (fun s hs => ?_) (own_low (base := z6) (by rw [eLl, eL]; exact hO13) (by omega)) (by rw [← hL]; simp [Tn.put, Tn.kids]) (fun q hq => .inr hq) (fun y hy => ?_)
          · rcases Tn.mem_put hs with rfl | h
            · exact hkey
            · exact HSZ.out _ h
          · rcases Tn.mem_put hy with rfl | h
            · exact HXp.out.keep hold
            · exact (HLP.out y h).keep hold
        · rw [hw13, hs]; exact hB13
    · have hqp : q = p := by rw [← hnk.out]; exact G2.out (fun k hk => by
        obtain ⟨j, hj, rfl⟩ := List.mem_iff_getElem.1 hk
        exact HI.out j (by have := hnk.out; omega) hj)
      obtain rfl : i = q := by omega
      have HQP := Lib.hid hqp
      clear hqp
      have hifk : ∀ X Y : Option Addr, (if ck = i then X else Y) = pickIf ck i X Y := fun _ _ => rfl
      have hifc : ∀ X Y : Option Addr, (if c = i then X else Y) = pickIf c i X Y := fun _ _ => rfl
      go_upto_region 11 with fail
      obtain ⟨z, hz⟩ : ∃ z, wr.heap.size = z := ⟨_, rfl⟩
      have hzb : w3.heap.size ≤ z := by rw [← hz]; exact HC.out.size
      obtain ⟨wa, hala⟩ : ∃ wa, wr.alloc (.cells #[] 9) = wa := ⟨_, rfl⟩
      have hBa : Below z wr wa := by rw [← hala]; exact below_lit _ hz _
      have hOa : wa.ownsRow z 9 1 (.slice (some ⟨z, 0, none⟩) 0 0) 0 [] := by rw [← hala]; exact own_lit0 _ hz (Nat.le_refl _)
      have hsa : wa.heap.size = z + 1 := by rw [← hala]; simp [hz]
      have HBa : Hid (Below w3.heap.size w3 wa) := Lib.hid (HC.out.trans (hBa.mono hzb))
      have k3 := (HCt.out wa HBa.out).2.2.2.1
      have HOa := Lib.hid hOa
      have HSa : Hid (Src wa Ak (txs (t.keys.take i))) := Lib.hid ((Sc.below HSk.out (HBa.out.mono hbw)).take i).src
      have hli : (t.keys.take i).length = i := by rw [List.length_take, hnk.out]; omega
      clear hBa hOa
      go_upto_region 12 with (at_builtin; refine wpList_append_cells Tryz.underlying22 strZ11 rfl (by decide) (by decide) _ _ rfl rfl z (.slice (some ⟨z, 0, none⟩) 0 0) 0 [] rfl HOa.out i ck (txs (t.keys.take i)) rfl (by rw [txs_length, hli, Nat.mul_one]) hsk3 (by omega) HSa.out (txs_one _) (by omega) (by omega) ?_; intro v1 w5 ho5 hg5 _; rw [Nat.zero_add, List.nil_append] at ho5)
      have hb5 : Below z wa w5 := (Below.refl _ _).grown hg5 (by omega) (fun k hk => by cases hk; exact Nat.le_refl _)
      have HB5 : Hid (Below w3.heap.size w3 w5) := Lib.hid (HBa.out.trans (hb5.mono hzb))
      obtain ⟨z5, hz5⟩ : ∃ z5, w5.heap.size = z5 := ⟨_, rfl⟩
      have hzz5 : z ≤ z5 := by have := hb5.size; omega
      obtain ⟨wb, halb⟩ : ∃ wb, w5.alloc (.cells #[.string key] 9) = wb := ⟨_, rfl⟩
      have hBb : Below z5 w5 wb := by rw [← halb]; exact below_lit _ hz5 _
      have hob : wb.ownsRow z 9 1 v1 i (txs (t.keys.take i)) := by rw [← halb]; exact ho5.alloc _
      have hsrcb : Src wb (some ⟨z5, 0, none⟩) [.string key] := by rw [← halb]; exact src_lit _ hz5 _
      have hsb : wb.heap.size = z5 + 1 := by rw [← halb]; simp [hz5]
      have HBb : Hid (Below w3.heap.size w3 wb) := Lib.hid (HB5.out.trans (hBb.mono (by omega)))
      have HOb := Lib.hid hob
      have HSb := Lib.hid hsrcb
      clear hBb hob hsrcb hb5 ho5 hg5 hala k3 HOa HSa
      go_upto_region 13 with (at_builtin; refine wpList_append_cells Tryz.underlying22 strZ11 rfl (by decide) (by decide) _ _ rfl rfl z v1 i _ rfl HOb.out 1 1 [.string key] rfl rfl (fun h => by cases h) (Nat.le_refl _) HSb.out (by simp [Value.oneCell']) (by omega) (by omega) ?_; intro v2 w6 ho6 hg6 _)
      have hb6 : Below z wb w6 := (Below.refl _ _).grown hg6 (by omega) (fun k hk => (HOb.out.lt k hk).1)
      have HB6 : Hid (Below w3.heap.size w3 w6) := Lib.hid (HBb.out.trans (hb6.mono hzb))
      obtain ⟨g2, c2, rfl, hg2, hg2'⟩ := ho6.form (by omega)
      have HO6 := Lib.hid ho6
      obtain ⟨z6, hz6⟩ : ∃ z6, w6.heap.size = z6 := ⟨_, rfl⟩
      have hzz6 : z5 ≤ z6 := by have := hb6.size; omega
      rw [hz6] at hg2'
      clear hb6 ho6 hg6 halb HOb HSb
      obtain ⟨wc, halc⟩ : ∃ wc, w6.alloc (.cells #[] 25) = wc := ⟨_, rfl⟩
      have hBc : Below z6 w6 wc := by rw [← halc]; exact below_lit _ hz6 _
      have hOc : wc.ownsRow z6 25 5 (.slice (some ⟨z6, 0, none⟩) 0 0) 0 [] := by rw [← halc]; exact own_lit0 _ hz6 (Nat.le_refl _)
      have hsc : wc.heap.size = z6 + 1 := by rw [← halc]; simp [hz6]
      have HBc : Hid (Below w3.heap.size w3 wc) := Lib.hid (HB6.out.trans (hBc.mono (by omega)))
      have HOK1 : Hid (wc.ownsRow z 9 1 (.slice (some ⟨g2, 0, none⟩) (i + 1) c2) (i + 1) (txs (t.keys.take i) ++ [.string key])) := Lib.hid (by rw [← halc]; exact HO6.out.alloc _)
      have k4 := (HCt.out wc HBc.out).2.2.2.2
      have HOc := Lib.hid hOc
      have HSc : Hid (Src wc A (five (L.take i))) := Lib.hid ((HKs.out.below (HBc.out.mono hbw)).take i).src
      have HFc : Hid (∀ u ∈ five (L.take i), u.oneCell' = true) := Lib.hid (five_one ((HKs.out.take i).tv))
      have hLi : (L.take i).length = i := by rw [List.length_take, hn.out]; omega
      clear hBc hOc
      go_upto_region 14 with (at_builtin; refine wpList_append_cells Tryz.underlying23 treeZ rfl (by decide) (by decide) _ _ rfl rfl z6 (.slice (some ⟨z6, 0, none⟩) 0 0) 0 [] rfl HOc.out i c (five (L.take i)) rfl (by rw [five_length, hLi]) h3 (by omega) HSc.out HFc.out (by omega) (by omega) ?_; intro v3 w7 ho7 hg7 _; rw [Nat.zero_add, List.nil_append] at ho7)
      have hb7 : Below z6 wc w7 := (Below.refl _ _).grown hg7 (by omega) (fun k hk => by cases hk; exact Nat.le_refl _)
      have HB7 : Hid (Below w3.heap.size w3 w7) := Lib.hid (HBc.out.trans (hb7.mono (by omega)))
      have HOK7 : Hid (w7.ownsRow z 9 1 (.slice (some ⟨g2, 0, none⟩) (i + 1) c2) (i + 1) (txs (t.keys.take i) ++ [.string key])) := Lib.hid (World.ownsRow.kept HOK1.out hg7 (.inr (by simp [Value.ownBlock]; omega)))
      obtain ⟨q0, q1, q2, q3, q4⟩ := (HXb.out.below HB7.out (by omega)).cells
      obtain ⟨z7, hz7⟩ : ∃ z7, w7.heap.size = z7 := ⟨_, rfl⟩
      have hzz7 : z6 ≤ z7 := by have := hb7.size; omega
      obtain ⟨wd, hald⟩ : ∃ wd, w7.alloc (.cells #[.int .i64 x.kind, .int .i64 x.n, .string x.s, .slice Axk x.keys.length cxk, .slice Axq x.kids.length cxq] 25) = wd := ⟨_, rfl⟩
      have hBd : Below z7 w7 wd := by rw [← hald]; exact below_lit _ hz7 _
      have hod : wd.ownsRow z6 25 5 v3 i (five (L.take i)) := by rw [← hald]; exact ho7.alloc _
      have hsrcd : Src wd (some ⟨z7, 0, none⟩) (five [(x, .slice Axk x.keys.length cxk, .slice Axq x.kids.length cxq)]) := by rw [← hald]; exact src_lit _ hz7 _
      have hsd : wd.heap.size = z7 + 1 := by rw [← hald]; simp [hz7]
      have HBd : Hid (Below w3.heap.size w3 wd) := Lib.hid (HB7.out.trans (hBd.mono (by omega)))
      have HOKd : Hid (wd.ownsRow z 9 1 (.slice (some ⟨g2, 0, none⟩) (i + 1) c2) (i + 1) (txs (t.keys.take i) ++ [.string key])) := Lib.hid (by rw [← hald]; exact HOK7.out.alloc _)
      have HOd := Lib.hid hod
      have HSd := Lib.hid hsrcd
      clear hBd hod hsrcd hb7 ho7 hg7 halc k4 HOc HSc HFc HOK1 HOK7
      go_upto_region 15 with (at_builtin; refine wpList_append_cells Tryz.underlying23 treeZ rfl (by decide) (by decide) _ _ rfl rfl z6 v3 i _ rfl HOd.out 1 1 (five [(x, .slice Axk x.keys.length cxk, .slice Axq x.kids.length cxq)]) rfl rfl (fun h => by cases h) (Nat.le_refl _) HSd.out (by simp [five, Value.oneCell']) (by omega) (by omega) ?_; intro v4 w8 ho8 hg8 _)
      have hb8 : Below z6 wd w8 := (Below.refl _ _).grown hg8 (by omega) (fun k hk => (HOd.out.lt k hk).1)
      have HB8 : Hid (Below w3.heap.size w3 w8) := Lib.hid (HBd.out.trans (hb8.mono (by omega)))
      have HOK8 : Hid (w8.ownsRow z 9 1 (.slice (some ⟨g2, 0, none⟩) (i + 1) c2) (i + 1) (txs (t.keys.take i) ++ [.string key])) := Lib.hid (World.ownsRow.kept HOKd.out hg8 (.inr (fun h => by
        have h1 := (HOd.out.lt g2 (by simpa [Value.ownBlock] using h.symm)).1
        omega)))
      obtain ⟨g4, c4', rfl, hg4, hg4'⟩ := ho8.form (by omega)
      have HO8 := Lib.hid ho8
      obtain ⟨z8, hz8⟩ : ∃ z8, w8.heap.size = z8 := ⟨_, rfl⟩
      have hzz8 : z7 ≤ z8 := by have := hb8.size; omega
      rw [hz8] at hg4'
      have k3 := (HCt.out w8 HB8.out).2.2.2.1
      have HSe : Hid (∀ A', A' = (if ck = i then Ak else Ak.map (fun x => x.add i)) → Src w8 A' (txs (t.keys.drop i))) := Lib.hid (fun A' e => by rw [e]; exact (Sc.cut (Sc.below HSk.out (HB8.out.mono hbw)) (by rw [hnk.out]; exact hsk1)).src)
      have hld : (t.keys.drop i).length = p - i := by rw [List.length_drop, hnk.out]
      have HNe : Hid (∀ A' : Option Addr, A' = (if ck = i then Ak else Ak.map (fun x => x.add i)) → A' = none → ck - i = 0) := Lib.hid (fun A' e h => by rw [e] at h; exact cut_null (A := Ak) (c := ck) (j := i) (k := i) hsk3 h)
      clear hb8 ho8 hg8 hald HOd HSd q0 q1 q2 q3 q4 HOKd
      go_upto_region 16 with (at_builtin; refine wpList_append_cells Tryz.underlying22 strZ11 rfl (by decide) (by decide) _ _ rfl rfl z (.slice (some ⟨g2, 0, none⟩) (i + 1) c2) (i + 1) _ rfl HOK8.out (p - i) (ck - i) (txs (t.keys.drop i)) rfl (by rw [txs_length, hld, Nat.mul_one]) (HNe.out _ (by first | rfl | rw [if_neg (by omega)])) (by omega) (HSe.out _ (by first | rfl | rw [if_neg (by omega)])) (txs_one _) (by omega) (by omega) ?_; intro v5 w9 ho9 hg9 hw9; obtain ⟨g5, c5, rfl, hg5a, hg5b⟩ := ho9.form (by omega); have hb9 : Below z w8 w9 := (Below.refl _ _).grown hg9 (by omega) (fun k hk => (HOK8.out.lt k hk).1); have j3 := (HCt.out w9 (HB8.out.trans (hb9.mono hzb))).2.2.2.1; have jf : w9.frozen? ⟨b, 3, none⟩ = false := (HT.out.below (HB8.out.trans (hb9.mono hzb)) (by omega)).bx.free 3)
      have HB9 : Hid (Below w3.heap.size w3 w9) := Lib.hid (HB8.out.trans (hb9.mono hzb))
      have hO4 : w9.ownsRow z6 25 5 (.slice (some ⟨g4, 0, none⟩) (i + 1) c4') (i + 1) (five (L.take i) ++ five [(x, .slice Axk x.keys.length cxk, .slice Axq x.kids.length cxq)]) := World.ownsRow.kept HO8.out hg9 (.inr (by simp [Value.ownBlock]; omega))
      have hblk : g5 ≠ g4 := by
        rcases hw9 with h | h
        · simp [Value.ownBlock] at h; omega
        · simp [Value.ownBlock, hz8] at h; omega
      have hs9 : z8 ≤ w9.heap.size := by have := hb9.size; omega
      obtain ⟨w10, hw10⟩ : ∃ w10, w9.setCell ⟨b, 3, none⟩ (.slice (some ⟨g5, 0, none⟩) (i + 1 + (p - i)) c5) = w10 := ⟨_, rfl⟩
      rw [hw10]
      have hs10 : w10.heap.size = w9.heap.size := by rw [← hw10]; simp [World.setCell]
      have hW10 := ((HT.out.below HB9.out (by omega)).bx).put 3 (.slice (some ⟨g5, 0, none⟩) (i + 1 + (p - i)) c5)
      rw [hw10] at hW10
      have HW10 := Lib.hid hW10
      have HBb10 : Hid (Below b w w10) := Lib.hid (by rw [← hw10]; exact (HB3.out.trans (HB9.out.mono hbw)).setCell (p := ⟨b, 3, none⟩) (Nat.le_refl _) _)
      have HO10 : Hid (w10.ownsRow z6 25 5 (.slice (some ⟨g4, 0, none⟩) (i + 1) c4') (i + 1) (five (L.take i) ++ five [(x, .slice Axk x.keys.length cxk, .slice Axq x.kids.length cxq)])) := Lib.hid (by rw [← hw10]; exact ownsRow_setCell_below hO4 (show b < z6 by omega) _)
      have HOK10 : Hid (w10.ownsRow z 9 1 (.slice (some ⟨g5, 0, none⟩) (i + 1 + (p - i)) c5) (i + 1 + (p - i)) (txs (t.keys.take i) ++ [.string key] ++ txs (t.keys.drop i))) := Lib.hid (by rw [← hw10]; exact ownsRow_setCell_below ho9 (show b < z by omega) _)
      have HY10 : Hid (Whole w10 g 25 #[.int .i64 0, .int .i64 0, .string ⟨#[]⟩, .slice none 0 0, .slice none 0 0]) := Lib.hid (by rw [← hw10]; exact (HY.out.below HB9.out (by omega)).other (by simp; omega) _)
      have m4 := hW10.at_ 4
      simp [hn.out] at m4
      have HSf : Hid (∀ A', A' = (if c = i then A else A.map (fun x => x.add (i * 5))) → Src w10 A' (five (L.drop i))) := Lib.hid (fun A' e => by rw [e]; exact (Ks.cut (HKw.out.below HBb10.out) (by rw [hn.out]; exact h1)).src)
      have HNf : Hid (∀ A' : Option Addr, A' = (if c = i then A else A.map (fun x => x.add (i * 5))) → A' = none → c - i = 0) := Lib.hid (fun A' e h => by rw [e] at h; exact cut_null (A := A) (c := c) (j := i) (k := i * 5) h3 h)
      have hLd : (L.drop i).length = p - i := by rw [List.length_drop, hn.out]
      have HFf : Hid (∀ u ∈ five (L.drop i), u.oneCell' = true) := Lib.hid (five_one (fun y hy => HKw.out.tv y (List.mem_of_mem_drop hy)))
      clear hw10 hW10 hO4 ho9 hg9 hw9 hb9 j3 jf k3 HSe HNe HO8 HOK8
      go_upto_region 17 with (at_builtin; refine wpList_append_cells Tryz.underlying23 treeZ rfl (by decide) (by decide) _ _ rfl rfl z6 (.slice (some ⟨g4, 0, none⟩) (i + 1) c4') (i + 1) _ rfl HO10.out (p - i) (c - i) (five (L.drop i)) rfl (by rw [five_length, hLd]) (HNf.out _ (by first | rfl | rw [if_neg (by omega)])) (by omega) (HSf.out _ (by first | rfl | rw [if_neg (by omega)])) HFf.out (by omega) (by omega) ?_; intro v7 w11 ho11 hg11 _; obtain ⟨g6, c6, rfl, hg6a, hg6b⟩ := ho11.form (by omega); have hb11 : Below z6 w10 w11 := (Below.refl _ _).grown hg11 (by omega) (fun k hk => (HO10.out.lt k hk).1); have j4 := (hb11.cell (p := ⟨b, 4, none⟩) (show b < z6 by omega)).trans m4; have jf : w11.frozen? ⟨b, 4, none⟩ = false := (HW10.out.below hb11 (by omega)).free 4)
      obtain ⟨w12, hw12⟩ : ∃ w12, w11.setCell ⟨b, 4, none⟩ (.slice (some ⟨g6, 0, none⟩) (i + 1 + (p - i)) c6) = w12 := ⟨_, rfl⟩
      rw [hw12]
      have hW12 := (HW10.out.below hb11 (by omega)).put 4 (.slice (some ⟨g6, 0, none⟩) (i + 1 + (p - i)) c6)
      rw [hw12] at hW12
      have HBb12 : Hid (Below b w w12) := Lib.hid (by rw [← hw12]; exact (HBb10.out.trans (hb11.mono (by omega))).setCell (p := ⟨b, 4, none⟩) (Nat.le_refl _) _)
      have HO12 : Hid (w12.ownsRow z6 25 5 (.slice (some ⟨g6, 0, none⟩) (i + 1 + (p - i)) c6) (i + 1 + (p - i)) (five (L.take i) ++ five [(x, .slice Axk x.keys.length cxk, .slice Axq x.kids.length cxq)] ++ five (L.drop i))) := Lib.hid (by rw [← hw12]; exact ownsRow_setCell_below ho11 (show b < z6 by omega) _)
      have HOK12 : Hid (w12.ownsRow z 9 1 (.slice (some ⟨g5, 0, none⟩) (i + 1 + (p - i)) c5) (i + 1 + (p - i)) (txs (t.keys.take i) ++ [.string key] ++ txs (t.keys.drop i))) := Lib.hid (by rw [← hw12]; exact ownsRow_setCell_below (World.ownsRow.kept HOK10.out hg11 (.inr (by simp [Value.ownBlock]; exact hblk))) (show b < z by omega) _)
      have HY12 := Lib.hid (by rw [← hw12]; exact (HY10.out.below hb11 (by omega)).other (by simp; omega) _ : Whole w12 g 25 #[.int .i64 0, .int .i64 0, .string ⟨#[]⟩, .slice none 0 0, .slice none 0 0])
      have n0 := hW12.at_ 0
      have n1 := hW12.at_ 1
      have n2 := hW12.at_ 2
      have n3 := hW12.at_ 3
      have n4 := hW12.at_ 4
      simp at n0 n1 n2 n3 n4
      rw [e0] at n0
      clear hw12 hW12 ho11 hg11 hb11 j4 jf m4 HO10 HOK10 HY10 HW10 HSf HNf HFf
      go_wp2_with (refine wpList_store_whole rfl rfl rfl rfl rfl HY12.out (treeI rfl) rfl (by simp [Value.oneCell']) ?_)
      obtain ⟨w13, hw13⟩ : ∃ w13, w12.setRow g #[.int .i64 4, .int .i64 t.n, .string t.s, .slice (some ⟨g5, 0, none⟩) (i + 1 + (p - i)) c5, .slice (some ⟨g6, 0, none⟩) (i + 1 + (p - i)) c6] = w13 := ⟨_, rfl⟩
      have hO13 := own_other HO12.out (show g < z6 by omega) #[.int .i64 4, .int .i64 t.n, .string t.s, .slice (some ⟨g5, 0, none⟩) (i + 1 + (p - i)) c5, .slice (some ⟨g6, 0, none⟩) (i + 1 + (p - i)) c6]
      have hOK13 := own_other HOK12.out (show g < z by omega) #[.int .i64 4, .int .i64 t.n, .string t.s, .slice (some ⟨g5, 0, none⟩) (i + 1 + (p - i)) c5, .slice (some ⟨g6, 0, none⟩) (i + 1 + (p - i)) c6]
      have hB13 := below_row HBb12.out (show b ≤ g by omega) #[.int .i64 4, .int .i64 t.n, .string t.s, .slice (some ⟨g5, 0, none⟩) (i + 1 + (p - i)) c5, .slice (some ⟨g6, 0, none⟩) (i + 1 + (p - i)) c6]
      rw [hw13] at hO13 hOK13 hB13
      have HS' := HS.out
      rw [hq.out] at HS'
      refine bodyPost_ret (v := tval (t.set key x) (.slice (some ⟨g5, 0, none⟩) (i + 1 + (p - i)) c5) (.slice (some ⟨g6, 0, none⟩) (i + 1 + (p - i)) c6)) ?_ rfl ⟨.slice (some ⟨g5, 0, none⟩) (i + 1 + (p - i)) c5, .slice (some ⟨g6, 0, none⟩) (i + 1 + (p - i)) c6, rfl, ?_, ?_⟩
      · have hv : tval (Tn.mk t.kind t.n t.s (Tn.put t.keys i key) (Tn.put t.kids i x)) (.slice (some ⟨g5, 0, none⟩) (i + 1 + (p - i)) c5) (.slice (some ⟨g6, 0, none⟩) (i + 1 + (p - i)) c6) = .agg #[.int .i64 4, .int .i64 t.n, .string t.s, .slice (some ⟨g5, 0, none⟩) (i + 1 + (p - i)) c5, .slice (some ⟨g6, 0, none⟩) (i + 1 + (p - i)) c6] := by rw [← e0]; rfl
        rw [HS', hv]
        exact results_tree rfl rfl (HY12.out.row _) rfl
      · rw [hw13, HS']
        have hTv := HTw.out.keep hB13
        have eK : txs (Tn.put t.keys i key) = txs (t.keys.take i) ++ [.string key] ++ txs (t.keys.drop i) := by simp [Tn.put, txs]
        have eKl : (Tn.put t.keys i key).length = i + 1 + (p - i) := by rw [Tn.put_length _ _ _ (by rw [hnk.out]; exact hgl), hnk.out]; omega
        have eL : five (Tn.put L i (x, .slice Axk x.keys.length cxk, .slice Axq x.kids.length cxq)) = five (L.take i) ++ five [(x, .slice Axk x.keys.length cxk, .slice Axq x.kids.length cxq)] ++ five (L.drop i) := by simp [Tn.put, five]
        have eLl : (Tn.put L i (x, .slice Axk x.keys.length cxk, .slice Axq x.kids.length cxq)).length = i + 1 + (p - i) := by rw [Tn.put_length _ _ _ (by rw [hn.out]; exact hgl), hn.out]; omega
        have hold : ∀ (q : Nat), P q → q < w.heap.size → (P q ∨ w.heap.size ≤ q) ∧ w13.heap[q]? = w.heap[q]? := fun q h1 h2 => ⟨.inl h1, hB13.block q (by rw [← hs]; exact h2)⟩
        refine Tp.of_own (base := w.heap.size) (L := Tn.put L i (x, .slice Axk x.keys.length cxk, .slice Axq x.kids.length cxq)) hTv.kind hTv.num hTv.str (own_low (base := z) (by show w13.ownsRow z _ 1 _ (Tn.put t.keys i key).length (txs (Tn.put t.keys i key)); rw [eKl, eK]; exact hOK13) (by omega)) (fun s hs => ?_) (own_low (base := z6) (by rw [eLl, eL]; exact hO13) (by omega)) (by rw [← hL]; simp [Tn.put, Tn.kids]) (fun q hq => .inr hq) (fun y hy => ?_)
        · rcases Tn.mem_put hs with rfl | h
          · exact hkey
          · exact HSZ.out _ h
        · rcases Tn.mem_put hy with rfl | h
          · exact HXp.out.keep hold
          · exact (HLP.out y h).keep hold
      · rw [hw13, hs]; exact hB13

theorem rset11_new {t x : Tn} {w : World} {B C : Nat} {vk vq xk xq : Value} (H : Tv w B t vk vq) (hl1 : t.keys.length ≤ 100000) (hl2 : t.kids.length ≤ 100000) (key : ByteArray) (hkey : key.size ≤ maxLen) (HX : Tv w C x xk xq) (hf : t.fits = true) (hw : ¬ Tn.place t.keys key < t.keys.length) :
    Calls Tryz.prog 59 #[tval t vk vq, .string key, tval x xk xq] w (TreePost (t.set key x) w) :=
  (rset11_at H.all.tp hl1 hl2 key hkey HX.all.tp hf hw).mono fun e w' ⟨vk, vq, h1, h2, h3⟩ => ⟨vk, vq, h1, h2.tv, h3⟩
theorem rset11_any {t x : Tn} {w : World} {B C : Nat} {vk vq xk xq : Value} (H : Tv w B t vk vq) (hl1 : t.keys.length ≤ 100000) (hl2 : t.kids.length ≤ 100000) (key : ByteArray) (hkey : key.size ≤ maxLen) (HX : Tv w C x xk xq) :
    Calls Tryz.prog 59 #[tval t vk vq, .string key, tval x xk xq] w (TreePost (t.set key x) w) := by
  by_cases h : t.fits = true ∧ ¬ Tn.place t.keys key < t.keys.length
  · exact rset11_new H hl1 hl2 key hkey HX h.1 h.2
  · exact rset11_old H hl1 hl2 key hkey HX (fun hf => Classical.byContradiction fun hn => h ⟨hf, hn⟩)
end Go.Proofs.YtldjdoebappkoaaGreatDoor
