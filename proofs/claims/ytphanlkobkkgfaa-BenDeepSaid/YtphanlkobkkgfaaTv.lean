/- Trees as memory: values that are read, and an argument that is a tree. -/
import Derived.Test.YtphanlkobkkgfaaTnm
import Derived.Test.YtphanlkobkkgfaaPA
import Derived.Deep.Slices
namespace Go.Proofs.Ytphanlkobkkgfaa
open Go.RowKit Go.ChangeShapes Go.WideShapes
set_option linter.unusedVariables false
set_option maxRecDepth 100000

/-- the slice with address A holds the strings l, in a block below B -/
def Sc (w : World) (B : Nat) (A : Option Addr) (l : List ByteArray) : Prop := ∀ i (h : i < l.length), ∃ b off, A = some ⟨b, off, none⟩ ∧ b < B ∧ w.cell? ⟨b, off + i, none⟩ = some (.string l[i])
/-- the value is a slice of the strings l -/
def Sk (w : World) (B : Nat) (v : Value) (l : List ByteArray) : Prop := ∃ A c, v = .slice A l.length c ∧ Sc w B A l ∧ l.length ≤ c ∧ c ≤ maxLen ∧ (A = none → c = 0) ∧ ∀ s ∈ l, s.size ≤ maxLen
/-- five cells hold the tree t, with the slices vk and vq -/
structure Cell5 (w : World) (b o : Nat) (t : Tn) (vk vq : Value) : Prop where
  c0 : w.cell? ⟨b, o, none⟩ = some (.int .i64 t.kind)
  c1 : w.cell? ⟨b, o + 1, none⟩ = some (.int .i64 t.n)
  c2 : w.cell? ⟨b, o + 2, none⟩ = some (.string t.s)
  c3 : w.cell? ⟨b, o + 3, none⟩ = some vk
  c4 : w.cell? ⟨b, o + 4, none⟩ = some vq
/-- the slices vk and vq are those of the tree t; all lies in blocks below B -/
inductive Tv (w : World) (B : Nat) : Tn → Value → Value → Prop
  | mk {k n : Int} {s : ByteArray} {keys : List ByteArray} {kids : List Tn} {vk : Value} {A : Option Addr} {c : Nat} (K Q : Nat → Value)
      (rk : -9223372036854775808 ≤ k ∧ k ≤ 9223372036854775807) (rn : -9223372036854775808 ≤ n ∧ n ≤ 9223372036854775807) (rs : s.size ≤ maxLen)
      (hk : Sk w B vk keys) (hl : kids.length ≤ c) (hm : c ≤ maxLen) (hn : A = none → c = 0)
      (hc : ∀ i (h : i < kids.length), ∃ b off, A = some ⟨b, off, none⟩ ∧ b < B ∧ Cell5 w b (off + i * 5) kids[i] (K i) (Q i))
      (ht : ∀ i (h : i < kids.length), Tv w B kids[i] (K i) (Q i)) : Tv w B (.mk k n s keys kids) vk (.slice A kids.length c)
section
variable {w w' : World} {B B' : Nat} {t : Tn} {vk vq : Value} {l : List ByteArray} {A : Option Addr} {b o : Nat}
theorem Sc.below (h : Sc w B A l) (hb : Below B w w') : Sc w' B A l := fun i hi => by
  obtain ⟨b, off, e, hB, hc⟩ := h i hi
  exact ⟨b, off, e, hB, (hb.cell hB).trans hc⟩
theorem Sc.more (h : Sc w B A l) (hB : B ≤ B') : Sc w B' A l := fun i hi => by
  obtain ⟨b, off, e, h1, hc⟩ := h i hi
  exact ⟨b, off, e, by omega, hc⟩
theorem Sk.below {v : Value} (h : Sk w B v l) (hb : Below B w w') : Sk w' B v l := by obtain ⟨A, c, h1, h2, h3⟩ := h; exact ⟨A, c, h1, h2.below hb, h3⟩
theorem Sk.more {v : Value} (h : Sk w B v l) (hB : B ≤ B') : Sk w B' v l := by obtain ⟨A, c, h1, h2, h3⟩ := h; exact ⟨A, c, h1, h2.more hB, h3⟩
theorem Sk.nil (w : World) (B : Nat) : Sk w B (.slice none 0 0) [] := ⟨none, 0, rfl, fun i hi => by simp at hi, by simp, by unfold maxLen; omega, fun _ => rfl, fun s hs => by cases hs⟩
theorem Cell5.below (h : Cell5 w b o t vk vq) (hb : Below B w w') (hB : b < B) : Cell5 w' b o t vk vq :=
  ⟨(hb.cell (p := ⟨b, o, none⟩) hB).trans h.c0, (hb.cell (p := ⟨b, o + 1, none⟩) hB).trans h.c1, (hb.cell (p := ⟨b, o + 2, none⟩) hB).trans h.c2, (hb.cell (p := ⟨b, o + 3, none⟩) hB).trans h.c3, (hb.cell (p := ⟨b, o + 4, none⟩) hB).trans h.c4⟩
theorem Tv.keep (h : Tv w B t vk vq) (hb : Below B w w') : Tv w' B t vk vq := by
  induction h with
  | mk K Q rk rn rs hk hl hm hn hc ht ih =>
    refine .mk K Q rk rn rs (hk.below hb) hl hm hn (fun i hi => ?_) ih
    obtain ⟨b, off, e, hB, h5⟩ := hc i hi
    exact ⟨b, off, e, hB, h5.below hb hB⟩
theorem Tv.more (h : Tv w B t vk vq) (hB : B ≤ B') : Tv w B' t vk vq := by
  induction h with
  | mk K Q rk rn rs hk hl hm hn hc ht ih =>
    refine .mk K Q rk rn rs (hk.more hB) hl hm hn (fun i hi => ?_) ih
    obtain ⟨b, off, e, h1, h5⟩ := hc i hi
    exact ⟨b, off, e, by omega, h5⟩
theorem Tv.keys (h : Tv w B t vk vq) : Sk w B vk t.keys := by cases h; assumption
theorem Tv.kind (h : Tv w B t vk vq) : -9223372036854775808 ≤ t.kind ∧ t.kind ≤ 9223372036854775807 := by cases h; assumption
theorem Tv.num (h : Tv w B t vk vq) : -9223372036854775808 ≤ t.n ∧ t.n ≤ 9223372036854775807 := by cases h; assumption
theorem Tv.str (h : Tv w B t vk vq) : t.s.size ≤ maxLen := by cases h; assumption
/-- the kids, with their slices -/
theorem Tv.kids (h : Tv w B t vk vq) : ∃ A c, vq = .slice A t.kids.length c ∧ t.kids.length ≤ c ∧ c ≤ maxLen ∧ (A = none → c = 0) ∧ ∃ K Q : Nat → Value, ∀ i (h : i < t.kids.length), ∃ b off, A = some ⟨b, off, none⟩ ∧ b < B ∧ Cell5 w b (off + i * 5) t.kids[i] (K i) (Q i) ∧ Tv w B t.kids[i] (K i) (Q i) := by
  cases h with
  | mk K Q rk rn rs hk hl hm hn hc ht => exact ⟨_, _, rfl, hl, hm, hn, K, Q, fun i hi => by obtain ⟨b, off, e, hB, h5⟩ := hc i hi; exact ⟨b, off, e, hB, h5, ht i hi⟩⟩
end
/-- a slice of trees -/
def Kv (w : World) (B : Nat) (v : Value) (l : List Tn) : Prop := ∃ A c, v = .slice A l.length c ∧ l.length ≤ c ∧ c ≤ maxLen ∧ (A = none → c = 0) ∧ ∃ K Q : Nat → Value, ∀ i (h : i < l.length), ∃ b off, A = some ⟨b, off, none⟩ ∧ b < B ∧ Cell5 w b (off + i * 5) l[i] (K i) (Q i) ∧ Tv w B l[i] (K i) (Q i)
theorem Tv.kv {w : World} {B : Nat} {t : Tn} {vk vq : Value} (h : Tv w B t vk vq) : Kv w B vq t.kids := h.kids
theorem Tv.of {w : World} {B : Nat} {t : Tn} {vk vq : Value} (h1 : -9223372036854775808 ≤ t.kind ∧ t.kind ≤ 9223372036854775807) (h2 : -9223372036854775808 ≤ t.n ∧ t.n ≤ 9223372036854775807) (h3 : t.s.size ≤ maxLen) (h4 : Sk w B vk t.keys) (h5 : Kv w B vq t.kids) : Tv w B t vk vq := by
  obtain ⟨k, n, s, keys, kids⟩ := t
  obtain ⟨A, c, rfl, a1, a2, a3, K, Q, hK⟩ := h5
  refine .mk K Q h1 h2 h3 h4 a1 a2 a3 (fun i hi => ?_) (fun i hi => ?_)
  · obtain ⟨b, off, e, hB, h6, _⟩ := hK i hi
    exact ⟨b, off, e, hB, h6⟩
  · obtain ⟨b, off, e, hB, _, h7⟩ := hK i hi
    exact h7
theorem Kv.below {w w' : World} {B : Nat} {v : Value} {l : List Tn} (h : Kv w B v l) (hb : Below B w w') : Kv w' B v l := by
  obtain ⟨A, c, h1, h2, h3, h4, K, Q, hK⟩ := h
  refine ⟨A, c, h1, h2, h3, h4, K, Q, fun i hi => ?_⟩
  obtain ⟨b, off, e, hB, h5, h6⟩ := hK i hi
  exact ⟨b, off, e, hB, h5.below hb hB, h6.keep hb⟩
theorem Kv.more {w : World} {B B' : Nat} {v : Value} {l : List Tn} (h : Kv w B v l) (hB : B ≤ B') : Kv w B' v l := by
  obtain ⟨A, c, h1, h2, h3, h4, K, Q, hK⟩ := h
  refine ⟨A, c, h1, h2, h3, h4, K, Q, fun i hi => ?_⟩
  obtain ⟨b, off, e, h0, h5, h6⟩ := hK i hi
  exact ⟨b, off, e, by omega, h5, h6.more hB⟩
theorem Kv.nil (w : World) (B : Nat) : Kv w B (.slice none 0 0) [] := ⟨none, 0, rfl, by simp, by unfold maxLen; omega, fun _ => rfl, fun _ => .bool false, fun _ => .bool false, fun i hi => by simp at hi⟩

/-! ### an argument that is a tree -/
theorem tree_field {H : Type} {enc : TypeId × Value → H} {P : Program} {w : World} {base : Nat} {spare : Nat → Bool} {held : Bool} {n : Nat} {fs : Array Field} {cs : List Value} {xs : List (DataW H × List MemPlace)}
    (hx : ∀ (i : Nat) (f : Field), fs[i]? = some f → DataW.trod enc P w base spare held n f.type ((cs.drop f.offset).take (P.cellsOf f.type)) = xs[i]?) (i : Nat) (f : Field) (hi : fs[i]? = some f) (ty off c : Nat) (h1 : f.type = ty) (h2 : f.offset = off) (h3 : P.cellsOf ty = c) :
    DataW.trod enc P w base spare held n ty ((cs.drop off).take c) = xs[i]? := by
  subst h1 h2 h3
  exact hx i f hi
section
variable {H : Type} {enc : TypeId × Value → H} {w : World} {base : Nat} {spare : Nat → Bool} {held : Bool}
theorem open_each {P : Program} {t e : TypeId} {fuel : Nat} {cs : List Value} {x : DataW H × List MemPlace} (ht : P.underlying t = some (.slice e)) (h : DataW.trod enc P w base spare held fuel t cs = some x) :
    cs = [.slice none 0 0] ∨ ∃ (a : Addr) (len cap n : Nat), fuel = n + 1 ∧ cs = [.slice (some a) len cap] ∧ len ≤ cap ∧ cap ≤ maxLen ∧ ∀ i, i < len → ∃ cs' y, w.cells? base (a.add (i * P.cellsOf e)) (P.cellsOf e) = some cs' ∧ DataW.trod enc P w base spare held n e cs' = some y := by
  rcases DataW.trod_slice ht h with h0 | ⟨a, len, cap, elems, rest, n, hf, rfl, rfl, hb, hl, hm, hlen, hel, hsp, hns⟩
  · exact .inl h0.1
  · refine .inr ⟨a, len, cap, n, hf, rfl, hl, hm, fun i hi => ?_⟩
    have h1 := hel i hi
    rw [List.getElem?_eq_getElem (by omega)] at h1
    obtain ⟨cs', h2, h3⟩ := Option.bind_eq_some_iff.1 h1
    exact ⟨cs', _, h2, h3⟩
theorem spot_of {a : Addr} {v : Value} (h : w.cell? a = some v) : ∃ b off, a = ⟨b, off, none⟩ ∧ b < w.heap.size := by
  obtain ⟨b, off, spot⟩ := a
  have hs : spot = none := by simpa using World.cell?_spot h
  subst hs
  refine ⟨b, off, rfl, ?_⟩
  rcases Nat.lt_or_ge b w.heap.size with h1 | h1
  · exact h1
  · simp [World.cell?, Array.getElem?_eq_none h1] at h
theorem add_plain (b off j : Nat) : (⟨b, off, none⟩ : Addr).add j = ⟨b, off + j, none⟩ := by unfold Addr.add; split <;> simp_all
theorem open_strs {P : Program} {t e : TypeId} {fuel : Nat} {cs : List Value} {x : DataW H × List MemPlace} (ht : P.underlying t = some (.slice e)) (he : P.underlying e = some .string) (ce : P.cellsOf e = 1) (h : DataW.trod enc P w base spare held fuel t cs = some x) : ∃ v l, cs = [v] ∧ Sk w w.heap.size v l := by
  rcases open_each ht h with rfl | ⟨a, len, cap, n, _, rfl, hl, hm, hx⟩
  · exact ⟨_, [], rfl, Sk.nil _ _⟩
  · rw [ce] at hx
    have each : ∀ i, i < len → ∃ s : ByteArray, w.cell? (a.add i) = some (.string s) ∧ s.size ≤ maxLen := fun i hi => by
      obtain ⟨cs', y, h1, h2⟩ := hx i hi
      obtain ⟨s, rfl, _, hs⟩ := DataW.trod_string he h2
      rw [Nat.mul_one] at h1
      exact ⟨s, cell_of_cells?_one h1, hs⟩
    haveI : Inhabited ByteArray := ⟨⟨#[]⟩⟩
    obtain ⟨q, hq⟩ := Go.Deep.choose_lt each
    refine ⟨_, (List.range len).map q, rfl, some a, cap, by simp, ?_, by simpa using hl, hm, (fun h => by cases h), ?_⟩
    · intro i hi
      have hi' : i < len := by simpa using hi
      have h0 := (hq i hi').1
      obtain ⟨b0, off0, e0, hb0⟩ := spot_of h0
      obtain ⟨b, off, spot⟩ := a
      have : spot = none := by simpa [Addr.add] using World.cell?_spot (hq 0 (by omega)).1
      subst this
      rw [add_plain] at h0 e0
      injection e0 with e1 _ _
      subst e1
      exact ⟨b, off, rfl, hb0, by simpa using h0⟩
    · intro s hs
      obtain ⟨i, hi, rfl⟩ := List.mem_map.1 hs
      exact (hq i (List.mem_range.1 hi)).2
theorem cells_tree : Try.prog.cellsOf 25 = 5 := by kernel_rfl
theorem open_tree_cells : ∀ (fuel : Nat) {cs : List Value} {x : DataW H × List MemPlace}, DataW.trod enc Try.prog w base spare held fuel 25 cs = some x → ∃ t vk vq, cs = [.int .i64 (Tn.kind t), .int .i64 t.n, .string t.s, vk, vq] ∧ Tv w w.heap.size t vk vq := by
  intro fuel
  induction fuel using Nat.strongRecOn with
  | ind fuel ih =>
    intro cs x h
    obtain ⟨xs, n, hf, _, hcl, hlen, hx⟩ := DataW.trod_struct Try.underlying25 h
    rw [cells_tree] at hcl
    match cs, hcl with
    | [c0, c1, c2, c3, c4], _ =>
    match xs, hlen with
    | [x0, x1, x2, x3, x4], _ =>
    have one : ∀ t, t ∈ [3, 2, 9, 22, 23] → Try.prog.cellsOf t = 1 := by
      intro t ht
      simp at ht
      rcases ht with rfl | rfl | rfl | rfl | rfl <;> kernel_rfl
    have h0 : DataW.trod enc Try.prog w base spare held n 3 [c0] = some x0 := tree_field hx 0 _ rfl 3 0 1 rfl rfl (one _ (by decide))
    have h1 : DataW.trod enc Try.prog w base spare held n 2 [c1] = some x1 := tree_field hx 1 _ rfl 2 1 1 rfl rfl (one _ (by decide))
    have h2 : DataW.trod enc Try.prog w base spare held n 9 [c2] = some x2 := tree_field hx 2 _ rfl 9 2 1 rfl rfl (one _ (by decide))
    have h3 : DataW.trod enc Try.prog w base spare held n 22 [c3] = some x3 := tree_field hx 3 _ rfl 22 3 1 rfl rfl (one _ (by decide))
    have h4 : DataW.trod enc Try.prog w base spare held n 23 [c4] = some x4 := tree_field hx 4 _ rfl 23 4 1 rfl rfl (one _ (by decide))
    obtain ⟨z0, e0, _, w0⟩ := DataW.trod_int Try.underlying3 h0
    obtain ⟨z1, e1, _, w1⟩ := DataW.trod_int Try.underlying2 h1
    obtain ⟨z2, e2, _, w2⟩ := DataW.trod_string Try.underlying9 h2
    obtain ⟨vk, lk, ek, hk⟩ := open_strs Try.underlying22 Try.underlying9 (one _ (by decide)) h3
    have b0 := bounds_i64 w0
    have b1 := bounds_i64 w1
    have hkids : ∃ vq l, [c4] = [vq] ∧ Kv w w.heap.size vq l := by
      rcases open_each Try.underlying23 h4 with e | ⟨a, len, cap, n', hn', e, hl, hm, hy⟩
      · exact ⟨_, [], e, Kv.nil _ _⟩
      · rw [cells_tree] at hy
        have each : ∀ i, i < len → ∃ q : Tn × Value × Value, (∀ j (u : Value), [Value.int .i64 q.1.kind, .int .i64 q.1.n, .string q.1.s, q.2.1, q.2.2][j]? = some u → w.cell? ((a.add (i * 5)).add j) = some u) ∧ Tv w w.heap.size q.1 q.2.1 q.2.2 := fun i hi => by
          obtain ⟨cs', y, k1, k2⟩ := hy i hi
          obtain ⟨t, vk', vq', rfl, ht⟩ := ih n' (by omega) k2
          obtain ⟨_, _, hcell⟩ := World.cells?_some k1
          refine ⟨(t, vk', vq'), fun j u hu => ?_, ht⟩
          have hj : j < 5 := by
            rcases Nat.lt_or_ge j 5 with h | h
            · exact h
            · rw [List.getElem?_eq_none (by simpa using h)] at hu; cases hu
          rw [hcell j hj]
          exact hu
        haveI : Inhabited (Tn × Value × Value) := ⟨(.mk 0 0 ⟨#[]⟩ [] [], .bool false, .bool false)⟩
        obtain ⟨q, hq⟩ := Go.Deep.choose_lt each
        refine ⟨_, (List.range len).map (fun i => (q i).1), e, some a, cap, by simp, by simpa using hl, hm, (fun h => by cases h), fun i => (q i).2.1, fun i => (q i).2.2, fun i hi => ?_⟩
        have hi' : i < len := by simpa using hi
        obtain ⟨k1, k2⟩ := hq i hi'
        obtain ⟨b, off, spot⟩ := a
        have : spot = none := by simpa [Addr.add] using World.cell?_spot ((hq 0 (by omega)).1 0 _ rfl)
        subst this
        have key : ∀ j u, [Value.int .i64 (q i).1.kind, .int .i64 (q i).1.n, .string (q i).1.s, (q i).2.1, (q i).2.2][j]? = some u → w.cell? ⟨b, off + i * 5 + j, none⟩ = some u := fun j u hu => by
          have := k1 j u hu
          rwa [add_plain, add_plain] at this
        have g0 := key 0 _ rfl
        obtain ⟨b0, off0, e0, hb0⟩ := spot_of g0
        injection e0 with e1 _ _
        subst e1
        have hget : ((List.range len).map (fun i => (q i).1))[i] = (q i).1 := by simp
        refine ⟨b, off, rfl, hb0, ?_, ?_⟩
        · rw [hget]
          exact ⟨g0, key 1 _ rfl, key 2 _ rfl, key 3 _ rfl, key 4 _ rfl⟩
        · rw [hget]; exact k2
    obtain ⟨vq, lq, eq, hq⟩ := hkids
    simp only [List.cons.injEq, and_true] at e0 e1 e2 ek eq
    subst e0 e1 e2 ek eq
    exact ⟨.mk z0 z1 z2 lk lq, c3, c4, rfl, Tv.of b0 b1 w2 hk hq⟩
/-- an argument that is a tree -/
theorem open_tree {r : Reach} {b0 : Nat} {v : Value} {d : DataW H} {ps : List MemPlace}
    (hv : Value.okWide Try.prog w r b0 25 v) (hd : DataW.Trod enc Try.prog w base spare held 25 v d ps) : ∃ t vk vq, v = .agg #[.int .i64 (Tn.kind t), .int .i64 t.n, .string t.s, vk, vq] ∧ Tv w w.heap.size t vk vq := by
  obtain ⟨cs, rfl, hsz, _⟩ : ∃ cs, v = .agg cs ∧ cs.size = Try.prog.cellsOf 25 ∧ Row.okWide Try.prog w r b0 25 cs := by simpa [Value.okWide, Try.underlying25] using hv
  obtain ⟨fuel, hf⟩ := hd
  obtain ⟨t, vk, vq, e, h⟩ := open_tree_cells fuel hf
  refine ⟨t, vk, vq, ?_, h⟩
  have e2 : cs.toList = _ := e
  rw [← Array.toArray_toList (xs := cs), e2]
end
end Go.Proofs.Ytphanlkobkkgfaa
