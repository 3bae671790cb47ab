/- Plain mathematics of layer 11: trees; bytes in their order; a key's place; set, get, depth, right, and what follows. No program. -/
import Derived.Test.YtphanlkobkkgfaaPA
namespace Go.Proofs.Ytphanlkobkkgfaa
set_option linter.unusedVariables false

/-- a tree -/
inductive Tn where
  | mk (kind n : Int) (s : ByteArray) (keys : List ByteArray) (kids : List Tn)
namespace Tn
def kind : Tn → Int | .mk k _ _ _ _ => k
def n : Tn → Int | .mk _ n _ _ _ => n
def s : Tn → ByteArray | .mk _ _ s _ _ => s
def keys : Tn → List ByteArray | .mk _ _ _ l _ => l
def kids : Tn → List Tn | .mk _ _ _ _ l => l
theorem eta (t : Tn) : t = .mk t.kind t.n t.s t.keys t.kids := by cases t; rfl
theorem ext {a b : Tn} (h1 : a.kind = b.kind) (h2 : a.n = b.n) (h3 : a.s = b.s) (h4 : a.keys = b.keys) (h5 : a.kids = b.kids) : a = b := by
  rw [eta a, eta b, h1, h2, h3, h4, h5]
/-- a kid is smaller -/
theorem kid_lt {t : Tn} {i : Nat} (h : i < t.kids.length) : SizeOf.sizeOf t.kids[i] < SizeOf.sizeOf t := by
  obtain ⟨k, n, s, l, ks⟩ := t
  have h1 : SizeOf.sizeOf ks[i] < SizeOf.sizeOf ks := List.sizeOf_lt_of_mem (List.getElem_mem h)
  show SizeOf.sizeOf ks[i] < SizeOf.sizeOf (Tn.mk k n s l ks)
  simp
  omega

/-! ### bytes in their order -/
def lessL : List Nat → List Nat → Bool
  | _, [] => false
  | [], _ :: _ => true
  | x :: a, y :: b => if x = y then lessL a b else decide (x < y)
theorem lessL_irrefl : ∀ a, lessL a a = false
  | [] => rfl
  | x :: a => by unfold lessL; rw [if_pos rfl]; exact lessL_irrefl a
theorem lessL_trans : ∀ {a b c : List Nat}, lessL a b = true → lessL b c = true → lessL a c = true
  | _, [], _, h, _ => by cases ‹List Nat› <;> simp [lessL] at h
  | _, _ :: _, [], _, h => by simp [lessL] at h
  | [], _ :: _, _ :: _, _, _ => rfl
  | x :: a, y :: b, z :: c, h, k => by
    unfold lessL at h k ⊢
    by_cases h1 : x = y
    · subst h1
      by_cases h2 : x = z
      · subst h2
        rw [if_pos rfl] at h k ⊢
        exact lessL_trans h k
      · rw [if_neg h2] at k ⊢
        exact k
    · rw [if_neg h1] at h
      by_cases h2 : y = z
      · subst h2
        rw [if_neg h1]
        exact h
      · rw [if_neg h2] at k
        simp at h k
        rw [if_neg (by omega)]
        simp
        omega
theorem lessL_total : ∀ {a b : List Nat}, lessL a b = false → lessL b a = false → a = b
  | [], [], _, _ => rfl
  | [], _ :: _, h, _ => by simp [lessL] at h
  | _ :: _, [], _, h => by simp [lessL] at h
  | x :: a, y :: b, h, k => by
    unfold lessL at h k
    by_cases h1 : x = y
    · subst h1
      rw [if_pos rfl] at h k
      rw [lessL_total h k]
    · rw [if_neg h1] at h
      rw [if_neg (fun e => h1 e.symm)] at k
      simp at h k
      omega
def bytes (s : ByteArray) : List Nat := s.data.toList.map UInt8.toNat
theorem bytes_inj {a b : ByteArray} (h : bytes a = bytes b) : a = b := by
  unfold bytes at h
  have h2 : a.data.toList = b.data.toList := by
    have key : ∀ (l m : List UInt8), l.map UInt8.toNat = m.map UInt8.toNat → l = m := by
      intro l
      induction l with
      | nil => intro m h; cases m with
        | nil => rfl
        | cons _ _ => cases h
      | cons x l ih => intro m h; cases m with
        | nil => cases h
        | cons y m =>
          simp only [List.map_cons, List.cons.injEq] at h
          rw [ih m h.2, UInt8.toNat_inj.1 h.1]
    exact key _ _ h
  exact ByteArray.ext (Array.ext' h2)
def less (a b : ByteArray) : Bool := lessL (bytes a) (bytes b)
theorem less_irrefl (a : ByteArray) : less a a = false := lessL_irrefl _
theorem less_trans {a b c : ByteArray} (h : less a b = true) (k : less b c = true) : less a c = true := lessL_trans h k
theorem less_total {a b : ByteArray} (h : less a b = false) (k : less b a = false) : a = b := bytes_inj (lessL_total h k)

/-! ### a key's place -/
def place (l : List ByteArray) (key : ByteArray) : Nat := l.findIdx (fun k => decide (k = key))
/-- the first place whose key is greater -/
def gap (l : List ByteArray) (key : ByteArray) : Nat := l.findIdx (fun k => less key k)
theorem place_le (l : List ByteArray) (key : ByteArray) : place l key ≤ l.length := List.findIdx_le_length
theorem gap_le (l : List ByteArray) (key : ByteArray) : gap l key ≤ l.length := List.findIdx_le_length
theorem place_is {l : List ByteArray} {key : ByteArray} (h : place l key < l.length) : l[place l key] = key := by
  exact of_decide_eq_true (List.findIdx_getElem (w := h))
theorem place_not {l : List ByteArray} {key : ByteArray} {i : Nat} (h : i < place l key) (hl : i < l.length) : l[i] ≠ key := by
  have := List.not_of_lt_findIdx h
  simpa using this
theorem place_first {l : List ByteArray} {key : ByteArray} {i : Nat} (hl : i < l.length) (h1 : l[i] = key) (h2 : ∀ j (h : j < i), l[j]'(by omega) ≠ key) : place l key = i := by
  rcases Nat.lt_trichotomy (place l key) i with h | h | h
  · exact absurd (place_is (by omega)) (h2 _ h)
  · exact h
  · exact absurd h1 (place_not h hl)
theorem place_none {l : List ByteArray} {key : ByteArray} (h : ∀ k ∈ l, k ≠ key) : place l key = l.length := by
  rcases Nat.lt_or_ge (place l key) l.length with h1 | h1
  · exact absurd (place_is h1) (h _ (List.getElem_mem h1))
  · exact Nat.le_antisymm (place_le _ _) h1

/-! ### set and get -/
def put {α : Type} (l : List α) (i : Nat) (x : α) : List α := l.take i ++ x :: l.drop i
theorem put_length {α : Type} (l : List α) (i : Nat) (x : α) (h : i ≤ l.length) : (put l i x).length = l.length + 1 := by
  unfold put
  rw [List.length_append, List.length_take, List.length_cons, List.length_drop]
  omega
theorem put_get {α : Type} (l : List α) (i : Nat) (x : α) (h : i ≤ l.length) (j : Nat) : (put l i x)[j]? = if j < i then l[j]? else if j = i then some x else l[j - 1]? := by
  unfold put
  rw [List.getElem?_append, List.length_take, Nat.min_eq_left h]
  by_cases h1 : j < i
  · rw [if_pos h1, if_pos h1, List.getElem?_take_of_lt h1]
  · rw [if_neg h1, if_neg h1]
    by_cases h2 : j = i
    · subst h2; rw [if_pos rfl, Nat.sub_self]; rfl
    · rw [if_neg h2, show j - i = (j - i - 1) + 1 by omega, List.getElem?_cons_succ, List.getElem?_drop]
      congr 1
      omega
def fits (t : Tn) : Bool := decide (t.kind = 4) && decide (t.keys.length = t.kids.length)
def set (t : Tn) (key : ByteArray) (x : Tn) : Tn :=
  if t.fits = false then t
  else if place t.keys key < t.keys.length then .mk t.kind t.n t.s t.keys (t.kids.set (place t.keys key) x)
  else .mk t.kind t.n t.s (put t.keys (gap t.keys key) key) (put t.kids (gap t.keys key) x)
def get (t : Tn) (key : ByteArray) : Option Tn := if t.kind = 4 ∧ place t.keys key < t.keys.length then t.kids[place t.keys key]? else none

/-! ### depth -/
mutual
def depth : Tn → Nat
  | .mk _ _ _ _ kids => 1 + depths kids
def depths : List Tn → Nat
  | [] => 0
  | t :: ts => max (depth t) (depths ts)
end
theorem depth_eq (t : Tn) : t.depth = 1 + depths t.kids := by obtain ⟨k, n, s, l, ks⟩ := t; rw [depth]; rfl
theorem depths_le : ∀ {l : List Tn} {t : Tn}, t ∈ l → t.depth ≤ depths l
  | a :: l, t, h => by
    rw [depths]
    rcases List.mem_cons.1 h with rfl | h
    · omega
    · have := depths_le h; omega

/-! ### right -/
/-- fields that the kind does not have -/
def odd (t : Tn) : Bool :=
  (!decide (t.kind = 1) && !decide (t.n = 0)) || (!decide (t.kind = 2) && !decide (t.s = ⟨#[]⟩)) || (!decide (t.kind = 4) && !decide (t.keys = [])) ||
  (if t.kind < 3 then !decide (t.kids = []) else decide (t.kind = 4) && !decide (t.keys.length = t.kids.length))
def isLong (t : Tn) : Bool := decide (1048576 < t.s.size) || t.keys.any (fun k => decide (1048576 < k.size))
def rises : List ByteArray → Bool
  | a :: b :: l => less a b && rises (b :: l)
  | _ => true
/-- a tree's own error, the level aside -/
def own (t : Tn) : Nat := if t.kind < 1 ∨ 4 < t.kind then 9 else if t.odd = true then 1 else if t.isLong = true then 5 else if rises t.keys = false then 3 else 0
mutual
def right : Tn → Nat → Nat
  | .mk k n s keys kids, ahead => if 7 < ahead then 6 else if own (.mk k n s keys kids) ≠ 0 then own (.mk k n s keys kids) else rights kids (ahead + 1)
def rights : List Tn → Nat → Nat
  | [], _ => 0
  | t :: ts, ahead => if right t ahead ≠ 0 then right t ahead else rights ts ahead
end
theorem right_eq (t : Tn) (a : Nat) : t.right a = if 7 < a then 6 else if t.own ≠ 0 then t.own else rights t.kids (a + 1) := by obtain ⟨k, n, s, l, ks⟩ := t; rw [right]; rfl
theorem rights_zero : ∀ {l : List Tn} {a : Nat}, rights l a = 0 ↔ ∀ t ∈ l, t.right a = 0
  | [], a => by rw [rights]; simp
  | t :: l, a => by
    rw [rights]
    by_cases h : t.right a = 0
    · rw [if_neg (by simpa using h), rights_zero]
      constructor
      · intro k u hu
        rcases List.mem_cons.1 hu with rfl | hu
        · exact h
        · exact k u hu
      · exact fun k u hu => k u (List.mem_cons_of_mem _ hu)
    · rw [if_pos h]
      exact ⟨fun k => absurd k h, fun k => absurd (k t List.mem_cons_self) h⟩

/-! ### what is set is got -/
theorem fits_eq {t : Tn} (h : t.fits = true) : t.kind = 4 ∧ t.keys.length = t.kids.length := by unfold fits at h; simpa using h
theorem set_found {t : Tn} {key : ByteArray} {x : Tn} (h : t.fits = true) (hp : place t.keys key < t.keys.length) : t.set key x = .mk t.kind t.n t.s t.keys (t.kids.set (place t.keys key) x) := by
  unfold set
  rw [if_neg (by rw [h]; simp), if_pos hp]
theorem set_new {t : Tn} {key : ByteArray} {x : Tn} (h : t.fits = true) (hp : ¬ place t.keys key < t.keys.length) : t.set key x = .mk t.kind t.n t.s (put t.keys (gap t.keys key) key) (put t.kids (gap t.keys key) x) := by
  unfold set
  rw [if_neg (by rw [h]; simp), if_neg hp]
theorem get_eq {t : Tn} {key : ByteArray} (hk : t.kind = 4) : t.get key = if place t.keys key < t.keys.length then t.kids[place t.keys key]? else none := by
  unfold get
  by_cases h : place t.keys key < t.keys.length
  · rw [if_pos ⟨hk, h⟩, if_pos h]
  · rw [if_neg (fun k => h k.2), if_neg h]
theorem none_is {l : List ByteArray} {key : ByteArray} (h : ¬ place l key < l.length) : ∀ i (hi : i < l.length), l[i] ≠ key := fun i hi => place_not (by have := place_le l key; omega) hi
theorem put_at {α : Type} {l : List α} {i : Nat} {x : α} (h : i ≤ l.length) : (put l i x)[i]? = some x := by rw [put_get l i x h, if_neg (by omega), if_pos rfl]
/-- where a key stands when another one was put in -/
theorem place_put {l : List ByteArray} {g : Nat} {key other : ByteArray} (hg : g ≤ l.length) (hne : other ≠ key) :
    place (put l g key) other = if place l other < g then place l other else place l other + 1 := by
  have hlen := put_length l g key hg
  have at_ : ∀ j (hj : j < (put l g key).length), some (put l g key)[j] = if j < g then l[j]? else if j = g then some key else l[j - 1]? := fun j hj => by
    rw [← put_get l g key hg j, List.getElem?_eq_getElem hj]
  have hple := place_le l other
  by_cases hp : place l other < l.length
  · have hpi := place_is hp
    by_cases h1 : place l other < g
    · rw [if_pos h1]
      refine place_first (by omega) ?_ (fun j hj => ?_)
      · have := at_ (place l other) (by omega)
        rw [if_pos h1, List.getElem?_eq_getElem hp] at this
        exact (Option.some.inj this).trans hpi
      · have := at_ j (by omega)
        rw [if_pos (by omega), List.getElem?_eq_getElem (by omega)] at this
        rw [Option.some.inj this]
        exact place_not hj (by omega)
    · rw [if_neg h1]
      refine place_first (by omega) ?_ (fun j hj => ?_)
      · have := at_ (place l other + 1) (by omega)
        rw [if_neg (by omega), if_neg (by omega), Nat.add_sub_cancel, List.getElem?_eq_getElem hp] at this
        exact (Option.some.inj this).trans hpi
      · have := at_ j (by omega)
        by_cases h2 : j < g
        · rw [if_pos h2, List.getElem?_eq_getElem (by omega)] at this
          rw [Option.some.inj this]
          exact place_not (by omega) (by omega)
        · by_cases h3 : j = g
          · rw [if_neg h2, if_pos h3] at this
            rw [Option.some.inj this]
            exact fun e => hne e.symm
          · rw [if_neg h2, if_neg h3, List.getElem?_eq_getElem (by omega)] at this
            rw [Option.some.inj this]
            exact place_not (by omega) (by omega)
  · rw [if_neg (by omega), place_none, hlen]
    · omega
    · intro k hk
      obtain ⟨j, hj, rfl⟩ := List.mem_iff_getElem.1 hk
      have := at_ j hj
      by_cases h2 : j < g
      · rw [if_pos h2, List.getElem?_eq_getElem (by omega)] at this
        rw [Option.some.inj this]
        exact none_is hp _ _
      · by_cases h3 : j = g
        · rw [if_neg h2, if_pos h3] at this
          rw [Option.some.inj this]
          exact fun e => hne e.symm
        · rw [if_neg h2, if_neg h3, List.getElem?_eq_getElem (by omega)] at this
          rw [Option.some.inj this]
          exact none_is hp _ _
theorem place_put_self {l : List ByteArray} {g : Nat} {key : ByteArray} (hg : g ≤ l.length) (hn : ∀ i (hi : i < l.length), l[i] ≠ key) : place (put l g key) key = g := by
  have hlen := put_length l g key hg
  refine place_first (by omega) ?_ (fun j hj => ?_)
  · have := put_at (x := key) hg
    rw [List.getElem?_eq_getElem (by omega)] at this
    exact Option.some.inj this
  · have := put_get l g key hg j
    rw [if_pos hj, List.getElem?_eq_getElem (by omega), List.getElem?_eq_getElem (by omega)] at this
    rw [Option.some.inj this]
    exact hn j (by omega)
theorem get_set {t : Tn} (h : t.fits = true) (key : ByteArray) (x : Tn) : (t.set key x).get key = some x := by
  obtain ⟨hk, hl⟩ := fits_eq h
  by_cases hp : place t.keys key < t.keys.length
  · rw [set_found h hp, get_eq (by exact hk)]
    show (if place t.keys key < t.keys.length then (t.kids.set (place t.keys key) x)[place t.keys key]? else none) = _
    rw [if_pos hp, List.getElem?_set, if_pos rfl, if_pos (by omega)]
  · rw [set_new h hp, get_eq (by exact hk)]
    have hg := gap_le t.keys key
    show (if place (put t.keys (gap t.keys key) key) key < (put t.keys (gap t.keys key) key).length then (put t.kids (gap t.keys key) x)[place (put t.keys (gap t.keys key) key) key]? else none) = _
    rw [place_put_self hg (none_is hp), put_length _ _ _ hg, if_pos (by omega), put_at (by omega)]
theorem get_other {t : Tn} (h : t.fits = true) {key other : ByteArray} (hne : other ≠ key) (x : Tn) : (t.set key x).get other = t.get other := by
  obtain ⟨hk, hl⟩ := fits_eq h
  by_cases hp : place t.keys key < t.keys.length
  · rw [set_found h hp, get_eq (by exact hk), get_eq hk]
    show (if place t.keys other < t.keys.length then (t.kids.set (place t.keys key) x)[place t.keys other]? else none) = _
    by_cases ho : place t.keys other < t.keys.length
    · rw [if_pos ho, if_pos ho, List.getElem?_set, if_neg (fun e => hne (by rw [← place_is hp, ← place_is ho]; simp only [e]))]
    · rw [if_neg ho, if_neg ho]
  · rw [set_new h hp, get_eq (by exact hk), get_eq hk]
    have hg := gap_le t.keys key
    show (if place (put t.keys (gap t.keys key) key) other < (put t.keys (gap t.keys key) key).length then (put t.kids (gap t.keys key) x)[place (put t.keys (gap t.keys key) key) other]? else none) = _
    rw [place_put hg hne, put_length _ _ _ hg]
    have hple := place_le t.keys other
    by_cases ho : place t.keys other < t.keys.length
    · rw [if_pos ho]
      by_cases h1 : place t.keys other < gap t.keys key
      · rw [if_pos h1, if_pos (by omega), put_get _ _ _ (by omega), if_pos h1]
      · rw [if_neg h1, if_pos (by omega), put_get _ _ _ (by omega), if_neg (by omega), if_neg (by omega), Nat.add_sub_cancel]
    · rw [if_neg ho, if_neg (show ¬ place t.keys other < gap t.keys key by omega), if_neg (by omega)]

/-! ### what may be stays so -/
theorem rises_iff : ∀ {l : List ByteArray}, rises l = true ↔ ∀ i (h : i + 1 < l.length), less l[i] l[i + 1] = true
  | [] => by simp [rises]
  | [a] => by simp [rises]
  | a :: b :: l => by
    have ih := rises_iff (l := b :: l)
    show (less a b && rises (b :: l)) = true ↔ _
    rw [Bool.and_eq_true, ih]
    constructor
    · intro h i hi
      cases i with
      | zero => exact h.1
      | succ i => exact h.2 i (by simpa using hi)
    · intro h
      exact ⟨h 0 (by simp), fun i hi => h (i + 1) (by simpa using hi)⟩
theorem rises_put {l : List ByteArray} {key : ByteArray} (h : rises l = true) (hn : ∀ i (hi : i < l.length), l[i] ≠ key) : rises (put l (gap l key) key) = true := by
  have hg := gap_le l key
  have hlen := put_length l (gap l key) key hg
  rw [rises_iff] at h ⊢
  intro i hi
  have at_ : ∀ j (hj : j < (put l (gap l key) key).length), some (put l (gap l key) key)[j] = if j < gap l key then l[j]? else if j = gap l key then some key else l[j - 1]? := fun j hj => by
    rw [← put_get l _ key hg j, List.getElem?_eq_getElem hj]
  have a1 := at_ i (by omega)
  have a2 := at_ (i + 1) hi
  rcases Nat.lt_trichotomy (i + 1) (gap l key) with h1 | h1 | h1
  · rw [if_pos (by omega), List.getElem?_eq_getElem (by omega)] at a1
    rw [if_pos h1, List.getElem?_eq_getElem (by omega)] at a2
    rw [Option.some.inj a1, Option.some.inj a2]
    exact h i (by omega)
  · rw [if_pos (by omega), List.getElem?_eq_getElem (by omega)] at a1
    rw [if_neg (by omega), if_pos h1] at a2
    rw [Option.some.inj a1, Option.some.inj a2]
    have h2 : less key l[i] = false := by
      have : i < l.findIdx (fun k => less key k) := by show i < gap l key; omega
      simpa using List.not_of_lt_findIdx this
    cases h3 : less l[i] key
    · exact absurd (less_total h3 h2) (hn i (by omega))
    · rfl
  · by_cases h2 : i = gap l key
    · have hgl : gap l key < l.length := by omega
      have h3 : less key l[gap l key] = true := List.findIdx_getElem (w := hgl)
      rw [if_neg (by omega), if_pos h2] at a1
      rw [if_neg (by omega), if_neg (by omega), Nat.add_sub_cancel, List.getElem?_eq_getElem (by omega)] at a2
      rw [Option.some.inj a1, Option.some.inj a2]
      simp only [h2]
      exact h3
    · rw [if_neg (by omega), if_neg h2, List.getElem?_eq_getElem (by omega)] at a1
      rw [if_neg (by omega), if_neg (by omega), Nat.add_sub_cancel, List.getElem?_eq_getElem (by omega)] at a2
      rw [Option.some.inj a1, Option.some.inj a2]
      have := h (i - 1) (by omega)
      simpa [show i - 1 + 1 = i by omega] using this
theorem own_zero {t : Tn} : t.own = 0 ↔ (1 ≤ t.kind ∧ t.kind ≤ 4) ∧ t.odd = false ∧ t.isLong = false ∧ rises t.keys = true := by
  unfold own
  by_cases h1 : t.kind < 1 ∨ 4 < t.kind
  · rw [if_pos h1]; constructor
    · intro h; cases h
    · intro h; omega
  · rw [if_neg h1]
    cases h2 : t.odd <;> cases h3 : t.isLong <;> cases h4 : rises t.keys <;> simp
    omega
theorem mem_put {α : Type} {l : List α} {i : Nat} {x y : α} (h : y ∈ put l i x) : y = x ∨ y ∈ l := by
  unfold put at h
  rcases List.mem_append.1 h with h | h
  · exact .inr (List.mem_of_mem_take h)
  · rcases List.mem_cons.1 h with h | h
    · exact .inl h
    · exact .inr (List.mem_of_mem_drop h)
theorem odd_four {t : Tn} (hk : t.kind = 4) : t.odd = false ↔ t.n = 0 ∧ t.s = ⟨#[]⟩ ∧ t.keys.length = t.kids.length := by
  unfold odd
  rw [hk]
  simp [and_assoc]
theorem right_set {t : Tn} (h : t.fits = true) (hr : t.right 0 = 0) {key : ByteArray} (hs : key.size ≤ 1048576) {x : Tn} (hx : x.right 1 = 0) : (t.set key x).right 0 = 0 := by
  obtain ⟨hk, hl⟩ := fits_eq h
  rw [right_eq, if_neg (by omega)] at hr
  have ho : t.own = 0 := by
    by_cases ho : t.own = 0
    · exact ho
    · rw [if_pos ho] at hr; exact hr
  rw [if_neg (by simpa using ho), rights_zero] at hr
  obtain ⟨o1, o2, o3, o4⟩ := own_zero.1 ho
  obtain ⟨q1, q2, _⟩ := (odd_four hk).1 o2
  rw [right_eq, if_neg (by omega)]
  by_cases hp : place t.keys key < t.keys.length
  · rw [set_found h hp]
    have hO : (Tn.mk t.kind t.n t.s t.keys (t.kids.set (place t.keys key) x)).own = 0 := own_zero.2 ⟨o1, (odd_four (by exact hk)).2 ⟨q1, q2, by show t.keys.length = (t.kids.set _ x).length; rw [List.length_set]; exact hl⟩, o3, o4⟩
    rw [hO, if_neg (by simp), rights_zero]
    intro u hu
    rcases List.mem_or_eq_of_mem_set hu with hu | rfl
    · exact hr u hu
    · exact hx
  · rw [set_new h hp]
    have hg := gap_le t.keys key
    have hO : (Tn.mk t.kind t.n t.s (put t.keys (gap t.keys key) key) (put t.kids (gap t.keys key) x)).own = 0 := by
      refine own_zero.2 ⟨o1, (odd_four (by exact hk)).2 ⟨q1, q2, ?_⟩, ?_, rises_put o4 (none_is hp)⟩
      · show (put t.keys (gap t.keys key) key).length = (put t.kids (gap t.keys key) x).length
        rw [put_length _ _ _ hg, put_length _ _ _ (by omega), hl]
      · unfold isLong at o3 ⊢
        rw [Bool.or_eq_false_iff, List.any_eq_false] at o3 ⊢
        refine ⟨o3.1, fun k hk2 => ?_⟩
        rcases mem_put hk2 with rfl | hk2
        · simpa using hs
        · exact o3.2 k hk2
    rw [hO, if_neg (by simp), rights_zero]
    intro u hu
    rcases mem_put hu with rfl | hu
    · exact hx
    · exact hr u hu
/-- a list of one -/
theorem right_one {x : Tn} : (Tn.mk 3 0 ⟨#[]⟩ [] [x]).right 0 = 0 ↔ x.right 1 = 0 := by
  have hO : (Tn.mk 3 0 ⟨#[]⟩ [] [x]).own = 0 := own_zero.2 ⟨⟨by show (1 : Int) ≤ 3; decide, by show (3 : Int) ≤ 4; decide⟩, rfl, rfl, rfl⟩
  rw [right_eq, if_neg (by omega), hO, if_neg (by simp), rights_zero]
  show (∀ t ∈ [x], t.right 1 = 0) ↔ _
  simp
end Tn
end Go.Proofs.Ytphanlkobkkgfaa
