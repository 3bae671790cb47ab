/- Texts Tnm, Tv, Rtx11, Rtree11, Room11, Rsame11, Rget11, in one. -/
import Derived.Test.YtldjdoebappkoaaGreatDoorPA
import Derived.Deep.Slices
import Derived.BigQuiet
import Derived.Deep.QuietTactic
/- Plain mathematics of layer 11: trees; bytes in their order; a key's place; set, get, depth, right, and what follows. No program. -/
namespace Go.Proofs.YtldjdoebappkoaaGreatDoor
set_option linter.unusedVariables false

/-- a tree -/
inductive Tn where
  | mk (kind n : Int) (s : ByteArray) (keys : List ByteArray) (kids : List Tn)
namespace Tn
def kind : Tn → Int | .mk k _ _ _ _ => k
def n : Tn → Int | .mk _ n _ _ _ => n
def s : Tn → ByteArray | .mk _ _ s _ _ => s
def keys : Tn → List ByteArray | .mk _ _ _ l _ => l
def kids : Tn → List Tn | .mk _ _ _ _ l => l
theorem eta (t : Tn) : t = .mk t.kind t.n t.s t.keys t.kids := by cases t; rfl
theorem ext {a b : Tn} (h1 : a.kind = b.kind) (h2 : a.n = b.n) (h3 : a.s = b.s) (h4 : a.keys = b.keys) (h5 : a.kids = b.kids) : a = b := by
  rw [eta a, eta b, h1, h2, h3, h4, h5]
/-- a kid is smaller -/
theorem kid_lt {t : Tn} {i : Nat} (h : i < t.kids.length) : SizeOf.sizeOf t.kids[i] < SizeOf.sizeOf t := by
  obtain ⟨k, n, s, l, ks⟩ := t
  have h1 : SizeOf.sizeOf ks[i] < SizeOf.sizeOf ks := List.sizeOf_lt_of_mem (List.getElem_mem h)
  show SizeOf.sizeOf ks[i] < SizeOf.sizeOf (Tn.mk k n s l ks)
  simp
  omega

/-! ### bytes in their order -/
def lessL : List Nat → List Nat → Bool
  | _, [] => false
  | [], _ :: _ => true
  | x :: a, y :: b => if x = y then lessL a b else decide (x < y)
theorem lessL_irrefl : ∀ a, lessL a a = false
  | [] => rfl
  | x :: a => by unfold lessL; rw [if_pos rfl]; exact lessL_irrefl a
theorem lessL_trans : ∀ {a b c : List Nat}, lessL a b = true → lessL b c = true → lessL a c = true
  | _, [], _, h, _ => by cases ‹List Nat› <;> simp [lessL] at h
  | _, _ :: _, [], _, h => by simp [lessL] at h
  | [], _ :: _, _ :: _, _, _ => rfl
  | x :: a, y :: b, z :: c, h, k => by
    unfold lessL at h k ⊢
    by_cases h1 : x = y
    · subst h1
      by_cases h2 : x = z
      · subst h2
        rw [if_pos rfl] at h k ⊢
        exact lessL_trans h k
      · rw [if_neg h2] at k ⊢
        exact k
    · rw [if_neg h1] at h
      by_cases h2 : y = z
      · subst h2
        rw [if_neg h1]
        exact h
      · rw [if_neg h2] at k
        simp at h k
        rw [if_neg (by omega)]
        simp
        omega
theorem lessL_total : ∀ {a b : List Nat}, lessL a b = false → lessL b a = false → a = b
  | [], [], _, _ => rfl
  | [], _ :: _, h, _ => by simp [lessL] at h
  | _ :: _, [], _, h => by simp [lessL] at h
  | x :: a, y :: b, h, k => by
    unfold lessL at h k
    by_cases h1 : x = y
    · subst h1
      rw [if_pos rfl] at h k
      rw [lessL_total h k]
    · rw [if_neg h1] at h
      rw [if_neg (fun e => h1 e.symm)] at k
      simp at h k
      omega
def bytes (s : ByteArray) : List Nat := s.data.toList.map UInt8.toNat
theorem bytes_inj {a b : ByteArray} (h : bytes a = bytes b) : a = b := by
  unfold bytes at h
  have h2 : a.data.toList = b.data.toList := by
    have key : ∀ (l m : List UInt8), l.map UInt8.toNat = m.map UInt8.toNat → l = m := by
      intro l
      induction l with
      | nil => intro m h; cases m with
        | nil => rfl
        | cons _ _ => cases h
      | cons x l ih => intro m h; cases m with
        | nil => cases h
        | cons y m =>
          simp only [List.map_cons, List.cons.injEq] at h
          rw [ih m h.2, UInt8.toNat_inj.1 h.1]
    exact key _ _ h
  exact ByteArray.ext (Array.ext' h2)
def less (a b : ByteArray) : Bool := lessL (bytes a) (bytes b)
theorem less_irrefl (a : ByteArray) : less a a = false := lessL_irrefl _
theorem less_trans {a b c : ByteArray} (h : less a b = true) (k : less b c = true) : less a c = true := lessL_trans h k
theorem less_total {a b : ByteArray} (h : less a b = false) (k : less b a = false) : a = b := bytes_inj (lessL_total h k)

/-! ### a key's place -/
def place (l : List ByteArray) (key : ByteArray) : Nat := l.findIdx (fun k => decide (k = key))
/-- the first place whose key is greater -/
def gap (l : List ByteArray) (key : ByteArray) : Nat := l.findIdx (fun k => less key k)
theorem place_le (l : List ByteArray) (key : ByteArray) : place l key ≤ l.length := List.findIdx_le_length
theorem gap_le (l : List ByteArray) (key : ByteArray) : gap l key ≤ l.length := List.findIdx_le_length
theorem place_is {l : List ByteArray} {key : ByteArray} (h : place l key < l.length) : l[place l key] = key := by
  exact of_decide_eq_true (List.findIdx_getElem (w := h))
theorem place_not {l : List ByteArray} {key : ByteArray} {i : Nat} (h : i < place l key) (hl : i < l.length) : l[i] ≠ key := by
  have := List.not_of_lt_findIdx h
  simpa using this
theorem place_first {l : List ByteArray} {key : ByteArray} {i : Nat} (hl : i < l.length) (h1 : l[i] = key) (h2 : ∀ j (h : j < i), l[j]'(by omega) ≠ key) : place l key = i := by
  rcases Nat.lt_trichotomy (place l key) i with h | h | h
  · exact absurd (place_is (by omega)) (h2 _ h)
  · exact h
  · exact absurd h1 (place_not h hl)
theorem place_none {l : List ByteArray} {key : ByteArray} (h : ∀ k ∈ l, k ≠ key) : place l key = l.length := by
  rcases Nat.lt_or_ge (place l key) l.length with h1 | h1
  · exact absurd (place_is h1) (h _ (List.getElem_mem h1))
  · exact Nat.le_antisymm (place_le _ _) h1

/-! ### set and get -/
def put {α : Type} (l : List α) (i : Nat) (x : α) : List α := l.take i ++ x :: l.drop i
theorem put_length {α : Type} (l : List α) (i : Nat) (x : α) (h : i ≤ l.length) : (put l i x).length = l.length + 1 := by
  unfold put
  rw [List.length_append, List.length_take, List.length_cons, List.length_drop]
  omega
theorem put_get {α : Type} (l : List α) (i : Nat) (x : α) (h : i ≤ l.length) (j : Nat) : (put l i x)[j]? = if j < i then l[j]? else if j = i then some x else l[j - 1]? := by
  unfold put
  rw [List.getElem?_append, List.length_take, Nat.min_eq_left h]
  by_cases h1 : j < i
  · rw [if_pos h1, if_pos h1, List.getElem?_take_of_lt h1]
  · rw [if_neg h1, if_neg h1]
    by_cases h2 : j = i
    · subst h2; rw [if_pos rfl, Nat.sub_self]; rfl
    · rw [if_neg h2, show j - i = (j - i - 1) + 1 by omega, List.getElem?_cons_succ, List.getElem?_drop]
      congr 1
      omega
def fits (t : Tn) : Bool := decide (t.kind = 4) && decide (t.keys.length = t.kids.length)
def set (t : Tn) (key : ByteArray) (x : Tn) : Tn :=
  if t.fits = false then t
  else if place t.keys key < t.keys.length then .mk t.kind t.n t.s t.keys (t.kids.set (place t.keys key) x)
  else .mk t.kind t.n t.s (put t.keys (gap t.keys key) key) (put t.kids (gap t.keys key) x)
def get (t : Tn) (key : ByteArray) : Option Tn := if t.kind = 4 ∧ place t.keys key < t.keys.length then t.kids[place t.keys key]? else none

/-! ### depth -/
mutual
def depth : Tn → Nat
  | .mk _ _ _ _ kids => 1 + depths kids
def depths : List Tn → Nat
  | [] => 0
  | t :: ts => max (depth t) (depths ts)
end
theorem depth_eq (t : Tn) : t.depth = 1 + depths t.kids := by obtain ⟨k, n, s, l, ks⟩ := t; rw [depth]; rfl
theorem depths_le : ∀ {l : List Tn} {t : Tn}, t ∈ l → t.depth ≤ depths l
  | a :: l, t, h => by
    rw [depths]
    rcases List.mem_cons.1 h with rfl | h
    · omega
    · have := depths_le h; omega

/-! ### right -/
/-- fields that the kind does not have -/
def odd (t : Tn) : Bool :=
  (!decide (t.kind = 1) && !decide (t.n = 0)) || (!decide (t.kind = 2) && !decide (t.s = ⟨#[]⟩)) || (!decide (t.kind = 4) && !decide (t.keys = [])) ||
  (if t.kind < 3 then !decide (t.kids = []) else decide (t.kind = 4) && !decide (t.keys.length = t.kids.length))
def isLong (t : Tn) : Bool := decide (1048576 < t.s.size) || t.keys.any (fun k => decide (1048576 < k.size))
def rises : List ByteArray → Bool
  | a :: b :: l => less a b && rises (b :: l)
  | _ => true
/-- a tree's own error, the level aside -/
def own (t : Tn) : Nat := if t.kind < 1 ∨ 4 < t.kind then 9 else if t.odd = true then 1 else if t.isLong = true then 5 else if rises t.keys = false then 3 else 0
mutual
def right : Tn → Nat → Nat
  | .mk k n s keys kids, ahead => if 7 < ahead then 6 else if own (.mk k n s keys kids) ≠ 0 then own (.mk k n s keys kids) else rights kids (ahead + 1)
def rights : List Tn → Nat → Nat
  | [], _ => 0
  | t :: ts, ahead => if right t ahead ≠ 0 then right t ahead else rights ts ahead
end
theorem right_eq (t : Tn) (a : Nat) : t.right a = if 7 < a then 6 else if t.own ≠ 0 then t.own else rights t.kids (a + 1) := by obtain ⟨k, n, s, l, ks⟩ := t; rw [right]; rfl
theorem rights_zero : ∀ {l : List Tn} {a : Nat}, rights l a = 0 ↔ ∀ t ∈ l, t.right a = 0
  | [], a => by rw [rights]; simp
  | t :: l, a => by
    rw [rights]
    by_cases h : t.right a = 0
    · rw [if_neg (by simpa using h), rights_zero]
      constructor
      · intro k u hu
        rcases List.mem_cons.1 hu with rfl | hu
        · exact h
        · exact k u hu
      · exact fun k u hu => k u (List.mem_cons_of_mem _ hu)
    · rw [if_pos h]
      exact ⟨fun k => absurd k h, fun k => absurd (k t List.mem_cons_self) h⟩

/-! ### what is set is got -/
theorem fits_eq {t : Tn} (h : t.fits = true) : t.kind = 4 ∧ t.keys.length = t.kids.length := by unfold fits at h; simpa using h
theorem set_found {t : Tn} {key : ByteArray} {x : Tn} (h : t.fits = true) (hp : place t.keys key < t.keys.length) : t.set key x = .mk t.kind t.n t.s t.keys (t.kids.set (place t.keys key) x) := by
  unfold set
  rw [if_neg (by rw [h]; simp), if_pos hp]
theorem set_new {t : Tn} {key : ByteArray} {x : Tn} (h : t.fits = true) (hp : ¬ place t.keys key < t.keys.length) : t.set key x = .mk t.kind t.n t.s (put t.keys (gap t.keys key) key) (put t.kids (gap t.keys key) x) := by
  unfold set
  rw [if_neg (by rw [h]; simp), if_neg hp]
theorem get_eq {t : Tn} {key : ByteArray} (hk : t.kind = 4) : t.get key = if place t.keys key < t.keys.length then t.kids[place t.keys key]? else none := by
  unfold get
  by_cases h : place t.keys key < t.keys.length
  · rw [if_pos ⟨hk, h⟩, if_pos h]
  · rw [if_neg (fun k => h k.2), if_neg h]
theorem none_is {l : List ByteArray} {key : ByteArray} (h : ¬ place l key < l.length) : ∀ i (hi : i < l.length), l[i] ≠ key := fun i hi => place_not (by have := place_le l key; omega) hi
theorem put_at {α : Type} {l : List α} {i : Nat} {x : α} (h : i ≤ l.length) : (put l i x)[i]? = some x := by rw [put_get l i x h, if_neg (by omega), if_pos rfl]
/-- where a key stands when another one was put in -/
theorem place_put {l : List ByteArray} {g : Nat} {key other : ByteArray} (hg : g ≤ l.length) (hne : other ≠ key) :
    place (put l g key) other = if place l other < g then place l other else place l other + 1 := by
  have hlen := put_length l g key hg
  have at_ : ∀ j (hj : j < (put l g key).length), some (put l g key)[j] = if j < g then l[j]? else if j = g then some key else l[j - 1]? := fun j hj => by
    rw [← put_get l g key hg j, List.getElem?_eq_getElem hj]
  have hple := place_le l other
  by_cases hp : place l other < l.length
  · have hpi := place_is hp
    by_cases h1 : place l other < g
    · rw [if_pos h1]
      refine place_first (by omega) ?_ (fun j hj => ?_)
      · have := at_ (place l other) (by omega)
        rw [if_pos h1, List.getElem?_eq_getElem hp] at this
        exact (Option.some.inj this).trans hpi
      · have := at_ j (by omega)
        rw [if_pos (by omega), List.getElem?_eq_getElem (by omega)] at this
        rw [Option.some.inj this]
        exact place_not hj (by omega)
    · rw [if_neg h1]
      refine place_first (by omega) ?_ (fun j hj => ?_)
      · have := at_ (place l other + 1) (by omega)
        rw [if_neg (by omega), if_neg (by omega), Nat.add_sub_cancel, List.getElem?_eq_getElem hp] at this
        exact (Option.some.inj this).trans hpi
      · have := at_ j (by omega)
        by_cases h2 : j < g
        · rw [if_pos h2, List.getElem?_eq_getElem (by omega)] at this
          rw [Option.some.inj this]
          exact place_not (by omega) (by omega)
        · by_cases h3 : j = g
          · rw [if_neg h2, if_pos h3] at this
            rw [Option.some.inj this]
            exact fun e => hne e.symm
          · rw [if_neg h2, if_neg h3, List.getElem?_eq_getElem (by omega)] at this
            rw [Option.some.inj this]
            exact place_not (by omega) (by omega)
  · rw [if_neg (by omega), place_none, hlen]
    · omega
    · intro k hk
      obtain ⟨j, hj, rfl⟩ := List.mem_iff_getElem.1 hk
      have := at_ j hj
      by_cases h2 : j < g
      · rw [if_pos h2, List.getElem?_eq_getElem (by omega)] at this
        rw [Option.some.inj this]
        exact none_is hp _ _
      · by_cases h3 : j = g
        · rw [if_neg h2, if_pos h3] at this
          rw [Option.some.inj this]
          exact fun e => hne e.symm
        · rw [if_neg h2, if_neg h3, List.getElem?_eq_getElem (by omega)] at this
          rw [Option.some.inj this]
          exact none_is hp _ _
theorem place_put_self {l : List ByteArray} {g : Nat} {key : ByteArray} (hg : g ≤ l.length) (hn : ∀ i (hi : i < l.length), l[i] ≠ key) : place (put l g key) key = g := by
  have hlen := put_length l g key hg
  refine place_first (by omega) ?_ (fun j hj => ?_)
  · have := put_at (x := key) hg
    rw [List.getElem?_eq_getElem (by omega)] at this
    exact Option.some.inj this
  · have := put_get l g key hg j
    rw [if_pos hj, List.getElem?_eq_getElem (by omega), List.getElem?_eq_getElem (by omega)] at this
    rw [Option.some.inj this]
    exact hn j (by omega)
theorem get_set {t : Tn} (h : t.fits = true) (key : ByteArray) (x : Tn) : (t.set key x).get key = some x := by
  obtain ⟨hk, hl⟩ := fits_eq h
  by_cases hp : place t.keys key < t.keys.length
  · rw [set_found h hp, get_eq (by exact hk)]
    show (if place t.keys key < t.keys.length then (t.kids.set (place t.keys key) x)[place t.keys key]? else none) = _
    rw [if_pos hp, List.getElem?_set, if_pos rfl, if_pos (by omega)]
  · rw [set_new h hp, get_eq (by exact hk)]
    have hg := gap_le t.keys key
    show (if place (put t.keys (gap t.keys key) key) key < (put t.keys (gap t.keys key) key).length then (put t.kids (gap t.keys key) x)[place (put t.keys (gap t.keys key) key) key]? else none) = _
    rw [place_put_self hg (none_is hp), put_length _ _ _ hg, if_pos (by omega), put_at (by omega)]
theorem get_other {t : Tn} (h : t.fits = true) {key other : ByteArray} (hne : other ≠ key) (x : Tn) : (t.set key x).get other = t.get other := by
  obtain ⟨hk, hl⟩ := fits_eq h
  by_cases hp : place t.keys key < t.keys.length
  · rw [set_found h hp, get_eq (by exact hk), get_eq hk]
    show (if place t.keys other < t.keys.length then (t.kids.set (place t.keys key) x)[place t.keys other]? else none) = _
    by_cases ho : place t.keys other < t.keys.length
    · rw [if_pos ho, if_pos ho, List.getElem?_set, if_neg (fun e => hne (by rw [← place_is hp, ← place_is ho]; simp only [e]))]
    · rw [if_neg ho, if_neg ho]
  · rw [set_new h hp, get_eq (by exact hk), get_eq hk]
    have hg := gap_le t.keys key
    show (if place (put t.keys (gap t.keys key) key) other < (put t.keys (gap t.keys key) key).length then (put t.kids (gap t.keys key) x)[place (put t.keys (gap t.keys key) key) other]? else none) = _
    rw [place_put hg hne, put_length _ _ _ hg]
    have hple := place_le t.keys other
    by_cases ho : place t.keys other < t.keys.length
    · rw [if_pos ho]
      by_cases h1 : place t.keys other < gap t.keys key
      · rw [if_pos h1, if_pos (by omega), put_get _ _ _ (by omega), if_pos h1]
      · rw [if_neg h1, if_pos (by omega), put_get _ _ _ (by omega), if_neg (by omega), if_neg (by omega), Nat.add_sub_cancel]
    · rw [if_neg ho, if_neg (show ¬ place t.keys other < gap t.keys key by omega), if_neg (by omega)]

/-! ### what may be stays so -/
theorem rises_iff : ∀ {l : List ByteArray}, rises l = true ↔ ∀ i (h : i + 1 < l.length), less l[i] l[i + 1] = true
  | [] => by simp [rises]
  | [a] => by simp [rises]
  | a :: b :: l => by
    have ih := rises_iff (l := b :: l)
    show (less a b && rises (b :: l)) = true ↔ _
    rw [Bool.and_eq_true, ih]
    constructor
    · intro h i hi
      cases i with
      | zero => exact h.1
      | succ i => exact h.2 i (by simpa using hi)
    · intro h
      exact ⟨h 0 (by simp), fun i hi => h (i + 1) (by simpa using hi)⟩
theorem rises_put {l : List ByteArray} {key : ByteArray} (h : rises l = true) (hn : ∀ i (hi : i < l.length), l[i] ≠ key) : rises (put l (gap l key) key) = true := by
  have hg := gap_le l key
  have hlen := put_length l (gap l key) key hg
  rw [rises_iff] at h ⊢
  intro i hi
  have at_ : ∀ j (hj : j < (put l (gap l key) key).length), some (put l (gap l key) key)[j] = if j < gap l key then l[j]? else if j = gap l key then some key else l[j - 1]? := fun j hj => by
    rw [← put_get l _ key hg j, List.getElem?_eq_getElem hj]
  have a1 := at_ i (by omega)
  have a2 := at_ (i + 1) hi
  rcases Nat.lt_trichotomy (i + 1) (gap l key) with h1 | h1 | h1
  · rw [if_pos (by omega), List.getElem?_eq_getElem (by omega)] at a1
    rw [if_pos h1, List.getElem?_eq_getElem (by omega)] at a2
    rw [Option.some.inj a1, Option.some.inj a2]
    exact h i (by omega)
  · rw [if_pos (by omega), List.getElem?_eq_getElem (by omega)] at a1
    rw [if_neg (by omega), if_pos h1] at a2
    rw [Option.some.inj a1, Option.some.inj a2]
    have h2 : less key l[i] = false := by
      have : i < l.findIdx (fun k => less key k) := by show i < gap l key; omega
      simpa using List.not_of_lt_findIdx this
    cases h3 : less l[i] key
    · exact absurd (less_total h3 h2) (hn i (by omega))
    · rfl
  · by_cases h2 : i = gap l key
    · have hgl : gap l key < l.length := by omega
      have h3 : less key l[gap l key] = true := List.findIdx_getElem (w := hgl)
      rw [if_neg (by omega), if_pos h2] at a1
      rw [if_neg (by omega), if_neg (by omega), Nat.add_sub_cancel, List.getElem?_eq_getElem (by omega)] at a2
      rw [Option.some.inj a1, Option.some.inj a2]
      simp only [h2]
      exact h3
    · rw [if_neg (by omega), if_neg h2, List.getElem?_eq_getElem (by omega)] at a1
      rw [if_neg (by omega), if_neg (by omega), Nat.add_sub_cancel, List.getElem?_eq_getElem (by omega)] at a2
      rw [Option.some.inj a1, Option.some.inj a2]
      have := h (i - 1) (by omega)
      simpa [show i - 1 + 1 = i by omega] using this
theorem own_zero {t : Tn} : t.own = 0 ↔ (1 ≤ t.kind ∧ t.kind ≤ 4) ∧ t.odd = false ∧ t.isLong = false ∧ rises t.keys = true := by
  unfold own
  by_cases h1 : t.kind < 1 ∨ 4 < t.kind
  · rw [if_pos h1]; constructor
    · intro h; cases h
    · intro h; omega
  · rw [if_neg h1]
    cases h2 : t.odd <;> cases h3 : t.isLong <;> cases h4 : rises t.keys <;> simp
    omega
theorem mem_put {α : Type} {l : List α} {i : Nat} {x y : α} (h : y ∈ put l i x) : y = x ∨ y ∈ l := by
  unfold put at h
  rcases List.mem_append.1 h with h | h
  · exact .inr (List.mem_of_mem_take h)
  · rcases List.mem_cons.1 h with h | h
    · exact .inl h
    · exact .inr (List.mem_of_mem_drop h)
theorem odd_four {t : Tn} (hk : t.kind = 4) : t.odd = false ↔ t.n = 0 ∧ t.s = ⟨#[]⟩ ∧ t.keys.length = t.kids.length := by
  unfold odd
  rw [hk]
  simp [and_assoc]
theorem right_set {t : Tn} (h : t.fits = true) (hr : t.right 0 = 0) {key : ByteArray} (hs : key.size ≤ 1048576) {x : Tn} (hx : x.right 1 = 0) : (t.set key x).right 0 = 0 := by
  obtain ⟨hk, hl⟩ := fits_eq h
  rw [right_eq, if_neg (by omega)] at hr
  have ho : t.own = 0 := by
    by_cases ho : t.own = 0
    · exact ho
    · rw [if_pos ho] at hr; exact hr
  rw [if_neg (by simpa using ho), rights_zero] at hr
  obtain ⟨o1, o2, o3, o4⟩ := own_zero.1 ho
  obtain ⟨q1, q2, _⟩ := (odd_four hk).1 o2
  rw [right_eq, if_neg (by omega)]
  by_cases hp : place t.keys key < t.keys.length
  · rw [set_found h hp]
    have hO : (Tn.mk t.kind t.n t.s t.keys (t.kids.set (place t.keys key) x)).own = 0 := own_zero.2 ⟨o1, (odd_four (by exact hk)).2 ⟨q1, q2, by show t.keys.length = (t.kids.set _ x).length; rw [List.length_set]; exact hl⟩, o3, o4⟩
    rw [hO, if_neg (by simp), rights_zero]
    intro u hu
    rcases List.mem_or_eq_of_mem_set hu with hu | rfl
    · exact hr u hu
    · exact hx
  · rw [set_new h hp]
    have hg := gap_le t.keys key
    have hO : (Tn.mk t.kind t.n t.s (put t.keys (gap t.keys key) key) (put t.kids (gap t.keys key) x)).own = 0 := by
      refine own_zero.2 ⟨o1, (odd_four (by exact hk)).2 ⟨q1, q2, ?_⟩, ?_, rises_put o4 (none_is hp)⟩
      · show (put t.keys (gap t.keys key) key).length = (put t.kids (gap t.keys key) x).length
        rw [put_length _ _ _ hg, put_length _ _ _ (by omega), hl]
      · unfold isLong at o3 ⊢
        rw [Bool.or_eq_false_iff, List.any_eq_false] at o3 ⊢
        refine ⟨o3.1, fun k hk2 => ?_⟩
        rcases mem_put hk2 with rfl | hk2
        · simpa using hs
        · exact o3.2 k hk2
    rw [hO, if_neg (by simp), rights_zero]
    intro u hu
    rcases mem_put hu with rfl | hu
    · exact hx
    · exact hr u hu
/-- a list of one -/
theorem right_one {x : Tn} : (Tn.mk 3 0 ⟨#[]⟩ [] [x]).right 0 = 0 ↔ x.right 1 = 0 := by
  have hO : (Tn.mk 3 0 ⟨#[]⟩ [] [x]).own = 0 := own_zero.2 ⟨⟨by show (1 : Int) ≤ 3; decide, by show (3 : Int) ≤ 4; decide⟩, rfl, rfl, rfl⟩
  rw [right_eq, if_neg (by omega), hO, if_neg (by simp), rights_zero]
  show (∀ t ∈ [x], t.right 1 = 0) ↔ _
  simp
end Tn
end Go.Proofs.YtldjdoebappkoaaGreatDoor
/- Trees as memory: values that are read, and an argument that is a tree. -/
namespace Go.Proofs.YtldjdoebappkoaaGreatDoor
open Go.RowKit Go.ChangeShapes Go.WideShapes
set_option linter.unusedVariables false
set_option maxRecDepth 100000

/-- the slice with address A holds the strings l, in a block below B -/
def Sc (w : World) (B : Nat) (A : Option Addr) (l : List ByteArray) : Prop := ∀ i (h : i < l.length), ∃ b off, A = some ⟨b, off, none⟩ ∧ b < B ∧ w.cell? ⟨b, off + i, none⟩ = some (.string l[i])
/-- the value is a slice of the strings l -/
def Sk (w : World) (B : Nat) (v : Value) (l : List ByteArray) : Prop := ∃ A c, v = .slice A l.length c ∧ Sc w B A l ∧ l.length ≤ c ∧ c ≤ maxLen ∧ (A = none → c = 0) ∧ ∀ s ∈ l, s.size ≤ maxLen
/-- five cells hold the tree t, with the slices vk and vq -/
structure Cell5 (w : World) (b o : Nat) (t : Tn) (vk vq : Value) : Prop where
  c0 : w.cell? ⟨b, o, none⟩ = some (.int .i64 t.kind)
  c1 : w.cell? ⟨b, o + 1, none⟩ = some (.int .i64 t.n)
  c2 : w.cell? ⟨b, o + 2, none⟩ = some (.string t.s)
  c3 : w.cell? ⟨b, o + 3, none⟩ = some vk
  c4 : w.cell? ⟨b, o + 4, none⟩ = some vq
/-- the slices vk and vq are those of the tree t; all lies in blocks below B -/
inductive Tv (w : World) (B : Nat) : Tn → Value → Value → Prop
  | mk {k n : Int} {s : ByteArray} {keys : List ByteArray} {kids : List Tn} {vk : Value} {A : Option Addr} {c : Nat} (K Q : Nat → Value)
      (rk : -9223372036854775808 ≤ k ∧ k ≤ 9223372036854775807) (rn : -9223372036854775808 ≤ n ∧ n ≤ 9223372036854775807) (rs : s.size ≤ maxLen)
      (hk : Sk w B vk keys) (hl : kids.length ≤ c) (hm : c ≤ maxLen) (hn : A = none → c = 0)
      (hc : ∀ i (h : i < kids.length), ∃ b off, A = some ⟨b, off, none⟩ ∧ b < B ∧ Cell5 w b (off + i * 5) kids[i] (K i) (Q i))
      (ht : ∀ i (h : i < kids.length), Tv w B kids[i] (K i) (Q i)) : Tv w B (.mk k n s keys kids) vk (.slice A kids.length c)
section
variable {w w' : World} {B B' : Nat} {t : Tn} {vk vq : Value} {l : List ByteArray} {A : Option Addr} {b o : Nat}
theorem Sc.below (h : Sc w B A l) (hb : Below B w w') : Sc w' B A l := fun i hi => by
  obtain ⟨b, off, e, hB, hc⟩ := h i hi
  exact ⟨b, off, e, hB, (hb.cell hB).trans hc⟩
theorem Sc.more (h : Sc w B A l) (hB : B ≤ B') : Sc w B' A l := fun i hi => by
  obtain ⟨b, off, e, h1, hc⟩ := h i hi
  exact ⟨b, off, e, by omega, hc⟩
theorem Sk.below {v : Value} (h : Sk w B v l) (hb : Below B w w') : Sk w' B v l := by obtain ⟨A, c, h1, h2, h3⟩ := h; exact ⟨A, c, h1, h2.below hb, h3⟩
theorem Sk.more {v : Value} (h : Sk w B v l) (hB : B ≤ B') : Sk w B' v l := by obtain ⟨A, c, h1, h2, h3⟩ := h; exact ⟨A, c, h1, h2.more hB, h3⟩
theorem Sk.nil (w : World) (B : Nat) : Sk w B (.slice none 0 0) [] := ⟨none, 0, rfl, fun i hi => by simp at hi, by simp, by unfold maxLen; omega, fun _ => rfl, fun s hs => by cases hs⟩
theorem Cell5.below (h : Cell5 w b o t vk vq) (hb : Below B w w') (hB : b < B) : Cell5 w' b o t vk vq :=
  ⟨(hb.cell (p := ⟨b, o, none⟩) hB).trans h.c0, (hb.cell (p := ⟨b, o + 1, none⟩) hB).trans h.c1, (hb.cell (p := ⟨b, o + 2, none⟩) hB).trans h.c2, (hb.cell (p := ⟨b, o + 3, none⟩) hB).trans h.c3, (hb.cell (p := ⟨b, o + 4, none⟩) hB).trans h.c4⟩
theorem Tv.keep (h : Tv w B t vk vq) (hb : Below B w w') : Tv w' B t vk vq := by
  induction h with
  | mk K Q rk rn rs hk hl hm hn hc ht ih =>
    refine .mk K Q rk rn rs (hk.below hb) hl hm hn (fun i hi => ?_) ih
    obtain ⟨b, off, e, hB, h5⟩ := hc i hi
    exact ⟨b, off, e, hB, h5.below hb hB⟩
theorem Tv.more (h : Tv w B t vk vq) (hB : B ≤ B') : Tv w B' t vk vq := by
  induction h with
  | mk K Q rk rn rs hk hl hm hn hc ht ih =>
    refine .mk K Q rk rn rs (hk.more hB) hl hm hn (fun i hi => ?_) ih
    obtain ⟨b, off, e, h1, h5⟩ := hc i hi
    exact ⟨b, off, e, by omega, h5⟩
theorem Tv.keys (h : Tv w B t vk vq) : Sk w B vk t.keys := by cases h; assumption
theorem Tv.kind (h : Tv w B t vk vq) : -9223372036854775808 ≤ t.kind ∧ t.kind ≤ 9223372036854775807 := by cases h; assumption
theorem Tv.num (h : Tv w B t vk vq) : -9223372036854775808 ≤ t.n ∧ t.n ≤ 9223372036854775807 := by cases h; assumption
theorem Tv.str (h : Tv w B t vk vq) : t.s.size ≤ maxLen := by cases h; assumption
/-- the kids, with their slices -/
theorem Tv.kids (h : Tv w B t vk vq) : ∃ A c, vq = .slice A t.kids.length c ∧ t.kids.length ≤ c ∧ c ≤ maxLen ∧ (A = none → c = 0) ∧ ∃ K Q : Nat → Value, ∀ i (h : i < t.kids.length), ∃ b off, A = some ⟨b, off, none⟩ ∧ b < B ∧ Cell5 w b (off + i * 5) t.kids[i] (K i) (Q i) ∧ Tv w B t.kids[i] (K i) (Q i) := by
  cases h with
  | mk K Q rk rn rs hk hl hm hn hc ht => exact ⟨_, _, rfl, hl, hm, hn, K, Q, fun i hi => by obtain ⟨b, off, e, hB, h5⟩ := hc i hi; exact ⟨b, off, e, hB, h5, ht i hi⟩⟩
end
/-- a slice of trees -/
def Kv (w : World) (B : Nat) (v : Value) (l : List Tn) : Prop := ∃ A c, v = .slice A l.length c ∧ l.length ≤ c ∧ c ≤ maxLen ∧ (A = none → c = 0) ∧ ∃ K Q : Nat → Value, ∀ i (h : i < l.length), ∃ b off, A = some ⟨b, off, none⟩ ∧ b < B ∧ Cell5 w b (off + i * 5) l[i] (K i) (Q i) ∧ Tv w B l[i] (K i) (Q i)
theorem Tv.kv {w : World} {B : Nat} {t : Tn} {vk vq : Value} (h : Tv w B t vk vq) : Kv w B vq t.kids := h.kids
theorem Tv.of {w : World} {B : Nat} {t : Tn} {vk vq : Value} (h1 : -9223372036854775808 ≤ t.kind ∧ t.kind ≤ 9223372036854775807) (h2 : -9223372036854775808 ≤ t.n ∧ t.n ≤ 9223372036854775807) (h3 : t.s.size ≤ maxLen) (h4 : Sk w B vk t.keys) (h5 : Kv w B vq t.kids) : Tv w B t vk vq := by
  obtain ⟨k, n, s, keys, kids⟩ := t
  obtain ⟨A, c, rfl, a1, a2, a3, K, Q, hK⟩ := h5
  refine .mk K Q h1 h2 h3 h4 a1 a2 a3 (fun i hi => ?_) (fun i hi => ?_)
  · obtain ⟨b, off, e, hB, h6, _⟩ := hK i hi
    exact ⟨b, off, e, hB, h6⟩
  · obtain ⟨b, off, e, hB, _, h7⟩ := hK i hi
    exact h7
theorem Kv.below {w w' : World} {B : Nat} {v : Value} {l : List Tn} (h : Kv w B v l) (hb : Below B w w') : Kv w' B v l := by
  obtain ⟨A, c, h1, h2, h3, h4, K, Q, hK⟩ := h
  refine ⟨A, c, h1, h2, h3, h4, K, Q, fun i hi => ?_⟩
  obtain ⟨b, off, e, hB, h5, h6⟩ := hK i hi
  exact ⟨b, off, e, hB, h5.below hb hB, h6.keep hb⟩
theorem Kv.more {w : World} {B B' : Nat} {v : Value} {l : List Tn} (h : Kv w B v l) (hB : B ≤ B') : Kv w B' v l := by
  obtain ⟨A, c, h1, h2, h3, h4, K, Q, hK⟩ := h
  refine ⟨A, c, h1, h2, h3, h4, K, Q, fun i hi => ?_⟩
  obtain ⟨b, off, e, h0, h5, h6⟩ := hK i hi
  exact ⟨b, off, e, by omega, h5, h6.more hB⟩
theorem Kv.nil (w : World) (B : Nat) : Kv w B (.slice none 0 0) [] := ⟨none, 0, rfl, by simp, by unfold maxLen; omega, fun _ => rfl, fun _ => .bool false, fun _ => .bool false, fun i hi => by simp at hi⟩

/-! ### an argument that is a tree -/
theorem tree_field {H : Type} {enc : TypeId × Value → H} {P : Program} {w : World} {base : Nat} {spare : Nat → Bool} {held : Bool} {n : Nat} {fs : Array Field} {cs : List Value} {xs : List (DataW H × List MemPlace)}
    (hx : ∀ (i : Nat) (f : Field), fs[i]? = some f → DataW.trod enc P w base spare held n f.type ((cs.drop f.offset).take (P.cellsOf f.type)) = xs[i]?) (i : Nat) (f : Field) (hi : fs[i]? = some f) (ty off c : Nat) (h1 : f.type = ty) (h2 : f.offset = off) (h3 : P.cellsOf ty = c) :
    DataW.trod enc P w base spare held n ty ((cs.drop off).take c) = xs[i]? := by
  subst h1 h2 h3
  exact hx i f hi
section
variable {H : Type} {enc : TypeId × Value → H} {w : World} {base : Nat} {spare : Nat → Bool} {held : Bool}
theorem open_each {P : Program} {t e : TypeId} {fuel : Nat} {cs : List Value} {x : DataW H × List MemPlace} (ht : P.underlying t = some (.slice e)) (h : DataW.trod enc P w base spare held fuel t cs = some x) :
    cs = [.slice none 0 0] ∨ ∃ (a : Addr) (len cap n : Nat), fuel = n + 1 ∧ cs = [.slice (some a) len cap] ∧ len ≤ cap ∧ cap ≤ maxLen ∧ ∀ i, i < len → ∃ cs' y, w.cells? base (a.add (i * P.cellsOf e)) (P.cellsOf e) = some cs' ∧ DataW.trod enc P w base spare held n e cs' = some y := by
  rcases DataW.trod_slice ht h with h0 | ⟨a, len, cap, elems, rest, n, hf, rfl, rfl, hb, hl, hm, hlen, hel, hsp, hns⟩
  · exact .inl h0.1
  · refine .inr ⟨a, len, cap, n, hf, rfl, hl, hm, fun i hi => ?_⟩
    have h1 := hel i hi
    rw [List.getElem?_eq_getElem (by omega)] at h1
    obtain ⟨cs', h2, h3⟩ := Option.bind_eq_some_iff.1 h1
    exact ⟨cs', _, h2, h3⟩
theorem spot_of {a : Addr} {v : Value} (h : w.cell? a = some v) : ∃ b off, a = ⟨b, off, none⟩ ∧ b < w.heap.size := by
  obtain ⟨b, off, spot⟩ := a
  have hs : spot = none := by simpa using World.cell?_spot h
  subst hs
  refine ⟨b, off, rfl, ?_⟩
  rcases Nat.lt_or_ge b w.heap.size with h1 | h1
  · exact h1
  · simp [World.cell?, Array.getElem?_eq_none h1] at h
theorem add_plain (b off j : Nat) : (⟨b, off, none⟩ : Addr).add j = ⟨b, off + j, none⟩ := by unfold Addr.add; split <;> simp_all
theorem open_strs {P : Program} {t e : TypeId} {fuel : Nat} {cs : List Value} {x : DataW H × List MemPlace} (ht : P.underlying t = some (.slice e)) (he : P.underlying e = some .string) (ce : P.cellsOf e = 1) (h : DataW.trod enc P w base spare held fuel t cs = some x) : ∃ v l, cs = [v] ∧ Sk w w.heap.size v l := by
  rcases open_each ht h with rfl | ⟨a, len, cap, n, _, rfl, hl, hm, hx⟩
  · exact ⟨_, [], rfl, Sk.nil _ _⟩
  · rw [ce] at hx
    have each : ∀ i, i < len → ∃ s : ByteArray, w.cell? (a.add i) = some (.string s) ∧ s.size ≤ maxLen := fun i hi => by
      obtain ⟨cs', y, h1, h2⟩ := hx i hi
      obtain ⟨s, rfl, _, hs⟩ := DataW.trod_string he h2
      rw [Nat.mul_one] at h1
      exact ⟨s, cell_of_cells?_one h1, hs⟩
    haveI : Inhabited ByteArray := ⟨⟨#[]⟩⟩
    obtain ⟨q, hq⟩ := Go.Deep.choose_lt each
    refine ⟨_, (List.range len).map q, rfl, some a, cap, by simp, ?_, by simpa using hl, hm, (fun h => by cases h), ?_⟩
    · intro i hi
      have hi' : i < len := by simpa using hi
      have h0 := (hq i hi').1
      obtain ⟨b0, off0, e0, hb0⟩ := spot_of h0
      obtain ⟨b, off, spot⟩ := a
      have : spot = none := by simpa [Addr.add] using World.cell?_spot (hq 0 (by omega)).1
      subst this
      rw [add_plain] at h0 e0
      injection e0 with e1 _ _
      subst e1
      exact ⟨b, off, rfl, hb0, by simpa using h0⟩
    · intro s hs
      obtain ⟨i, hi, rfl⟩ := List.mem_map.1 hs
      exact (hq i (List.mem_range.1 hi)).2
theorem cells_tree : Tryz.prog.cellsOf 25 = 5 := by kernel_rfl
theorem open_tree_cells : ∀ (fuel : Nat) {cs : List Value} {x : DataW H × List MemPlace}, DataW.trod enc Tryz.prog w base spare held fuel 25 cs = some x → ∃ t vk vq, cs = [.int .i64 (Tn.kind t), .int .i64 t.n, .string t.s, vk, vq] ∧ Tv w w.heap.size t vk vq := by
  intro fuel
  induction fuel using Nat.strongRecOn with
  | ind fuel ih =>
    intro cs x h
    obtain ⟨xs, n, hf, _, hcl, hlen, hx⟩ := DataW.trod_struct Tryz.underlying25 h
    rw [cells_tree] at hcl
    match cs, hcl with
    | [c0, c1, c2, c3, c4], _ =>
    match xs, hlen with
    | [x0, x1, x2, x3, x4], _ =>
    have one : ∀ t, t ∈ [3, 2, 9, 22, 23] → Tryz.prog.cellsOf t = 1 := by
      intro t ht
      simp at ht
      rcases ht with rfl | rfl | rfl | rfl | rfl <;> kernel_rfl
    have h0 : DataW.trod enc Tryz.prog w base spare held n 3 [c0] = some x0 := tree_field hx 0 _ rfl 3 0 1 rfl rfl (one _ (by decide))
    have h1 : DataW.trod enc Tryz.prog w base spare held n 2 [c1] = some x1 := tree_field hx 1 _ rfl 2 1 1 rfl rfl (one _ (by decide))
    have h2 : DataW.trod enc Tryz.prog w base spare held n 9 [c2] = some x2 := tree_field hx 2 _ rfl 9 2 1 rfl rfl (one _ (by decide))
    have h3 : DataW.trod enc Tryz.prog w base spare held n 22 [c3] = some x3 := tree_field hx 3 _ rfl 22 3 1 rfl rfl (one _ (by decide))
    have h4 : DataW.trod enc Tryz.prog w base spare held n 23 [c4] = some x4 := tree_field hx 4 _ rfl 23 4 1 rfl rfl (one _ (by decide))
    obtain ⟨z0, e0, _, w0⟩ := DataW.trod_int Tryz.underlying3 h0
    obtain ⟨z1, e1, _, w1⟩ := DataW.trod_int Tryz.underlying2 h1
    obtain ⟨z2, e2, _, w2⟩ := DataW.trod_string Tryz.underlying9 h2
    obtain ⟨vk, lk, ek, hk⟩ := open_strs Tryz.underlying22 Tryz.underlying9 (one _ (by decide)) h3
    have b0 := bounds_i64 w0
    have b1 := bounds_i64 w1
    have hkids : ∃ vq l, [c4] = [vq] ∧ Kv w w.heap.size vq l := by
      rcases open_each Tryz.underlying23 h4 with e | ⟨a, len, cap, n', hn', e, hl, hm, hy⟩
      · exact ⟨_, [], e, Kv.nil _ _⟩
      · rw [cells_tree] at hy
        have each : ∀ i, i < len → ∃ q : Tn × Value × Value, (∀ j (u : Value), [Value.int .i64 q.1.kind, .int .i64 q.1.n, .string q.1.s, q.2.1, q.2.2][j]? = some u → w.cell? ((a.add (i * 5)).add j) = some u) ∧ Tv w w.heap.size q.1 q.2.1 q.2.2 := fun i hi => by
          obtain ⟨cs', y, k1, k2⟩ := hy i hi
          obtain ⟨t, vk', vq', rfl, ht⟩ := ih n' (by omega) k2
          obtain ⟨_, _, hcell⟩ := World.cells?_some k1
          refine ⟨(t, vk', vq'), fun j u hu => ?_, ht⟩
          have hj : j < 5 := by
            rcases Nat.lt_or_ge j 5 with h | h
            · exact h
            · rw [List.getElem?_eq_none (by simpa using h)] at hu; cases hu
          rw [hcell j hj]
          exact hu
        haveI : Inhabited (Tn × Value × Value) := ⟨(.mk 0 0 ⟨#[]⟩ [] [], .bool false, .bool false)⟩
        obtain ⟨q, hq⟩ := Go.Deep.choose_lt each
        refine ⟨_, (List.range len).map (fun i => (q i).1), e, some a, cap, by simp, by simpa using hl, hm, (fun h => by cases h), fun i => (q i).2.1, fun i => (q i).2.2, fun i hi => ?_⟩
        have hi' : i < len := by simpa using hi
        obtain ⟨k1, k2⟩ := hq i hi'
        obtain ⟨b, off, spot⟩ := a
        have : spot = none := by simpa [Addr.add] using World.cell?_spot ((hq 0 (by omega)).1 0 _ rfl)
        subst this
        have key : ∀ j u, [Value.int .i64 (q i).1.kind, .int .i64 (q i).1.n, .string (q i).1.s, (q i).2.1, (q i).2.2][j]? = some u → w.cell? ⟨b, off + i * 5 + j, none⟩ = some u := fun j u hu => by
          have := k1 j u hu
          rwa [add_plain, add_plain] at this
        have g0 := key 0 _ rfl
        obtain ⟨b0, off0, e0, hb0⟩ := spot_of g0
        injection e0 with e1 _ _
        subst e1
        have hget : ((List.range len).map (fun i => (q i).1))[i] = (q i).1 := by simp
        refine ⟨b, off, rfl, hb0, ?_, ?_⟩
        · rw [hget]
          exact ⟨g0, key 1 _ rfl, key 2 _ rfl, key 3 _ rfl, key 4 _ rfl⟩
        · rw [hget]; exact k2
    obtain ⟨vq, lq, eq, hq⟩ := hkids
    simp only [List.cons.injEq, and_true] at e0 e1 e2 ek eq
    subst e0 e1 e2 ek eq
    exact ⟨.mk z0 z1 z2 lk lq, c3, c4, rfl, Tv.of b0 b1 w2 hk hq⟩
/-- an argument that is a tree -/
theorem open_tree {r : Reach} {b0 : Nat} {v : Value} {d : DataW H} {ps : List MemPlace}
    (hv : Value.okWide Tryz.prog w r b0 25 v) (hd : DataW.Trod enc Tryz.prog w base spare held 25 v d ps) : ∃ t vk vq, v = .agg #[.int .i64 (Tn.kind t), .int .i64 t.n, .string t.s, vk, vq] ∧ Tv w w.heap.size t vk vq := by
  obtain ⟨cs, rfl, hsz, _⟩ : ∃ cs, v = .agg cs ∧ cs.size = Tryz.prog.cellsOf 25 ∧ Row.okWide Tryz.prog w r b0 25 cs := by simpa [Value.okWide, Tryz.underlying25] using hv
  obtain ⟨fuel, hf⟩ := hd
  obtain ⟨t, vk, vq, e, h⟩ := open_tree_cells fuel hf
  refine ⟨t, vk, vq, ?_, h⟩
  have e2 : cs.toList = _ := e
  rw [← Array.toArray_toList (xs := cs), e2]
end
end Go.Proofs.YtldjdoebappkoaaGreatDoor
/- Contracts of the reference's functions of layer 11 over strings: texts, Less, place. -/
namespace Go.Proofs.YtldjdoebappkoaaGreatDoor
open Go.RowKit
set_option linter.unusedVariables false
set_option maxRecDepth 100000

theorem txt_eq (a b : ByteArray) : (a.toList == b.toList) = decide (a = b) := by
  rw [Bool.eq_iff_iff, beq_iff_eq, decide_eq_true_iff]
  exact ⟨fun h => toList_inj h, fun h => by rw [h]⟩
theorem any_eq {α : Type} {a b : List α} (hl : a.length = b.length) (h : ∀ j (ha : j < a.length) (hb : j < b.length), a[j] = b[j]) : a = b := List.ext_getElem hl fun i h1 h2 => h i h1 h2
theorem any_neq {α : Type} {a b : List α} {i : Nat} (ha : i < a.length) (hb : i < b.length) (h : ¬ a[i] = b[i]) : ¬ a = b := by
  intro e
  subst e
  exact h rfl
theorem drewn_below {B : Nat} {a w : World} (h : Below B a w) (n : Nat) : Below B a (w.drewN n) := ⟨h.os, h.tape, h.output, h.size, h.block⟩
theorem lt_of_cell {w : World} {b o : Nat} {v : Value} (h : w.cell? ⟨b, o, none⟩ = some v) : b < w.heap.size := by
  obtain ⟨_, _, e, hb⟩ := spot_of h
  injection e with e _ _
  omega
theorem Sc.all {w : World} {B : Nat} {A : Option Addr} {l : List ByteArray} (h : Sc w B A l) : Sc w w.heap.size A l := fun i hi => by
  obtain ⟨b, off, e, _, hc⟩ := h i hi
  exact ⟨b, off, e, lt_of_cell hc, hc⟩
theorem Sk.all {w : World} {B : Nat} {v : Value} {l : List ByteArray} (h : Sk w B v l) : Sk w w.heap.size v l := by obtain ⟨A, c, h1, h2, h3⟩ := h; exact ⟨A, c, h1, h2.all, h3⟩
theorem Tv.all {w : World} {B : Nat} {t : Tn} {vk vq : Value} (h : Tv w B t vk vq) : Tv w w.heap.size t vk vq := by
  induction h with
  | mk K Q rk rn rs hk hl hm hn hc ht ih =>
    refine .mk K Q rk rn rs hk.all hl hm hn (fun i hi => ?_) ih
    obtain ⟨b, off, e, _, h5⟩ := hc i hi
    exact ⟨b, off, e, lt_of_cell h5.c0, h5⟩

theorem rtexts11_any {w : World} {B C : Nat} {va vb : Value} {la lb : List ByteArray} (Ha : Sk w B va la) (Hb : Sk w C vb lb) :
    Calls Tryz.prog 58 #[va, vb] w fun e w' => e = .returned (.bool (decide (la = lb))) ∧ Below w.heap.size w w' := by
  obtain ⟨Aa, ca, rfl, Ta, h1, h2, _, _⟩ := Ha
  obtain ⟨Ab, cb, rfl, Tb, h3, h4, _, _⟩ := Hb
  have TA := Lib.hid Ta.all
  have TB := Lib.hid Tb.all
  unfold maxLen at h2 h4
  obtain ⟨n, hn⟩ : ∃ n, Hid (la.length = n) := ⟨_, rfl⟩
  obtain ⟨k, hk⟩ : ∃ k, Hid (lb.length = k) := ⟨_, rfl⟩
  rw [hn.out] at h1 ⊢
  rw [hk.out] at h3 ⊢
  clear Ta Tb
  by_cases hnk : n = k
  · subst hnk
    go_enter Tryz.func58, Tryz.ntmps58
    go_wp2_with fail
    go_loopw [5] (fun v wr => ∃ (i : Nat), i ≤ n ∧ v = .int .i64 i ∧ Hid (Below w.heap.size w wr) ∧ Hid (∀ j, j < i → ∀ (ha : j < la.length) (hb : j < lb.length), la[j] = lb[j])) (fun v _ => n - (intOf v).toNat)
    case atStart => exact ⟨0, by omega, rfl, Lib.hid (Below.refl _ _), Lib.hid (fun j hj => by omega)⟩
    case round =>
      obtain ⟨i, hi, rfl, HB, HI⟩ := hrel
      by_cases hlt : i < n
      · have hia : i < la.length := by rw [hn.out]; exact hlt
        have hib : i < lb.length := by rw [hk.out]; exact hlt
        obtain ⟨b1, o1, rfl, _, d0⟩ := TA.out.below HB.out i hia
        obtain ⟨b2, o2, rfl, _, d2⟩ := TB.out.below HB.out i hib
        have HN := Lib.hid (fun (h : ¬ la[i] = lb[i]) => any_neq hia hib h)
        have HS : Hid (la[i] = lb[i] → ∀ j, j < i + 1 → ∀ (ha : j < la.length) (hb : j < lb.length), la[j] = lb[j]) := Lib.hid (fun h j hj ha hb => by
          by_cases e : j = i
          · subst e; exact h
          · exact HI.out j (by omega) ha hb)
        obtain ⟨p, hp⟩ : ∃ p, Hid (la[i] = p) := ⟨la[i], Lib.hid rfl⟩
        obtain ⟨q, hq⟩ : ∃ q, Hid (lb[i] = q) := ⟨lb[i], Lib.hid rfl⟩
        rw [hp.out] at d0 HN HS
        rw [hq.out] at d2 HN HS
        have hs := txt_eq p q
        by_cases hpq : p = q
        · rw [decide_eq_true hpq] at hs
          have HS' := Lib.hid (HS.out hpq)
          clear HS HN HI hpq
          go_wp2_with fail
          go_quiet (fail)
          go_wp2_with fail
          go_roundw
          case rel => exact ⟨i + 1, by omega, by go_num, Lib.hid (drewn_below HB.out _), HS'⟩
          case measure => simp [intOf]; omega
        · rw [decide_eq_false hpq] at hs
          have HN' := Lib.hid (HN.out hpq)
          clear HS HN HI hpq
          go_wp2_with fail
          go_quiet (fail)
          go_wp2_with fail
          go_ret
          exact ⟨ret_bool (by rw [decide_eq_false HN'.out]), drewn_below HB.out _⟩
      · have HE : Hid (la = lb) := Lib.hid (any_eq (by rw [hn.out, hk.out]) fun j ha hb => HI.out j (by have := hn.out; omega) ha hb)
        go_wp2_with fail
        go_ret
        exact ⟨ret_bool (by rw [decide_eq_true HE.out]), HB.out⟩
  · have HE : Hid (¬ la = lb) := Lib.hid (fun e => hnk (by rw [← hn.out, ← hk.out, e]))
    go_enter Tryz.func58, Tryz.ntmps58
    go_wp2_with fail
    go_ret
    exact ⟨ret_bool (by rw [decide_eq_false HE.out]), Below.refl _ _⟩

/-! ### byte by byte -/
theorem Tn.lessL_drop : ∀ {a b : List Nat} {j : Nat}, j ≤ a.length → j ≤ b.length → (∀ i, i < j → a.getD i 0 = b.getD i 0) → Tn.lessL a b = Tn.lessL (a.drop j) (b.drop j)
  | a, b, 0, _, _, _ => rfl
  | [], _, j + 1, h, _, _ => by simp at h
  | _ :: _, [], j + 1, _, h, _ => by simp at h
  | x :: a, y :: b, j + 1, h1, h2, h => by
    have h0 : x = y := h 0 (by omega)
    subst h0
    show (if x = x then Tn.lessL a b else decide (x < x)) = Tn.lessL (a.drop j) (b.drop j)
    rw [if_pos rfl]
    exact Tn.lessL_drop (by simpa using h1) (by simpa using h2) (fun i hi => h (i + 1) (by omega))
theorem Tn.lessL_at {a b : List Nat} {j : Nat} (h1 : j < a.length) (h2 : j < b.length) (h : ∀ i, i < j → a.getD i 0 = b.getD i 0) (hne : a.getD j 0 ≠ b.getD j 0) : Tn.lessL a b = decide (a.getD j 0 < b.getD j 0) := by
  rw [Tn.lessL_drop (by omega) (by omega) h, List.drop_eq_getElem_cons h1, List.drop_eq_getElem_cons h2]
  have e1 : a.getD j 0 = a[j] := by simp [List.getD, List.getElem?_eq_getElem h1]
  have e2 : b.getD j 0 = b[j] := by simp [List.getD, List.getElem?_eq_getElem h2]
  rw [e1, e2] at hne ⊢
  show (if a[j] = b[j] then _ else _) = _
  rw [if_neg hne]
theorem Tn.lessL_end {a b : List Nat} {j : Nat} (h1 : j ≤ a.length) (h2 : j ≤ b.length) (h3 : j = a.length ∨ j = b.length) (h : ∀ i, i < j → a.getD i 0 = b.getD i 0) : Tn.lessL a b = decide (a.length < b.length) := by
  rw [Tn.lessL_drop h1 h2 h]
  by_cases hb : b.length ≤ j
  · rw [List.drop_eq_nil_of_le hb]
    have : Tn.lessL (a.drop j) [] = false := by cases a.drop j <;> rfl
    rw [this]
    exact (decide_eq_false (by omega)).symm
  · rw [List.drop_eq_nil_of_le (show a.length ≤ j by omega), List.drop_eq_getElem_cons (show j < b.length by omega)]
    exact (decide_eq_true (by omega)).symm

theorem rless_any (a b : ByteArray) (ha : a.size ≤ 9223372036854775807) (hb : b.size ≤ 9223372036854775807) (w : World) :
    Calls Tryz.prog 83 #[.string a, .string b] w fun e w' => e = .returned (.bool (Tn.less a b)) ∧ Below w.heap.size w w' := by
  have TA := Txt.nums a
  have TB := Txt.nums b
  have HL : Hid (Tn.less a b = Tn.lessL (nums a) (nums b)) := rfl
  have HbA := Lib.hid TA.byte
  have HbB := Lib.hid TB.byte
  have HatA := Lib.hid TA.at_
  have HatB := Lib.hid TB.at_
  have hza := TA.size
  have hzb := TB.size
  obtain ⟨la, hla⟩ : ∃ la, Hid (nums a = la) := ⟨_, rfl⟩
  obtain ⟨lb, hlb⟩ : ∃ lb, Hid (nums b = lb) := ⟨_, rfl⟩
  rw [hla.out] at HL HbA HatA hza
  rw [hlb.out] at HL HbB HatB hzb
  rw [HL.out]
  obtain ⟨n, hn⟩ : ∃ n, Hid (la.length = n) := ⟨_, rfl⟩
  obtain ⟨k, hk⟩ : ∃ k, Hid (lb.length = k) := ⟨_, rfl⟩
  rw [hn.out] at hza
  rw [hk.out] at hzb
  rw [hza] at ha
  rw [hzb] at hb
  clear TA TB
  go_enter Tryz.func83, Tryz.ntmps83
  go_wp2_with fail
  go_loopw [5] (fun v wr => ∃ (j : Nat), j ≤ n ∧ j ≤ k ∧ v = .int .i64 j ∧ Hid (Below w.heap.size w wr) ∧ Hid (∀ i, i < j → la.getD i 0 = lb.getD i 0)) (fun v _ => n - (intOf v).toNat)
  case atStart => exact ⟨0, by omega, by omega, rfl, Lib.hid (Below.refl _ _), Lib.hid (fun i hi => by omega)⟩
  case round =>
    obtain ⟨j, hj, hjk, rfl, HB, HI⟩ := hrel
    by_cases hlt : j < n ∧ j < k
    · obtain ⟨h1, h2⟩ := hlt
      have hatA := HatA.out j (by rw [hza]; exact h1)
      have hatB := HatB.out j (by rw [hzb]; exact h2)
      have HAt := Lib.hid (fun hne => Tn.lessL_at (a := la) (b := lb) (j := j) (by rw [hn.out]; exact h1) (by rw [hk.out]; exact h2) HI.out hne)
      have HNx : Hid (la.getD j 0 = lb.getD j 0 → ∀ i, i < j + 1 → la.getD i 0 = lb.getD i 0) := Lib.hid (fun h i hi => by
        by_cases e : i = j
        · subst e; exact h
        · exact HI.out i (by omega))
      obtain ⟨x, hx⟩ : ∃ x, Hid (la.getD j 0 = x) := ⟨_, rfl⟩
      obtain ⟨y, hy⟩ : ∃ y, Hid (lb.getD j 0 = y) := ⟨_, rfl⟩
      rw [hx.out] at hatA HAt HNx
      rw [hy.out] at hatB HAt HNx
      by_cases hxy : x = y
      · have HNx' := Lib.hid (HNx.out hxy)
        subst hxy
        clear HAt HNx HI
        go_wp2_with fail
        go_quiet (fail)
        go_wp2_with fail
        go_roundw
        case rel => exact ⟨j + 1, by omega, by omega, by go_num, Lib.hid (drewn_below HB.out _), HNx'⟩
        case measure => simp [intOf]; omega
      · have hA := Lib.hid (HAt.out hxy)
        have hne : ((x : Int) == (y : Int)) = false := by simp; omega
        have hne2 : ((x : Int) != (y : Int)) = true := by simp; omega
        clear HAt HNx HI hxy
        go_wp2_with fail
        go_quiet (fail)
        go_wp2_with fail
        go_quiet (fail)
        go_wp2_with fail
        go_ret
        exact ⟨ret_bool (by rw [hA.out] <;> simp), by first | exact drewn_below HB.out _ | exact drewn_below (drewn_below HB.out _) _⟩
    · have HE := Lib.hid (Tn.lessL_end (a := la) (b := lb) (j := j) (by rw [hn.out]; exact hj) (by rw [hk.out]; exact hjk) (by rw [hn.out, hk.out]; omega) HI.out)
      rw [hn.out, hk.out] at HE
      by_cases h1 : j < n
      · have h2 : ¬ j < k := fun h => hlt ⟨h1, h⟩
        clear hlt
        go_wp2_with fail
        go_ret
        exact ⟨ret_bool (by rw [HE.out] <;> simp), HB.out⟩
      · clear hlt
        go_wp2_with fail
        go_ret
        exact ⟨ret_bool (by rw [HE.out] <;> simp), HB.out⟩

theorem rplace_any {w : World} {B : Nat} {va : Value} {la : List ByteArray} (Ha : Sk w B va la) (key : ByteArray) :
    Calls Tryz.prog 54 #[va, .string key] w fun e w' => e = .returned (.int .i64 (Tn.place la key : Int)) ∧ w = w' := by
  obtain ⟨Aa, ca, rfl, Ta, h1, h2, _, _⟩ := Ha
  have TA := Lib.hid Ta
  unfold maxLen at h2
  have HF := Lib.hid (fun i (hi : i < la.length) (e : la[i] = key) h2 => Tn.place_first hi e h2)
  have HN := Lib.hid (fun h => Tn.place_none (l := la) (key := key) h)
  obtain ⟨n, hn⟩ : ∃ n, Hid (la.length = n) := ⟨_, rfl⟩
  rw [hn.out] at h1 HN ⊢
  clear Ta
  go_enter Tryz.func54, Tryz.ntmps54
  go_wp2_with fail
  go_loop [5] (fun v => ∃ (i : Nat), i ≤ n ∧ v = .int .i64 i ∧ Hid (∀ j, j < i → ∀ (ha : j < la.length), la[j] ≠ key)) (fun v => n - (intOf v).toNat)
  case atStart => exact ⟨0, by omega, rfl, Lib.hid (fun j hj => by omega)⟩
  case round =>
    obtain ⟨i, hi, rfl, HI⟩ := hrel
    by_cases hlt : i < n
    · have hia : i < la.length := by rw [hn.out]; exact hlt
      obtain ⟨b1, o1, rfl, _, d0⟩ := TA.out i hia
      have HS : Hid (la[i] ≠ key → ∀ j, j < i + 1 → ∀ (ha : j < la.length), la[j] ≠ key) := Lib.hid (fun h j hj ha => by
        by_cases e : j = i
        · subst e; exact h
        · exact HI.out j (by omega) ha)
      have HFi : Hid (la[i] = key → Tn.place la key = i) := Lib.hid (fun e => HF.out i hia e (fun j hj => HI.out j hj (by omega)))
      obtain ⟨p, hp⟩ : ∃ p, Hid (la[i] = p) := ⟨la[i], Lib.hid rfl⟩
      rw [hp.out] at d0 HS HFi
      have hs := txt_eq p key
      by_cases hpq : p = key
      · rw [decide_eq_true hpq] at hs
        have HE := Lib.hid (HFi.out hpq)
        clear HS HFi HI hpq
        go_wp2_with fail
        go_ret
        exact ⟨ret_int (by rw [HE.out]), rfl⟩
      · rw [decide_eq_false hpq] at hs
        have HS' := Lib.hid (HS.out hpq)
        clear HS HFi HI hpq
        go_wp2_with fail
        go_round
        case rel => exact ⟨i + 1, by omega, by go_num, HS'⟩
        case measure => simp [intOf]; omega
    · have HE := Lib.hid (HN.out (fun k hk => by
        obtain ⟨j, hj, rfl⟩ := List.mem_iff_getElem.1 hk
        exact HI.out j (by have := hn.out; omega) hj))
      go_wp2_with fail
      go_ret
      exact ⟨ret_int (by rw [HE.out]), rfl⟩
end Go.Proofs.YtldjdoebappkoaaGreatDoor
/- Contracts of the reference's functions of layer 11 over trees: Same, Depth, Get. -/
namespace Go.Proofs.YtldjdoebappkoaaGreatDoor
open Go.RowKit
set_option linter.unusedVariables false
set_option maxRecDepth 100000

/-- a tree's value -/
abbrev tval (t : Tn) (vk vq : Value) : Value := .agg #[.int .i64 t.kind, .int .i64 t.n, .string t.s, vk, vq]
/-- the cells of a tree's box -/
abbrev tcells (t : Tn) (vk vq : Value) : Array Value := #[.int .i64 t.kind, .int .i64 t.n, .string t.s, vk, vq]
/-- a tree in a block of its own -/
structure Tb (w : World) (b : Nat) (t : Tn) (vk vq : Value) : Prop where
  bx : Whole w b 25 (tcells t vk vq)
  tv : Tv w b t vk vq
section
variable {w w' : World} {B b : Nat} {t : Tn} {vk vq : Value}
theorem Tb.cells (h : Tb w b t vk vq) : w.cell? ⟨b, 0, none⟩ = some (.int .i64 t.kind) ∧ w.cell? ⟨b, 1, none⟩ = some (.int .i64 t.n) ∧ w.cell? ⟨b, 2, none⟩ = some (.string t.s) ∧ w.cell? ⟨b, 3, none⟩ = some vk ∧ w.cell? ⟨b, 4, none⟩ = some vq :=
  ⟨h.bx.at_ 0, h.bx.at_ 1, h.bx.at_ 2, h.bx.at_ 3, h.bx.at_ 4⟩
theorem Tb.lt (h : Tb w b t vk vq) : b < w.heap.size := h.bx.lt
theorem Tb.keep (h : Tb w b t vk vq) (hb : Below w.heap.size w w') : Tb w' b t vk vq := ⟨h.bx.below hb h.lt, h.tv.keep (hb.mono (by have := h.lt; omega))⟩
theorem Tb.below {C : Nat} (h : Tb w b t vk vq) (hb : Below C w w') (hC : b < C) : Tb w' b t vk vq := ⟨h.bx.below hb hC, h.tv.keep (hb.mono (by omega))⟩
/-- an argument that is boxed -/
theorem boxedT (h : Tv w B t vk vq) : ∃ b w0, w.heap.size = b ∧ w.alloc (.cells (tcells t vk vq) 25) = w0 ∧ Tb w0 b t vk vq ∧ Below b w w0 := by
  have B0 : Below w.heap.size w (w.alloc (.cells (tcells t vk vq) 25)) := (Below.refl _ _).alloc (Nat.le_refl _) _
  exact ⟨_, _, rfl, rfl, ⟨Whole.made _ _ _, h.all.keep B0⟩, B0⟩
theorem Tn.ext_iff {a b : Tn} : a = b ↔ a.kind = b.kind ∧ a.n = b.n ∧ a.s = b.s ∧ a.keys = b.keys ∧ a.kids = b.kids :=
  ⟨fun h => by subst h; exact ⟨rfl, rfl, rfl, rfl, rfl⟩, fun h => Tn.ext h.1 h.2.1 h.2.2.1 h.2.2.2.1 h.2.2.2.2⟩
theorem treeI {cs : Array Value} (h : cs.size = 5) : (Tryz.prog.info? 25).map (·.size) = some cs.size := by rw [h]; kernel_rfl
end
theorem Tn.depths_take {l : List Tn} {i : Nat} (h : i < l.length) : Tn.depths (l.take (i + 1)) = max (Tn.depths (l.take i)) l[i].depth := by
  rw [List.take_succ_eq_append_getElem h]
  generalize l.take i = m
  induction m with
  | nil => simp [Tn.depths]
  | cons a m ih => rw [List.cons_append, Tn.depths, Tn.depths, ih]; omega

end Go.Proofs.YtldjdoebappkoaaGreatDoor
/- Contracts of the law's room and Large of layer 11; small trees. -/
namespace Go.Proofs.YtldjdoebappkoaaGreatDoor
open Go.RowKit
set_option linter.unusedVariables false
set_option maxRecDepth 100000
set_option linter.unusedSimpArgs false
namespace Tn
mutual
def room : Tn → Nat → Int → Int
  | .mk _ _ s keys kids, level, left => if left < 1 ∨ 20 < level ∨ 300 < s.size ∨ 20 < keys.length ∨ 20 < kids.length ∨ ¬ (∀ k ∈ keys, k.size ≤ 300) then -1 else rooms kids (level + 1) (left - 1)
def rooms : List Tn → Nat → Int → Int
  | [], _, left => left
  | t :: ts, level, left => if room t level left < 0 then -1 else rooms ts level (room t level left)
end
mutual
theorem room_bound : ∀ (t : Tn) (level : Nat) (left : Int), -1 ≤ left → -1 ≤ room t level left ∧ room t level left ≤ left
  | .mk k n s keys kids, level, left, h => by
    rw [room]
    split
    · omega
    · rename_i h1
      have := rooms_bound kids (level + 1) (left - 1) (by omega)
      omega
theorem rooms_bound : ∀ (l : List Tn) (level : Nat) (left : Int), -1 ≤ left → -1 ≤ rooms l level left ∧ rooms l level left ≤ left
  | [], level, left, h => by rw [rooms]; omega
  | t :: l, level, left, h => by
    rw [rooms]
    have h1 := room_bound t level left h
    split
    · omega
    · have := rooms_bound l level (room t level left) (by omega)
      omega
end
/-- no text and no list in it is long -/
inductive Lim : Tn → Prop
  | mk {t : Tn} (hs : t.s.size ≤ 300) (hk : t.keys.length ≤ 20) (hq : t.kids.length ≤ 20) (hx : ∀ k ∈ t.keys, k.size ≤ 300) (hl : ∀ u ∈ t.kids, Lim u) : Lim t
mutual
theorem room_lim : ∀ (t : Tn) (level : Nat) (left : Int), 0 ≤ room t level left → Lim t ∧ level + t.depth ≤ 21
  | .mk k n s keys kids, level, left, h => by
    rw [room] at h
    split at h
    · omega
    · rename_i h1
      have hx : ∀ k ∈ keys, k.size ≤ 300 := by
        refine Classical.byContradiction fun hn => h1 (.inr (.inr (.inr (.inr (.inr hn)))))
      have h2 := rooms_lim kids (level + 1) (left - 1) (by omega) h
      refine ⟨.mk (show s.size ≤ 300 by omega) (show keys.length ≤ 20 by omega) (show kids.length ≤ 20 by omega) hx h2.1, ?_⟩
      rw [depth]
      omega
theorem rooms_lim : ∀ (l : List Tn) (level : Nat) (left : Int), level ≤ 21 → 0 ≤ rooms l level left → (∀ t ∈ l, Lim t) ∧ level + depths l ≤ 21
  | [], level, left, hv, h => by rw [depths]; exact ⟨fun t ht => absurd ht (by simp), by omega⟩
  | t :: l, level, left, hv, h => by
    rw [rooms] at h
    split at h
    · omega
    · rename_i h1
      have h2 := room_lim t level left (by omega)
      have h3 := rooms_lim l level _ hv h
      refine ⟨fun u hu => ?_, by rw [depths]; omega⟩
      rcases List.mem_cons.1 hu with rfl | hu
      · exact h2.1
      · exact h3.1 u hu
end
variable {t : Tn} {level : Nat} {left : Int}
theorem room_none (h : left < 1 ∨ 20 < level ∨ 300 < t.s.size ∨ 20 < t.keys.length ∨ 20 < t.kids.length ∨ ¬ (∀ k ∈ t.keys, k.size ≤ 300)) : t.room level left = -1 := by
  obtain ⟨k, n, s, keys, kids⟩ := t
  rw [room]
  exact if_pos h
theorem room_some (h1 : ¬ left < 1) (h2 : ¬ 20 < level) (h3 : ¬ 300 < t.s.size) (h4 : ¬ 20 < t.keys.length) (h5 : ¬ 20 < t.kids.length) (h6 : ∀ k ∈ t.keys, k.size ≤ 300) : t.room level left = rooms t.kids (level + 1) (left - 1) := by
  obtain ⟨k, n, s, keys, kids⟩ := t
  rw [room]
  exact if_neg (fun h => by
    rcases h with h | h | h | h | h | h
    · exact h1 h
    · exact h2 h
    · exact h3 h
    · exact h4 h
    · exact h5 h
    · exact h h6)
theorem rooms_drop {l : List Tn} {i : Nat} (h : i < l.length) : rooms (l.drop i) level left = if l[i].room level left < 0 then -1 else rooms (l.drop (i + 1)) level (l[i].room level left) := by
  rw [List.drop_eq_getElem_cons h, rooms]
end Tn

set_option maxHeartbeats 4000000 in
theorem room11_any (k : Nat) : ∀ (t : Tn), SizeOf.sizeOf t < k → ∀ (level : Nat) (left : Int), level ≤ 21 → -1 ≤ left → left ≤ 400 → ∀ {w : World} {B : Nat} {vk vq : Value}, Tv w B t vk vq →
    Calls Tryz.prog 9 #[tval t vk vq, .int .i64 (level : Int), .int .i64 left] w fun e w' => e = .returned (.int .i64 (t.room level left)) ∧ Below w.heap.size w w' := by
  induction k with
  | zero => intro t h; omega
  | succ k ih =>
    intro t hk level left hv hl1 hl2 w B vk vq H
    obtain ⟨b, w1, hs, hal, hT, hb1⟩ := boxedT H
    have HT := Lib.hid hT
    have HB1 := Lib.hid hb1
    have hbw := hT.lt
    obtain ⟨c0, c1, c2, c3, c4⟩ := hT.cells
    obtain ⟨A, c, rfl, h1, h2, _, K, Q, hK⟩ := hT.tv.kids
    have HK := Lib.hid hK
    obtain ⟨Ak, ck, rfl, hSk⟩ := hT.tv.keys
    have HSk := Lib.hid hSk.1
    have hsk := hSk.2
    unfold maxLen at h2 hsk
    obtain ⟨hsk1, hsk2, _, hsk4⟩ := hsk
    have HSZ := Lib.hid hsk4
    have IH := Lib.hid (fun i (hi : i < t.kids.length) (L : Int) {w : World} {B : Nat} {vk vq : Value} (hv : level + 1 ≤ 21) (h1 : -1 ≤ L) (h2 : L ≤ 400) (h : Tv w B t.kids[i] vk vq) => ih t.kids[i] (by have := Tn.kid_lt hi; omega) (level + 1) L hv h1 h2 h)
    have R1 := Lib.hid (fun h => Tn.room_none (t := t) (level := level) (left := left) h)
    have R2 := Lib.hid (fun h1 h2 h3 h4 h5 h6 => Tn.room_some (t := t) (level := level) (left := left) h1 h2 h3 h4 h5 h6)
    have HCt := Lib.hid (fun W (h : Below w1.heap.size w1 W) => (HT.out.keep h).cells)
    have hTn := (HT.out.tv.str : t.s.size ≤ maxLen)
    unfold maxLen at hTn
    obtain ⟨r, hr⟩ : ∃ r, Hid (t.room level left = r) := ⟨_, rfl⟩
    rw [hr.out] at R1 R2 ⊢
    obtain ⟨nk, hnk⟩ : ∃ n, Hid (t.keys.length = n) := ⟨_, rfl⟩
    obtain ⟨n, hn⟩ : ∃ n, Hid (t.kids.length = n) := ⟨_, rfl⟩
    obtain ⟨sz, hsz⟩ : ∃ n, Hid (t.s.size = n) := ⟨_, rfl⟩
    have hsz' := hsz.out
    rw [hnk.out] at c3 hsk1 hal HCt R1 R2 ⊢
    rw [hn.out] at h1 c4 hal HCt R1 R2 ⊢
    rw [hsz.out] at R1 R2 hTn
    unfold tcells at hal
    unfold tval
    clear hT H hK hSk hb1 ih hsk4
    by_cases e0 : left < 1
    case pos =>
      have HR := Lib.hid (R1.out (.inl e0))
      go_enter Tryz.func9, Tryz.ntmps9
      go_wp2_with fail
      go_ret
      exact ⟨ret_int (by rw [HR.out]), by first | (rw [hs]; exact HB1.out) | exact HB1.out⟩
    by_cases e1 : 20 < level
    case pos =>
      have HR := Lib.hid (R1.out (.inr (.inl e1)))
      go_enter Tryz.func9, Tryz.ntmps9
      go_wp2_with fail
      go_ret
      exact ⟨ret_int (by rw [HR.out]), by first | (rw [hs]; exact HB1.out) | exact HB1.out⟩
    by_cases e2 : 300 < sz
    case pos =>
      have HR := Lib.hid (R1.out (.inr (.inr (.inl e2))))
      go_enter Tryz.func9, Tryz.ntmps9
      go_wp2_with fail
      go_ret
      exact ⟨ret_int (by rw [HR.out]), by first | (rw [hs]; exact HB1.out) | exact HB1.out⟩
    by_cases e3 : 20 < nk
    case pos =>
      have HR := Lib.hid (R1.out (.inr (.inr (.inr (.inl e3)))))
      go_enter Tryz.func9, Tryz.ntmps9
      go_wp2_with fail
      go_ret
      exact ⟨ret_int (by rw [HR.out]), by first | (rw [hs]; exact HB1.out) | exact HB1.out⟩
    by_cases e4 : 20 < n
    case pos =>
      have HR := Lib.hid (R1.out (.inr (.inr (.inr (.inr (.inl e4))))))
      go_enter Tryz.func9, Tryz.ntmps9
      go_wp2_with fail
      go_ret
      exact ⟨ret_int (by rw [HR.out]), by first | (rw [hs]; exact HB1.out) | exact HB1.out⟩
    have R3 := Lib.hid (fun h => R1.out (.inr (.inr (.inr (.inr (.inr h))))))
    have R4 := Lib.hid (fun h => R2.out e0 e1 e2 e3 e4 h)
    clear R1 R2
    go_enter Tryz.func9, Tryz.ntmps9
    go_wp2_with fail
    go_loopw [7] (fun vi wr => ∃ (i : Nat), i ≤ nk ∧ vi = .int .i64 i ∧ Hid (∀ j, j < i → ∀ (h : j < t.keys.length), t.keys[j].size ≤ 300) ∧ w1 = wr) (fun vi _ => nk - (intOf vi).toNat)
    case atStart => exact ⟨0, by omega, rfl, Lib.hid (fun j hj => by omega), rfl⟩
    case round =>
      obtain ⟨i, hi, rfl, HX, rfl⟩ := hrel
      by_cases hlt : i < nk
      · have hia : i < t.keys.length := by rw [hnk.out]; exact hlt
        obtain ⟨x1, o1, rfl, _, g1⟩ := HSk.out i hia
        have HS : Hid (t.keys[i].size ≤ 300 → ∀ j, j < i + 1 → ∀ (h : j < t.keys.length), t.keys[j].size ≤ 300) := Lib.hid (fun h j hj hj2 => by
          by_cases e : j = i
          · subst e; exact h
          · exact HX.out j (by omega) hj2)
        have HN : Hid (¬ t.keys[i].size ≤ 300 → r = -1) := Lib.hid (fun h => R3.out (fun hh => h (hh _ (List.getElem_mem hia))))
        have hz := HSZ.out _ (List.getElem_mem hia)
        obtain ⟨p, hp⟩ : ∃ p, Hid (t.keys[i] = p) := ⟨t.keys[i], Lib.hid rfl⟩
        rw [hp.out] at g1 HS HN hz
        obtain ⟨q, hq⟩ : ∃ q, Hid (p.size = q) := ⟨_, rfl⟩
        have hq' := hq.out
        rw [hq'] at HS HN hz
        by_cases e5 : q ≤ 300
        · have HS' := Lib.hid (HS.out e5)
          clear HS HN HX
          go_wp2_with fail
          go_roundw
          case rel => exact ⟨i + 1, by omega, by go_num, HS', by first | trivial | rfl⟩
          case measure => simp [intOf]; omega
        · have HR := Lib.hid (HN.out e5)
          clear HS HN HX
          go_wp2_with fail
          go_ret
          exact ⟨ret_int (by rw [HR.out]), by first | (rw [hs]; exact HB1.out) | exact HB1.out⟩
      · have HR := Lib.hid (R4.out (fun k hk => by
          obtain ⟨j, hj, rfl⟩ := List.mem_iff_getElem.1 hk
          exact HX.out j (by have := hnk.out; omega) hj))
        clear R3 R4 HX
        go_wp2_with fail
        go_loopw [2, 8] (fun v2 v8 wr => ∃ (j : Nat) (L : Int), j ≤ n ∧ v2 = .int .i64 L ∧ v8 = .int .i64 j ∧ 0 ≤ L ∧ L ≤ 400 ∧ Hid (r = Tn.rooms (t.kids.drop j) (level + 1) L) ∧ Hid (Below b w wr) ∧ Hid (Below w1.heap.size w1 wr)) (fun _ vi _ => n - (intOf vi).toNat)
        case atStart => exact ⟨0, left - 1, by omega, by go_num, rfl, by omega, by omega, Lib.hid (by rw [HR.out]; simp), HB1, Lib.hid (Below.refl _ _)⟩
        case round =>
          clear HR
          obtain ⟨j, L, hj, rfl, rfl, hL1, hL2, HR, HB, HC⟩ := hrel
          have d4 := (HCt.out wr HC.out).2.2.2.2
          by_cases hlt2 : j < n
          · have hja : j < t.kids.length := by rw [hn.out]; exact hlt2
            obtain ⟨x1, o1, rfl, hx1, h5, hv'⟩ := HK.out j hja
            have HW : Below b w1 wr := HC.out.mono (Nat.le_of_lt hbw)
            obtain ⟨g0, g1, g2, g3, g4⟩ := h5.below HW hx1
            have HD := Lib.hid (Tn.rooms_drop (level := level + 1) (left := L) hja)
            have CR := Lib.hid (IH.out j hja L (by omega) (by omega) hL2 (hv'.keep HW))
            have hbd := Tn.room_bound t.kids[j] (level + 1) L (by omega)
            obtain ⟨u, hu⟩ : ∃ u, Hid (t.kids[j] = u) := ⟨t.kids[j], Lib.hid rfl⟩
            rw [hu.out] at g0 g1 g2 HD CR hbd
            obtain ⟨x, hx⟩ : ∃ x, Hid (u.room (level + 1) L = x) := ⟨_, rfl⟩
            rw [hx.out] at HD CR hbd
            clear h5 hv' HW
            obtain ⟨hx2, hx3⟩ := hbd
            go_wp2_with fail
            refine (CR.out).mono ?_
            rintro e w4 ⟨rfl, hb4⟩
            have HB4 := Lib.hid (HB.out.trans (hb4.mono (by have := HB.out.size; omega)))
            have HC4 := Lib.hid (HC.out.trans (hb4.mono HC.out.size))
            clear hb4
            by_cases hx0 : x < 0
            · have HR2 : Hid (r = -1) := Lib.hid (by rw [HR.out, HD.out, if_pos hx0])
              clear HD HR
              go_wp2_with fail
              go_ret
              exact ⟨ret_int (by rw [HR2.out]), by first | (rw [hs]; exact HB4.out) | exact HB4.out⟩
            · have HR2 : Hid (r = Tn.rooms (t.kids.drop (j + 1)) (level + 1) x) := Lib.hid (by rw [HR.out, HD.out, if_neg hx0])
              clear HD HR
              go_wp2_with fail
              go_roundw
              case rel => exact ⟨j + 1, x, by omega, rfl, by go_num, by omega, by omega, HR2, HB4, HC4⟩
              case measure => simp [intOf]; omega
          · have hin2 : j = t.kids.length := by rw [hn.out]; omega
            have HR2 : Hid (r = L) := Lib.hid (by rw [HR.out, hin2, List.drop_length]; rfl)
            go_wp2_with fail
            go_ret
            exact ⟨ret_int (by rw [HR2.out]), by first | (rw [hs]; exact HB.out) | exact HB.out⟩

theorem large11_any {t : Tn} {level : Nat} (hv : level ≤ 21) {w : World} {B : Nat} {vk vq : Value} (H : Tv w B t vk vq) :
    Calls Tryz.prog 4 #[tval t vk vq, .int .i64 (level : Int)] w fun e w' => e = .returned (.bool (decide (t.room level 400 < 0))) ∧ Below w.heap.size w w' := by
  obtain ⟨b, w1, hs, hal, hT, hb1⟩ := boxedT H
  have HB1 := Lib.hid hb1
  have hbw := hT.lt
  obtain ⟨c0, c1, c2, c3, c4⟩ := hT.cells
  have HC := Lib.hid (room11_any (SizeOf.sizeOf t + 1) t (by omega) level 400 hv (by omega) (by omega) hT.tv)
  unfold tcells at hal
  unfold tval at HC
  unfold tval
  clear hT H hb1
  obtain ⟨r, hr⟩ : ∃ r, Hid (t.room level 400 = r) := ⟨_, rfl⟩
  rw [hr.out] at HC ⊢
  go_enter Tryz.func4, Tryz.ntmps4
  go_wp2_with fail
  refine (HC.out).mono ?_
  rintro e w3 ⟨rfl, hb3⟩
  have HB3 := Lib.hid (HB1.out.trans (hb3.mono (by omega)))
  clear hb3
  go_wp2_with fail
  go_ret
  exact ⟨rfl, by first | (rw [hs]; exact HB3.out) | exact HB3.out⟩
/-- a tree that is not too large -/
structure Tn.Small (t : Tn) : Prop where
  lim : t.Lim
  deep : t.depth ≤ 20
theorem Tn.small_of {t : Tn} (h : ¬ t.room 1 400 < 0) : t.Small := by
  have := Tn.room_lim t 1 400 (by omega)
  exact ⟨this.1, by omega⟩
end Go.Proofs.YtldjdoebappkoaaGreatDoor
/- Contracts of the reference's Same and Get of layer 11. -/
namespace Go.Proofs.YtldjdoebappkoaaGreatDoor
open Go.RowKit
set_option linter.unusedVariables false
set_option maxRecDepth 100000
set_option linter.unusedSimpArgs false

/-- are two trees the same? -/
noncomputable def Tn.same (a b : Tn) : Bool := @decide (a = b) (Classical.propDecidable _)
theorem Tn.same_true {a b : Tn} (h : a = b) : Tn.same a b = true := by unfold Tn.same; exact @decide_eq_true _ (Classical.propDecidable _) h
theorem Tn.same_false {a b : Tn} (h : ¬ a = b) : Tn.same a b = false := by unfold Tn.same; exact @decide_eq_false _ (Classical.propDecidable _) h
theorem Tn.same_iff {a b : Tn} : Tn.same a b = true ↔ a = b := by
  by_cases h : a = b
  · exact ⟨fun _ => h, Tn.same_true⟩
  · exact ⟨fun e => absurd (e.symm.trans (Tn.same_false h)) (by simp), fun e => absurd e h⟩
/-- the cells of a kid, at whatever world of a region -/
theorem Cell5.ld {w W : World} {B b o : Nat} {t : Tn} {vk vq : Value} (h : Cell5 w b o t vk vq) (hb : Below B w W) (hB : b < B) : W.cell? ⟨b, o, none⟩ = some (.int .i64 t.kind) ∧ W.cell? ⟨b, o + 1, none⟩ = some (.int .i64 t.n) ∧ W.cell? ⟨b, o + 2, none⟩ = some (.string t.s) ∧ W.cell? ⟨b, o + 3, none⟩ = some vk ∧ W.cell? ⟨b, o + 4, none⟩ = some vq := by
  have h' := h.below hb hB
  exact ⟨h'.c0, h'.c1, h'.c2, h'.c3, h'.c4⟩

set_option maxHeartbeats 4000000 in
theorem rsame11_any (k : Nat) : ∀ (t : Tn), SizeOf.sizeOf t < k → ∀ (u : Tn) {w : World} {B C : Nat} {vk vq uk uq : Value}, Tv w B t vk vq → Tv w C u uk uq →
    Calls Tryz.prog 20 #[tval t vk vq, tval u uk uq] w fun e w' => e = .returned (.bool (Tn.same t u)) ∧ Below w.heap.size w w' := by
  induction k with
  | zero => intro t h; omega
  | succ k ih =>
    intro t hk u w B C vk vq uk uq H1 H2
    obtain ⟨b, w1, hs, hal, hT1, hb1⟩ := boxedT H1
    have H2' : Tv w1 w1.heap.size u uk uq := (H2.all.keep (by rw [hs]; exact hb1)).all
    obtain ⟨b2, w2, hs2, hal2, hU, hb2⟩ := boxedT H2'
    have hT := hT1.keep (by rw [hs2]; exact hb2)
    have HT := Lib.hid hT
    have HU := Lib.hid hU
    have HB2 : Hid (Below b w w2) := Lib.hid (hb1.trans (hb2.mono (by have := hT1.lt; omega)))
    obtain ⟨A, c, rfl, h1, h2, _, K, Q, hK⟩ := hT.tv.kids
    obtain ⟨A', c', rfl, h3, h4, _, K', Q', hK'⟩ := hU.tv.kids
    unfold maxLen at h2 h4
    have HK := Lib.hid hK
    have HK' := Lib.hid hK'
    obtain ⟨Ak, ck, rfl, hSk⟩ := hT.tv.keys
    obtain ⟨Au, cu, rfl, hSu⟩ := hU.tv.keys
    have HTx := Lib.hid (fun W (h : Below w2.heap.size w2 W) => rtexts11_any (w := W) (B := W.heap.size) (C := W.heap.size) ((HT.out.keep h).tv.keys.all) ((HU.out.keep h).tv.keys.all))
    have IH := Lib.hid (fun i (hi : i < t.kids.length) (u' : Tn) {w : World} {B C : Nat} {vk vq uk uq : Value} (h : Tv w B t.kids[i] vk vq) (h' : Tv w C u' uk uq) => ih t.kids[i] (by have := Tn.kid_lt hi; omega) u' h h')
    have HE := Lib.hid (@Tn.ext_iff t u)
    have hbw := hT.lt
    have hbw2 := hU.lt
    have HCt := Lib.hid (fun W (h : Below w2.heap.size w2 W) => (HT.out.keep h).cells)
    have HCu := Lib.hid (fun W (h : Below w2.heap.size w2 W) => (HU.out.keep h).cells)
    obtain ⟨np, hnp⟩ : ∃ n, Hid (t.keys.length = n) := ⟨_, rfl⟩
    obtain ⟨nq, hnq⟩ : ∃ n, Hid (u.keys.length = n) := ⟨_, rfl⟩
    obtain ⟨n, hn⟩ : ∃ n, Hid (t.kids.length = n) := ⟨_, rfl⟩
    obtain ⟨m, hm⟩ : ∃ n, Hid (u.kids.length = n) := ⟨_, rfl⟩
    rw [hnp.out] at HTx HCt hal ⊢
    rw [hnq.out] at HTx HCu hal2 ⊢
    rw [hn.out] at h1 HCt hal ⊢
    rw [hm.out] at h3 HCu hal2 ⊢
    clear hT1 hT hU hb1 hb2 H1 H2 H2' hK hK' hSk hSu
    obtain ⟨c0, c1, c2, c3, c4⟩ := HCt.out w2 (Below.refl _ _)
    obtain ⟨d0, d1, d2, d3, d4⟩ := HCu.out w2 (Below.refl _ _)
    unfold tcells at hal hal2
    unfold tval
    by_cases e0 : t.kind = u.kind
    case neg =>
      have HF := Lib.hid (Tn.same_false (fun e => e0 (HE.out.1 e).1))
      have q1 : (t.kind == u.kind) = false := by simpa using e0
      have q2 : (t.kind != u.kind) = true := by simpa using e0
      go_enter Tryz.func20, Tryz.ntmps20
      go_wp2_with fail
      go_ret
      exact ⟨ret_bool (by rw [HF.out]), by rw [hs]; exact HB2.out⟩
    by_cases e1 : t.n = u.n
    case neg =>
      have HF := Lib.hid (Tn.same_false (fun e => e1 (HE.out.1 e).2.1))
      have q1 : (t.n == u.n) = false := by simpa using e1
      have q2 : (t.n != u.n) = true := by simpa using e1
      rw [e0] at c0 hal ⊢
      clear e0
      go_enter Tryz.func20, Tryz.ntmps20
      go_wp2_with fail
      go_ret
      exact ⟨ret_bool (by rw [HF.out]), by rw [hs]; exact HB2.out⟩
    have q3 := txt_eq t.s u.s
    by_cases e2 : t.s = u.s
    case neg =>
      have HF := Lib.hid (Tn.same_false (fun e => e2 (HE.out.1 e).2.2.1))
      rw [decide_eq_false e2] at q3
      rw [e0] at c0 hal ⊢
      rw [e1] at c1 hal ⊢
      clear e0 e1
      go_enter Tryz.func20, Tryz.ntmps20
      go_wp2_with fail
      go_ret
      exact ⟨ret_bool (by rw [HF.out]), by rw [hs]; exact HB2.out⟩
    rw [decide_eq_true e2] at q3
    rw [e0] at c0 hal ⊢
    rw [e1] at c1 hal ⊢
    by_cases e3 : t.keys = u.keys
    case neg =>
      have HF := Lib.hid (Tn.same_false (fun e => e3 (HE.out.1 e).2.2.2.1))
      have CT := HTx.out w2 (Below.refl _ _)
      rw [decide_eq_false e3] at CT
      have HCT := Lib.hid CT
      clear e0 e1 e2 CT
      go_enter Tryz.func20, Tryz.ntmps20
      go_wp2_with fail
      refine (HCT.out).mono ?_
      rintro e w3 ⟨rfl, hb3⟩
      have HB3 := Lib.hid (HB2.out.trans (hb3.mono (by omega)))
      clear hb3
      go_wp2_with fail
      go_ret
      exact ⟨ret_bool (by rw [HF.out]), by rw [hs]; exact HB3.out⟩
    have CT := HTx.out w2 (Below.refl _ _)
    rw [decide_eq_true e3] at CT
    have HCT := Lib.hid CT
    by_cases e4 : n = m
    case neg =>
      have HF := Lib.hid (Tn.same_false (fun e => e4 (by rw [← hn.out, ← hm.out, (HE.out.1 e).2.2.2.2])))
      clear e0 e1 e2 CT
      go_enter Tryz.func20, Tryz.ntmps20
      go_wp2_with fail
      refine (HCT.out).mono ?_
      rintro e w3 ⟨rfl, hb3⟩
      have HB3 := Lib.hid (HB2.out.trans (hb3.mono (by omega)))
      obtain ⟨_, _, _, _, c4'⟩ := HCt.out w3 hb3
      obtain ⟨_, _, _, _, d4'⟩ := HCu.out w3 hb3
      clear hb3
      go_wp2_with fail
      go_ret
      exact ⟨ret_bool (by rw [HF.out]), by rw [hs]; exact HB3.out⟩
    rw [← e4] at h3 HCu hal2 d4 hm ⊢
    have HX := Lib.hid (fun (h : ∀ j, j < n → ∀ (ha : j < t.kids.length) (hb : j < u.kids.length), t.kids[j] = u.kids[j]) => Tn.same_true (HE.out.2 ⟨e0, e1, e2, e3, any_eq (by rw [hn.out, hm.out]) (fun j ha hb => h j (by have := hn.out; omega) ha hb)⟩))
    have HY := Lib.hid (fun i (ha : i < t.kids.length) (hb : i < u.kids.length) (h : ¬ t.kids[i] = u.kids[i]) => Tn.same_false (fun e => any_neq ha hb h (HE.out.1 e).2.2.2.2))
    clear e0 e1 e2 e3 e4 CT HE
    go_enter Tryz.func20, Tryz.ntmps20
    go_wp2_with fail
    refine (HCT.out).mono ?_
    rintro e w3 ⟨rfl, hb3⟩
    have HB3 := Lib.hid (HB2.out.trans (hb3.mono (by omega)))
    have HC3 := Lib.hid hb3
    obtain ⟨_, _, _, _, c4'⟩ := HCt.out w3 hb3
    obtain ⟨_, _, _, _, d4'⟩ := HCu.out w3 hb3
    clear hb3
    go_wp2_with fail
    clear c0 c1 c2 c3 c4 d0 d1 d2 d3 d4 c4' d4'
    go_loopw [5] (fun vi wr => ∃ (i : Nat), i ≤ n ∧ vi = .int .i64 i ∧ Hid (∀ j, j < i → ∀ (ha : j < t.kids.length) (hb : j < u.kids.length), t.kids[j] = u.kids[j]) ∧ Hid (Below b w wr) ∧ Hid (Below w2.heap.size w2 wr)) (fun vi _ => n - (intOf vi).toNat)
    case atStart => exact ⟨0, by omega, rfl, Lib.hid (fun j hj => by omega), HB3, HC3⟩
    case round =>
      obtain ⟨i, hi, rfl, HI, HB, HC⟩ := hrel
      have c4 := (HCt.out wr HC.out).2.2.2.2
      have d4 := (HCu.out wr HC.out).2.2.2.2
      by_cases hlt : i < n
      · have hia : i < t.kids.length := by rw [hn.out]; exact hlt
        have hib : i < u.kids.length := by rw [hm.out]; exact hlt
        obtain ⟨x1, o1, rfl, hx1, h5, hv⟩ := HK.out i hia
        obtain ⟨x2, o2, rfl, hx2, h6, hv'⟩ := HK'.out i hib
        have HYi := Lib.hid (HY.out i hia hib)
        have HSi : Hid (t.kids[i] = u.kids[i] → ∀ j, j < i + 1 → ∀ (ha : j < t.kids.length) (hb : j < u.kids.length), t.kids[j] = u.kids[j]) := Lib.hid (fun h j hj ha hb => by
          by_cases e : j = i
          · subst e; exact h
          · exact HI.out j (by omega) ha hb)
        have HW : Hid (Below w2.heap.size w2 wr) := HC
        have HP : Hid (∀ W, Below wr.heap.size wr W → W.cell? ⟨b, 4, none⟩ = some (.slice (some ⟨x1, o1, none⟩) n c) ∧ W.cell? ⟨b2, 4, none⟩ = some (.slice (some ⟨x2, o2, none⟩) n c') ∧ Cell5 W x1 (o1 + i * 5) t.kids[i] (K i) (Q i) ∧ Cell5 W x2 (o2 + i * 5) u.kids[i] (K' i) (Q' i)) := Lib.hid (fun W hW => by
          have hW' := HC.out.trans (hW.mono HC.out.size)
          exact ⟨(HCt.out W hW').2.2.2.2, (HCu.out W hW').2.2.2.2, h5.below (hW'.mono (Nat.le_of_lt hbw)) hx1, h6.below (hW'.mono (Nat.le_of_lt hbw2)) hx2⟩)
        have HQ := Lib.hid (fun W (hW : Below wr.heap.size wr W) => IH.out i hia _ (hv.keep ((HC.out.trans (hW.mono HC.out.size)).mono (Nat.le_of_lt hbw))) (hv'.keep ((HC.out.trans (hW.mono HC.out.size)).mono (Nat.le_of_lt hbw2))))
        clear h5 h6 hv hv' IH
        obtain ⟨p, hp⟩ : ∃ p, Hid (t.kids[i] = p) := ⟨t.kids[i], Lib.hid rfl⟩
        obtain ⟨q, hq⟩ : ∃ q, Hid (u.kids[i] = q) := ⟨u.kids[i], Lib.hid rfl⟩
        rw [hp.out, hq.out] at HP HQ HYi HSi
        go_wp2_with fail
        refine wp_region_plan (S := fun W => Below wr.heap.size wr W) [(0, true), (1, true), (2, true), (3, true), (4, true), (5, true), (6, true), (7, true), (8, true), (9, true), (10, false), (11, true)] (by kernel_rfl) (by kernel_rfl) rfl (by kernel_rfl) (fun _ _ _ _ _ h => h) (Below.refl _ _).drew ?_
        iterate 10
          refine along_take (v := ?_) rfl (by rfl) ?_ ?_
          rotate_left
          · intro W hW
            obtain ⟨k1, k2, ⟨k3, k4, k5, k6, k7⟩, ⟨k8, k9, k10, k11, k12⟩⟩ := HP.out W hW
            go_simp; try with_reducible rfl
          simp only [Act.put, List.setIfInBounds_toArray, List.set_cons_zero, List.set_cons_succ]
        have HD : Hid (∀ W, Below wr.heap.size wr W → Below b w W ∧ Below w2.heap.size w2 W) := Lib.hid (fun W hW => ⟨HB.out.trans (hW.mono (by have := HB.out.size; omega)), HC.out.trans (hW.mono HC.out.size)⟩)
        refine along_step rfl (fun K hK => ?_)
        go_simp
        refine (HQ.out _ (Below.refl _ _).drew).mono ?_
        rintro e w4 ⟨rfl, hb4⟩
        have hb4' : Below wr.heap.size wr w4 := (Below.refl _ _).drew.trans hb4
        refine hK.out _ _ hb4' ?_
        clear hK K HP HQ hb4
        obtain ⟨y, hy⟩ : ∃ y, Hid (Tn.same p q = y) := ⟨_, rfl⟩
        rw [hy.out]
        have hHB := Lib.hid (HD.out w4 hb4')
        clear hb4'
        refine along_take (v := ?_) rfl (by rfl) ?_ ?_
        rotate_left
        · intro W hW
          go_simp; try with_reducible rfl
        simp only [Act.put, List.setIfInBounds_toArray, List.set_cons_zero, List.set_cons_succ]
        refine along_done ?_
        have c4' := (HCt.out w4 hHB.out.2).2.2.2.2
        have d4' := (HCu.out w4 hHB.out.2).2.2.2.2
        by_cases hpq : p = q
        · have hy' : y = true := by rw [← hy.out]; exact Tn.same_true hpq
          subst hy'
          have HS' := Lib.hid (HSi.out hpq)
          clear HYi HSi HI
          go_wp2_with fail
          go_roundw
          case rel => exact ⟨i + 1, by omega, by go_num, HS', Lib.hid hHB.out.1, Lib.hid hHB.out.2⟩
          case measure => simp [intOf]; omega
        · have hy' : y = false := by rw [← hy.out]; exact Tn.same_false hpq
          subst hy'
          have HS' := Lib.hid (HYi.out hpq)
          clear HYi HSi HI
          go_wp2_with fail
          go_ret
          exact ⟨ret_bool (by rw [HS'.out]), by rw [hs]; exact hHB.out.1⟩
      · have HXX := Lib.hid (HX.out (fun j hj ha hb => HI.out j (by omega) ha hb))
        go_wp2_with fail
        go_ret
        exact ⟨ret_bool (by rw [HXX.out]), by rw [hs]; exact HB.out⟩
end Go.Proofs.YtldjdoebappkoaaGreatDoor
/- Contract of the reference's Get of layer 11. -/
namespace Go.Proofs.YtldjdoebappkoaaGreatDoor
open Go.RowKit
set_option linter.unusedVariables false
set_option maxRecDepth 100000
set_option linter.unusedSimpArgs false

theorem results_tree2 {fn : Func} {p u : Tmp} {x : Value} {tmps : Array Value} {w : World} {g : Nat} {cs : Array Value} (h : fn.results = #[.cell p 25, .tmp u])
    (hp : tmps.getD p undef = .pointer (some ⟨g, 0, none⟩)) (hx : tmps.getD u undef = x) (hg : Whole w g 25 cs) (hc : cs.size = 5) :
    (results fn tmps).run Tryz.prog w = .ok (.tuple #[.agg cs, x]) w := by
  subst hx
  have hp' : tmps[p]?.getD undef = .pointer (some ⟨g, 0, none⟩) := by simpa using hp
  simp [results, h, hp', asAddr, run_loadVar_row w g 25 25 cs (0, 0) _ hg Tryz.underlying25 rfl (treeI hc)]
abbrev Tn.zero : Tn := .mk 0 0 ⟨#[]⟩ [] []
theorem Tv.zero (w : World) (B : Nat) : Tv w B Tn.zero (.slice none 0 0) (.slice none 0 0) :=
  Tv.of (by simp [Tn.zero, Tn.kind]) (by simp [Tn.zero, Tn.n]) (by show (0 : Nat) ≤ maxLen; omega) (Sk.nil _ _) (Kv.nil _ _)
theorem Tv.one {w : World} {B : Nat} {t : Tn} {vk vq : Value} (h : Tv w B t vk vq) : vk.oneCell' = true ∧ vq.oneCell' = true := by
  obtain ⟨_, _, rfl, _⟩ := h.kids
  obtain ⟨_, _, rfl, _⟩ := h.keys
  exact ⟨rfl, rfl⟩
/-- a new variable that is a tree -/
theorem var_tree (w : World) : ∃ g w0, w.heap.size = g ∧ w.alloc (.cells #[.int .i64 0, .int .i64 0, .string ⟨#[]⟩, .slice none 0 0, .slice none 0 0] 25) = w0 ∧ Whole w0 g 25 #[.int .i64 0, .int .i64 0, .string ⟨#[]⟩, .slice none 0 0, .slice none 0 0] ∧ Below g w w0 ∧ w0.heap.size = g + 1 :=
  ⟨_, _, rfl, rfl, Whole.made _ _ _, (Below.refl _ _).alloc (Nat.le_refl _) _, by simp⟩
theorem Tn.get_kind {t : Tn} {key : ByteArray} (h : ¬ t.kind = 4) : t.get key = none := by unfold Tn.get; rw [if_neg (fun e => h e.1)]
theorem Tn.get_place {t : Tn} {key : ByteArray} (h : ¬ Tn.place t.keys key < t.keys.length) : t.get key = none := by unfold Tn.get; rw [if_neg (fun e => h e.2)]
theorem Tn.get_none {t : Tn} {key : ByteArray} (h : ¬ Tn.place t.keys key < t.kids.length) : t.get key = none := by
  unfold Tn.get
  split
  · exact List.getElem?_eq_none (by omega)
  · rfl
theorem Tn.get_some {t : Tn} {key : ByteArray} (h : t.kind = 4) (h1 : Tn.place t.keys key < t.keys.length) (h2 : Tn.place t.keys key < t.kids.length) : t.get key = some t.kids[Tn.place t.keys key] := by
  unfold Tn.get
  rw [if_pos ⟨h, h1⟩]
  exact List.getElem?_eq_getElem h2

set_option maxHeartbeats 2000000 in
theorem rget11_at {t : Tn} {w : World} {B : Nat} {vk vq : Value} (H : Tv w B t vk vq) (hB : B ≤ w.heap.size) (key : ByteArray) :
    Calls Tryz.prog 17 #[tval t vk vq, .string key] w fun e w' => ∃ xk xq, e = .returned (.tuple #[tval ((t.get key).getD Tn.zero) xk xq, .bool (t.get key).isSome]) ∧ Tv w' B ((t.get key).getD Tn.zero) xk xq ∧ Below w.heap.size w w' := by
  obtain ⟨b, w1, hs, hal, hT1, hb1⟩ := boxedT H
  obtain ⟨g, w2, hg, hal2, hY, hb2, hs2⟩ := var_tree w1
  have hbg : b < g := by rw [← hg]; exact hT1.lt
  have hT := hT1.below hb2 hbg
  have HT := Lib.hid hT
  have HY := Lib.hid hY
  have HB2 : Hid (Below b w w2) := Lib.hid (hb1.trans (hb2.mono (by omega)))
  obtain ⟨c0, c1, c2, c3, c4⟩ := hT.cells
  have HC := Lib.hid (rplace_any hT.tv.keys key)
  have hBb : B ≤ b := by rw [← hs]; exact hB
  obtain ⟨A, c, rfl, h1, h2, _, K, Q, hK⟩ := (H.keep (HB2.out.mono hBb)).kids
  have HK := Lib.hid hK
  obtain ⟨Ak, ck, rfl, hSk⟩ := hT.tv.keys
  unfold maxLen at h2
  have hsk := hSk.2
  unfold maxLen at hsk
  have hpl := Tn.place_le t.keys key
  have G1 := Lib.hid (fun h => Tn.get_kind (t := t) (key := key) h)
  have G2 := Lib.hid (fun h => Tn.get_place (t := t) (key := key) h)
  have G3 := Lib.hid (fun h => Tn.get_none (t := t) (key := key) h)
  have G4 := Lib.hid (fun h h1 h2 => Tn.get_some (t := t) (key := key) h h1 h2)
  obtain ⟨r, hr⟩ : ∃ r, Hid (t.get key = r) := ⟨_, rfl⟩
  rw [hr.out] at G1 G2 G3 G4 ⊢
  obtain ⟨p, hp⟩ : ∃ p, Hid (Tn.place t.keys key = p) := ⟨_, rfl⟩
  rw [hp.out] at HC hpl G2 G3
  obtain ⟨nk, hnk⟩ : ∃ n, Hid (t.keys.length = n) := ⟨_, rfl⟩
  obtain ⟨n, hn⟩ : ∃ n, Hid (t.kids.length = n) := ⟨_, rfl⟩
  rw [hnk.out] at HC hpl G2 c3 hsk hal ⊢
  rw [hn.out] at h1 c4 hal G3 ⊢
  unfold tcells at hal
  unfold tval
  have G4' := Lib.hid (fun (h : t.kind = 4) (h1 : p < nk) (h2 : p < t.kids.length) => (by have h' := hp.out; subst h'; exact G4.out h (by rw [hnk.out]; exact h1) h2 : r = some t.kids[p]))
  clear hT1 hT H hK hSk hY hb1 hb2
  by_cases e0 : t.kind = 4
  case neg =>
    have HR := Lib.hid (G1.out e0)
    have q : (t.kind == 4) = false := by simpa using e0
    have q1 : (t.kind != 4) = true := by simpa using e0
    go_enter Tryz.func17, Tryz.ntmps17
    go_wp2_with (first | (refine wpList_store_whole rfl rfl rfl rfl rfl HY.out (treeI rfl) rfl (by simp [Value.oneCell']) ?_) | (refine (HC.out).mono ?_; rintro e w3 ⟨rfl, rfl⟩))
    refine bodyPost_ret (v := .tuple #[tval Tn.zero (.slice none 0 0) (.slice none 0 0), .bool false]) ?_ rfl ⟨.slice none 0 0, .slice none 0 0, by rw [HR.out]; rfl, by rw [HR.out]; exact Tv.zero _ _, by rw [hs]; exact below_row HB2.out (by omega) _⟩
    exact results_tree2 rfl rfl rfl (HY.out.row _) rfl
  rw [e0] at hal c0 ⊢
  by_cases e1 : p < nk
  case neg =>
    have HR := Lib.hid (G2.out e1)
    have e2 : p = nk := by omega
    subst e2
    go_enter Tryz.func17, Tryz.ntmps17
    go_wp2_with (first | (refine wpList_store_whole rfl rfl rfl rfl rfl HY.out (treeI rfl) rfl (by simp [Value.oneCell']) ?_) | (refine (HC.out).mono ?_; rintro e w3 ⟨rfl, rfl⟩))
    refine bodyPost_ret (v := .tuple #[tval Tn.zero (.slice none 0 0) (.slice none 0 0), .bool false]) ?_ rfl ⟨.slice none 0 0, .slice none 0 0, by rw [HR.out]; rfl, by rw [HR.out]; exact Tv.zero _ _, by rw [hs]; exact below_row HB2.out (by omega) _⟩
    exact results_tree2 rfl rfl rfl (HY.out.row _) rfl
  have q : ((p : Int) == (nk : Int)) = false := by simp; omega
  by_cases e2 : p < n
  case neg =>
    have HR := Lib.hid (G3.out e2)
    go_enter Tryz.func17, Tryz.ntmps17
    go_wp2_with (first | (refine wpList_store_whole rfl rfl rfl rfl rfl HY.out (treeI rfl) rfl (by simp [Value.oneCell']) ?_) | (refine (HC.out).mono ?_; rintro e w3 ⟨rfl, rfl⟩))
    refine bodyPost_ret (v := .tuple #[tval Tn.zero (.slice none 0 0) (.slice none 0 0), .bool false]) ?_ rfl ⟨.slice none 0 0, .slice none 0 0, by rw [HR.out]; rfl, by rw [HR.out]; exact Tv.zero _ _, by rw [hs]; exact below_row HB2.out (by omega) _⟩
    exact results_tree2 rfl rfl rfl (HY.out.row _) rfl
  have hpa : p < t.kids.length := by rw [hn.out]; exact e2
  have HR : Hid (r = some t.kids[p]) := Lib.hid (G4'.out e0 e1 hpa)
  obtain ⟨b1, o1, rfl, hb1, h5, hv⟩ := HK.out p hpa
  obtain ⟨u, hu⟩ : ∃ u, Hid (t.kids[p] = u) := ⟨t.kids[p], Lib.hid rfl⟩
  rw [hu.out] at h5 hv HR
  obtain ⟨Ax, cx, ex, _⟩ := hv.keys
  obtain ⟨Ay, cy, ey, _⟩ := hv.kids
  rw [ex, ey] at h5 hv
  have HV := Lib.hid hv
  obtain ⟨d0, d1, d2, d3, d4⟩ := h5
  clear hv ex ey
  go_enter Tryz.func17, Tryz.ntmps17
  go_wp2_with (first | (refine wpList_store_whole rfl rfl rfl rfl rfl HY.out (treeI rfl) rfl (by simp [Value.oneCell']) ?_) | (refine (HC.out).mono ?_; rintro e w3 ⟨rfl, rfl⟩))
  have HBR := Lib.hid (below_row HB2.out (Nat.le_of_lt hbg) #[.int .i64 u.kind, .int .i64 u.n, .string u.s, .slice Ax u.keys.length cx, .slice Ay u.kids.length cy])
  refine bodyPost_ret (v := .tuple #[tval u (.slice Ax u.keys.length cx) (.slice Ay u.kids.length cy), .bool true]) ?_ rfl ⟨_, _, by rw [HR.out]; rfl, ?_, by rw [hs]; exact HBR.out⟩
  · exact results_tree2 rfl rfl rfl (HY.out.row _) rfl
  · rw [HR.out]
    exact HV.out.keep (below_row (Below.refl _ _) (by omega) _)
theorem rget11_any {t : Tn} {w : World} {B : Nat} {vk vq : Value} (H : Tv w B t vk vq) (key : ByteArray) :
    Calls Tryz.prog 17 #[tval t vk vq, .string key] w fun e w' => ∃ xk xq, e = .returned (.tuple #[tval ((t.get key).getD Tn.zero) xk xq, .bool (t.get key).isSome]) ∧ Tv w' w.heap.size ((t.get key).getD Tn.zero) xk xq ∧ Below w.heap.size w w' := rget11_at H.all (Nat.le_refl _) key
end Go.Proofs.YtldjdoebappkoaaGreatDoor
