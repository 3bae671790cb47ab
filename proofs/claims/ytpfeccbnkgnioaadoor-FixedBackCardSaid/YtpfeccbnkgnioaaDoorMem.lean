/- Words for slices that are only read. -/
import Derived.Below
import Derived.Laws.OwnMore
import Derived.Deep.Draws
import Derived.Maps.AppendAt
import Derived.OwnWalk
import Derived.Laws.BytesArg
import Derived.RegionTactic
namespace Go.Proofs.YtpfeccbnkgnioaaDoor
open Go.RowKit
set_option linter.unusedVariables false

/-- The slice with address A holds the numbers l (of kind k), in a block below B; nothing is said of A where l is empty. -/
def Sees (k : IntKind) (w : World) (B : Nat) (A : Option Addr) (l : List Nat) : Prop :=
  0 < l.length → ∃ b off, A = some ⟨b, off, none⟩ ∧ b < B ∧ ∀ i, i < l.length → w.cell? ⟨b, off + i, none⟩ = some (.int k ((l.getD i 0 : Nat) : Int))

theorem Sees.at_ {k : IntKind} {w : World} {B : Nat} {A : Option Addr} {l : List Nat} (h : Sees k w B A l) {i : Nat} (hi : i < l.length) :
    ∃ b off, A = some ⟨b, off, none⟩ ∧ b < B ∧ w.cell? ⟨b, off + i, none⟩ = some (.int k ((l.getD i 0 : Nat) : Int)) := by
  obtain ⟨b, off, e, hb, hc⟩ := h (by omega)
  exact ⟨b, off, e, hb, hc i hi⟩
theorem Sees.keep {k : IntKind} {w w' : World} {B : Nat} {A : Option Addr} {l : List Nat} (h : Sees k w B A l) (hk : ∀ p : Addr, p.block < B → w'.cell? p = w.cell? p) : Sees k w' B A l := fun hl => by
  obtain ⟨b, off, e, hb, hc⟩ := h hl
  exact ⟨b, off, e, hb, fun i hi => (hk _ hb).trans (hc i hi)⟩
theorem Sees.below {k : IntKind} {w w' : World} {B : Nat} {A : Option Addr} {l : List Nat} (h : Sees k w B A l) (hb : Below B w w') : Sees k w' B A l := h.keep fun _ hp => hb.cell hp
theorem Sees.more {k : IntKind} {w : World} {B B' : Nat} {A : Option Addr} {l : List Nat} (h : Sees k w B A l) (hB : B ≤ B') : Sees k w B' A l := fun hl => by
  obtain ⟨b, off, e, hb, hc⟩ := h hl
  exact ⟨b, off, e, by omega, hc⟩
/-- the rest from place j on -/
theorem Sees.drop {k : IntKind} {w : World} {B b off : Nat} {l : List Nat} (h : Sees k w B (some ⟨b, off, none⟩) l) (j : Nat) : Sees k w B (some ⟨b, off + j, none⟩) (l.drop j) := fun hl => by
  rw [List.length_drop] at hl
  obtain ⟨b', off', e, hb, hc⟩ := h (by omega)
  injection e with e
  injection e with e1 e2 e3
  subst e1 e2
  refine ⟨b, off + j, rfl, hb, fun i hi => ?_⟩
  rw [List.length_drop] at hi
  rw [Nat.add_assoc, hc (j + i) (by omega)]
  simp [List.getD]
theorem Sees.take {k : IntKind} {w : World} {B : Nat} {A : Option Addr} {l : List Nat} (h : Sees k w B A l) (j : Nat) : Sees k w B A (l.take j) := fun hl => by
  rw [List.length_take] at hl
  obtain ⟨b, off, e, hb, hc⟩ := h (by omega)
  refine ⟨b, off, e, hb, fun i hi => ?_⟩
  rw [List.length_take] at hi
  rw [hc i (by omega)]
  simp [List.getD, List.getElem?_take_of_lt (show i < j by omega)]

/-- numbers as cells -/
def ints (k : IntKind) (l : List Nat) : List Value := l.map fun (x : Nat) => Value.int k (x : Int)
theorem ints_nil (k : IntKind) : ints k [] = [] := rfl
theorem ints_append (k : IntKind) (a b : List Nat) : ints k (a ++ b) = ints k a ++ ints k b := by simp [ints]
theorem ints_length (k : IntKind) (a : List Nat) : (ints k a).length = a.length := by simp [ints]
theorem ints_get (k : IntKind) (a : List Nat) (i : Nat) (h : i < a.length) : (ints k a)[i]? = some (.int k ((a.getD i 0 : Nat) : Int)) := by
  simp [ints, List.getD, List.getElem?_eq_getElem h]
theorem ints_one (k : IntKind) (a : List Nat) : ∀ u ∈ ints k a, u.oneCell' = true := by
  intro u hu
  simp only [ints, List.mem_map] at hu
  obtain ⟨x, _, rfl⟩ := hu
  rfl

/-- what a call made and owns can be read -/
theorem Sees.of_own {k : IntKind} {w : World} {base : Nat} {e : TypeId} {A : Option Addr} {n c : Nat} {l : List Nat} (h : w.ownsRow base e 1 (.slice A n c) l.length (ints k l)) : Sees k w w.heap.size A l := by
  intro hl
  rcases h.2 with ⟨hv, hn⟩ | ⟨g, cap, cur, hv, hg, hh, hnc, hm, hs, ht⟩
  · omega
  · injection hv with hA _ _
    subst hA
    have hlt : g < w.heap.size := by
      rcases Nat.lt_or_ge g w.heap.size with h1 | h1
      · exact h1
      · rw [Array.getElem?_eq_none h1] at hh; cases hh
    refine ⟨g, 0, rfl, hlt, fun i hi => ?_⟩
    have := World.ownsRow.cells h (g := g) rfl i _ (ints_get k l i hi)
    rw [← this]
    congr 1
    unfold Addr.add
    split
    · simp_all
    · simp

theorem own_shape {w : World} {base : Nat} {t : TypeId} {size n : Nat} {v : Value} {xs : List Value} (h : w.ownsRow base t size v n xs) : ∃ A c, v = .slice A n c := by
  rcases h.2 with ⟨hv, h0⟩ | ⟨g, cap, cur, hv, _⟩
  · exact ⟨none, 0, by rw [hv, h0]⟩
  · exact ⟨_, cap, hv⟩

theorem own_nil {w : World} {base : Nat} {t : TypeId} {size n c : Nat} {A : Option Addr} {xs : List Value} (h : w.ownsRow base t size (.slice A n c) n xs) : A = none → c = 0 := by
  rcases h.2 with ⟨hv, h0⟩ | ⟨g, cap, cur, hv, _⟩
  · injection hv with _ _ h; exact fun _ => h
  · injection hv with h _ _; subst h; exact fun h => by cases h
theorem own_below {w w' : World} {base : Nat} {t : TypeId} {size n : Nat} {v : Value} {xs : List Value} (h : w.ownsRow base t size v n xs) (hb : Below w.heap.size w w') : w'.ownsRow base t size v n xs := by
  obtain ⟨h1, h2⟩ := h
  refine ⟨h1, ?_⟩
  rcases h2 with h2 | ⟨g, cap, cur, hv, hg, hh, r⟩
  · exact .inl h2
  · have hlt : g < w.heap.size := by
      rcases Nat.lt_or_ge g w.heap.size with h | h
      · exact h
      · rw [Array.getElem?_eq_none h] at hh; cases hh
    exact .inr ⟨g, cap, cur, hv, hg, by rw [hb.block g hlt]; exact hh, r⟩

/-! ### append -/

/-- T is a slice type over E, whose values are one cell each -/
structure ElemT (P : Program) (T E : TypeId) (z : Value) (bytes : Nat) : Prop where
  under : P.underlying T = some (.slice E)
  info : (P.info? E).map (fun i => (i.zero, i.size, i.bytes)) = some (some z, 1, bytes)
  one : z.cells.size = 1
  few : bytes ≤ 64

section
variable {P : Program} {T E : TypeId} {z : Value} {bytes : Nat}

/-- 'append(s, x)' of one element onto a row of the call's own -/
theorem wpList_append1 (hT : ElemT P T E z bytes) {ops : Array Oper} {rest : List Oper} {o : Oper} {a : Act} {Q : Exit → Act → World → Prop} {wr : World} {u : Value} (s x : Operand) (hgd : o.guard = none)
    (ho : o.op = .call { callee := .builtin .append, args := #[s, x], argTypes := #[T, T] }) (base : Nat) (v : Value) (n : Nat) (xs : List Value) (hs : a.eval s = v) (hx : a.eval x = .slice (some ⟨wr.heap.size, 0, none⟩) 1 1) (hu : u.oneCell' = true)
    (hown : wr.ownsRow base E 1 v n xs) (hn : n ≤ 1000000001000) (hbase : base ≤ wr.heap.size)
    (h : ∀ v' w', w'.ownsRow base E 1 v' (n + 1) (xs ++ [u]) → (wr.alloc (.cells #[u] E)).grownBy w' v.ownBlock → wpList P ops Q rest (a.put o.dst v') w') : wpList P ops Q (o :: rest) a (wr.alloc (.cells #[u] E)) := by
  obtain ⟨i0, hi, hz0, hz1, hz2⟩ := info_parts hT.info
  have hf := hT.few
  have hm : (n + 1) * bytes ≤ 140737488355328 := Nat.le_trans (Nat.mul_le_mul (show n + 1 ≤ 1000000001001 by omega) hf) (by omega)
  exact wpList_append_own _ hgd s x T ho base E i0 z 1 bytes hT.under hi hz0 hz1 hz2 hT.one (by decide) v n xs hs (hown.alloc _) ⟨wr.heap.size, 0, none⟩ 1 1 [u] hx rfl (cell_one_new _ _ _) (by simpa using hu) (by unfold maxLen; omega) hm (by simp; omega) (fun v' w' h1 h2 _ => h v' w' h1 h2)
end

/-! ### append of a slice, and of one value, where the order is drawn -/

section
variable {P : Program} {T E : TypeId} {z : Value} {bytes : Nat}
theorem run_append_row (hT : ElemT P T E z bytes) {w : World} (ty base : Nat) (v : Value) (n : Nat) (xs : List Value) (hown : w.ownsRow base E 1 v n xs) {k : IntKind} {B : Nat} {A : Option Addr} {l : List Nat} (m c : Nat) (hm : l.length = m) (hc : A = none → c = 0)
    (hsee : Sees k w B A l) (hn : n + m ≤ 1000000001001) (hbase : base ≤ w.heap.size) :
    ∃ v' w', (Builtin.append_ #[T, T] ty #[v, .slice A m c]).run P w = .ok v' w' ∧ w'.ownsRow base E 1 v' (n + m) (xs ++ ints k l) ∧ w.grownBy w' v.ownBlock := by
  obtain ⟨i0, hi, hz0, hz1, hz2⟩ := info_parts hT.info
  have hf := hT.few
  have hb : (n + m) * bytes ≤ 140737488355328 := Nat.le_trans (Nat.mul_le_mul hn hf) (by omega)
  cases A with
  | none =>
    have h0 : l = [] := by
      rcases Nat.eq_zero_or_pos l.length with h | h
      · exact List.eq_nil_of_length_eq_zero h
      · obtain ⟨_, _, e, _⟩ := hsee h; cases e
    have hc0 := hc rfl
    subst h0 hc0
    have hm0 : m = 0 := by simpa using hm.symm
    subst hm0
    exact ⟨v, w, run_append_owned_none w base T ty E i0 1 hT.under hi v n xs hown, by simpa [ints] using hown, World.grownBy.refl w _⟩
  | some ad =>
    have hnews : ∀ j u, (ints k l)[j]? = some u → w.cell? (ad.add j) = some u := by
      intro j u hu
      have hj : j < l.length := by
        rcases Nat.lt_or_ge j l.length with h | h
        · exact h
        · rw [List.getElem?_eq_none (by rw [ints_length]; exact h)] at hu; cases hu
      obtain ⟨b, off, e, _, hcell⟩ := hsee (by omega)
      injection e with e
      subst e
      have ha : (⟨b, off, none⟩ : Addr).add j = ⟨b, off + j, none⟩ := by unfold Addr.add; split <;> simp_all
      rw [ha, hcell j hj, ← ints_get k l j hj, hu]
    obtain ⟨v', w', h1, h2, h3, _⟩ := run_append_own_at (P := P) w base T ty E i0 z 1 bytes hT.under hi hz0 hz1 hz2 hT.one (by decide) v n xs hown ad m c (ints k l) (by rw [ints_length]; omega) hnews (ints_one k l) (by unfold maxLen; omega) hb hbase
    exact ⟨v', w', h1, h2, h3⟩

/-- 'append(s, x...)' where the order is drawn -/
theorem step_append_row (hT : ElemT P T E z bytes) {ops : Array Oper} {o : Oper} {a : Act} {w : World} {K : Act → World → Prop} {Q : Exit → Act → World → Prop} {F : Prop} (s x : Operand) (hgd : o.guard = none)
    (ho : o.op = .call { callee := .builtin .append, args := #[s, x], argTypes := #[T, T] }) (base : Nat) (v : Value) (n : Nat) (xs : List Value) (hs : a.eval s = v) (hown : w.ownsRow base E 1 v n xs) {k : IntKind} {B : Nat} {A : Option Addr} {l : List Nat} (m c : Nat)
    (hx : a.eval x = .slice A m c) (hm : l.length = m) (hc : A = none → c = 0) (hsee : Sees k w B A l) (hn : n + m ≤ 1000000001001) (hbase : base ≤ w.heap.size)
    (h : ∀ v' w', w'.ownsRow base E 1 v' (n + m) (xs ++ ints k l) → w.grownBy w' v.ownBlock → K (a.put o.dst v') w') : if Region.wanted o (yielded ops a.tmps) = true then Oper.wp P o a w K Q else F := by
  have hw : Region.wanted o (yielded ops a.tmps) = true := by simp [Region.wanted, hgd]
  rw [if_pos hw]
  obtain ⟨v', w', hr, h2, h3⟩ := run_append_row hT (w := w) o.type base v n xs hown m c hm hc hsee hn hbase
  unfold Oper.wp execOp
  simp only [ho, resolve, invoke, builtin, Sem.run_bind, Sem.run_pure, Result.andThen_ok, List.map_toArray, List.map_cons, List.map_nil, hs, hx, hr]
  exact h v' w' h2 h3
/-- the same for an operation with a guard that is wanted -/
theorem step_append_row_if (hT : ElemT P T E z bytes) {ops : Array Oper} {o : Oper} {a : Act} {w : World} {K : Act → World → Prop} {Q : Exit → Act → World → Prop} {F : Prop} (s x : Operand) (hw : Region.wanted o (yielded ops a.tmps) = true)
    (ho : o.op = .call { callee := .builtin .append, args := #[s, x], argTypes := #[T, T] }) (base : Nat) (v : Value) (n : Nat) (xs : List Value) (hs : a.eval s = v) (hown : w.ownsRow base E 1 v n xs) {k : IntKind} {B : Nat} {A : Option Addr} {l : List Nat} (m c : Nat)
    (hx : a.eval x = .slice A m c) (hm : l.length = m) (hc : A = none → c = 0) (hsee : Sees k w B A l) (hn : n + m ≤ 1000000001001) (hbase : base ≤ w.heap.size)
    (h : ∀ v' w', w'.ownsRow base E 1 v' (n + m) (xs ++ ints k l) → w.grownBy w' v.ownBlock → K (a.put o.dst v') w') : if Region.wanted o (yielded ops a.tmps) = true then Oper.wp P o a w K Q else F := by
  rw [if_pos hw]
  obtain ⟨v', w', hr, h2, h3⟩ := run_append_row hT (w := w) o.type base v n xs hown m c hm hc hsee hn hbase
  unfold Oper.wp execOp
  simp only [ho, resolve, invoke, builtin, Sem.run_bind, Sem.run_pure, Result.andThen_ok, List.map_toArray, List.map_cons, List.map_nil, hs, hx, hr]
  exact h v' w' h2 h3
/-- 'append(s, x...)' in a plain walk -/
theorem wpList_append_row (hT : ElemT P T E z bytes) {ops : Array Oper} {rest : List Oper} {o : Oper} {a : Act} {w : World} {Q : Exit → Act → World → Prop} (s x : Operand) (hgd : o.guard = none)
    (ho : o.op = .call { callee := .builtin .append, args := #[s, x], argTypes := #[T, T] }) (base : Nat) (v : Value) (n : Nat) (xs : List Value) (hs : a.eval s = v) (hown : w.ownsRow base E 1 v n xs) {k : IntKind} {B : Nat} {A : Option Addr} {l : List Nat} (m c : Nat)
    (hx : a.eval x = .slice A m c) (hm : l.length = m) (hc : A = none → c = 0) (hsee : Sees k w B A l) (hn : n + m ≤ 1000000001001) (hbase : base ≤ w.heap.size)
    (h : ∀ v' w', w'.ownsRow base E 1 v' (n + m) (xs ++ ints k l) → w.grownBy w' v.ownBlock → wpList P ops Q rest (a.put o.dst v') w') : wpList P ops Q (o :: rest) a w := by
  refine wpList_plain hgd fun K hK => ?_
  obtain ⟨v', w', hr, h2, h3⟩ := run_append_row hT (w := w) o.type base v n xs hown m c hm hc hsee hn hbase
  unfold Oper.wp execOp
  simp only [ho, resolve, invoke, builtin, Sem.run_bind, Sem.run_pure, Result.andThen_ok, List.map_toArray, List.map_cons, List.map_nil, hs, hx, hr]
  exact hK _ _ (h v' w' h2 h3)
end

/-! ### bytes as a string -/

def strOf (l : List Nat) : ByteArray := ⟨(l.map UInt8.ofNat).toArray⟩
theorem strOf_nums (l : List Nat) : strOfNums (l.map fun x : Nat => (x : Int)) = strOf l := by
  unfold strOfNums strOf
  congr 2
  simp
theorem strOf_append (a b : List Nat) : (strOf a) ++ (strOf b) = strOf (a ++ b) := by
  apply ByteArray.ext
  simp [strOf]
theorem strOf_size (l : List Nat) : (strOf l).size = l.length := by simp [strOf, ByteArray.size]

section
variable {P : Program} {src e dst : TypeId} (hs : P.underlying src = some (.slice e)) (he : P.underlying e = some (.int .u8)) (hd : P.underlying dst = some .string)
include hs he hd
theorem conv_sees {w : World} {B : Nat} {A : Option Addr} {l : List Nat} (n c : Nat) (hn : l.length = n) (h : Sees .u8 w B A l) : (convert src dst (.slice A n c)).run P w = .ok (.string (strOf l)) w := by
  rcases Nat.eq_zero_or_pos l.length with h0 | h0
  · have hl : l = [] := List.eq_nil_of_length_eq_zero h0
    subst hl
    subst hn
    cases A with
    | none => exact run_convert_bytes_nil w src e hs he _ c dst hd
    | some a =>
      rw [run_convert_bytes_string w src dst e _ _ c hs he hd]
      have := run_bytesToString (P := P) w a 0 c [] (by simpa using run_loadCells_list (P := P) w a [] (fun j v hj => by simp at hj))
      rw [show ([] : List Nat).length = 0 from rfl, this]
      rfl
  · obtain ⟨b, off, rfl, _, hc⟩ := h h0
    rw [← strOf_nums]
    refine run_convert_bytes_arg w src e hs he b off n c _ (by simpa using hn) (fun i hi => ?_) dst hd
    rw [hc i (by omega)]
    simp [List.getD, List.getElem?_eq_getElem (show i < l.length by omega)]
theorem conv_own {w : World} {base : Nat} {t : TypeId} {v : Value} {l : List Nat} (h : w.ownsRow base t 1 v l.length (ints .u8 l)) : (convert src dst v).run P w = .ok (.string (strOf l)) w := by
  rcases h.2 with ⟨hv, h0⟩ | ⟨g, cap, cur, hv, _⟩
  · have hl : l = [] := List.eq_nil_of_length_eq_zero h0
    subst hl hv
    exact run_convert_bytes_nil w src e hs he _ 0 dst hd
  · subst hv
    exact conv_sees hs he hd l.length cap rfl (Sees.of_own h)
end
end Go.Proofs.YtpfeccbnkgnioaaDoor
