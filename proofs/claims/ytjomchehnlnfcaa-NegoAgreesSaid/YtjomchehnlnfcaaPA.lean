/- Texts Mem, Base, Bytes, Nums, Region, Arr, Frame, Txt, Only, Two, Tree, Cells, Spl, in one. -/
import Derived.Below
import Derived.Laws.OwnMore
import Derived.Deep.Draws
import Derived.Maps.AppendAt
import Derived.OwnWalk
import Derived.Laws.BytesArg
import Derived.RegionTactic
import Derived.Test.YtjomchehnlnfcaaRows
import Derived.WalkKit
import Derived.ProofKit
import Derived.WalkLawsBesides
import Derived.WalkSpells
import Derived.IntWalk
import Derived.PlainAid
import Derived.Lib.Hide
import Derived.Laws.BitsAllLaws
import Derived.Laws.Strings
import Derived.Outline
import Derived.OrdersHeld
import Derived.Deep.RegionHeld
import Derived.Laws.MakeOwn
import Derived.Laws.CopyOwn
import Derived.Deep.WholeRow
import Derived.Laws.Rows
import Derived.OpenShut
import Derived.ShutString
import Derived.ChangeOld
import Derived.Lib.AppendStr
import Derived.Deep.SlicePairs
import Derived.Deep.MidRow
import Derived.Deep.AppendLies
import Derived.Laws.Externs
import Derived.Lib.AppendZerosOnto
/- Words for slices that are only read. -/
namespace Go.Proofs.Ytjomchehnlnfcaa
open Go.RowKit
set_option linter.unusedVariables false

/-- The slice with address A holds the numbers l (of kind k), in a block below B; nothing is said of A where l is empty. -/
def Sees (k : IntKind) (w : World) (B : Nat) (A : Option Addr) (l : List Nat) : Prop :=
  0 < l.length → ∃ b off, A = some ⟨b, off, none⟩ ∧ b < B ∧ ∀ i, i < l.length → w.cell? ⟨b, off + i, none⟩ = some (.int k ((l.getD i 0 : Nat) : Int))

theorem Sees.at_ {k : IntKind} {w : World} {B : Nat} {A : Option Addr} {l : List Nat} (h : Sees k w B A l) {i : Nat} (hi : i < l.length) :
    ∃ b off, A = some ⟨b, off, none⟩ ∧ b < B ∧ w.cell? ⟨b, off + i, none⟩ = some (.int k ((l.getD i 0 : Nat) : Int)) := by
  obtain ⟨b, off, e, hb, hc⟩ := h (by omega)
  exact ⟨b, off, e, hb, hc i hi⟩
theorem Sees.keep {k : IntKind} {w w' : World} {B : Nat} {A : Option Addr} {l : List Nat} (h : Sees k w B A l) (hk : ∀ p : Addr, p.block < B → w'.cell? p = w.cell? p) : Sees k w' B A l := fun hl => by
  obtain ⟨b, off, e, hb, hc⟩ := h hl
  exact ⟨b, off, e, hb, fun i hi => (hk _ hb).trans (hc i hi)⟩
theorem Sees.below {k : IntKind} {w w' : World} {B : Nat} {A : Option Addr} {l : List Nat} (h : Sees k w B A l) (hb : Below B w w') : Sees k w' B A l := h.keep fun _ hp => hb.cell hp
theorem Sees.more {k : IntKind} {w : World} {B B' : Nat} {A : Option Addr} {l : List Nat} (h : Sees k w B A l) (hB : B ≤ B') : Sees k w B' A l := fun hl => by
  obtain ⟨b, off, e, hb, hc⟩ := h hl
  exact ⟨b, off, e, by omega, hc⟩
/-- the rest from place j on -/
theorem Sees.drop {k : IntKind} {w : World} {B b off : Nat} {l : List Nat} (h : Sees k w B (some ⟨b, off, none⟩) l) (j : Nat) : Sees k w B (some ⟨b, off + j, none⟩) (l.drop j) := fun hl => by
  rw [List.length_drop] at hl
  obtain ⟨b', off', e, hb, hc⟩ := h (by omega)
  injection e with e
  injection e with e1 e2 e3
  subst e1 e2
  refine ⟨b, off + j, rfl, hb, fun i hi => ?_⟩
  rw [List.length_drop] at hi
  rw [Nat.add_assoc, hc (j + i) (by omega)]
  simp [List.getD]
theorem Sees.take {k : IntKind} {w : World} {B : Nat} {A : Option Addr} {l : List Nat} (h : Sees k w B A l) (j : Nat) : Sees k w B A (l.take j) := fun hl => by
  rw [List.length_take] at hl
  obtain ⟨b, off, e, hb, hc⟩ := h (by omega)
  refine ⟨b, off, e, hb, fun i hi => ?_⟩
  rw [List.length_take] at hi
  rw [hc i (by omega)]
  simp [List.getD, List.getElem?_take_of_lt (show i < j by omega)]

/-- numbers as cells -/
def ints (k : IntKind) (l : List Nat) : List Value := l.map fun (x : Nat) => Value.int k (x : Int)
theorem ints_nil (k : IntKind) : ints k [] = [] := rfl
theorem ints_append (k : IntKind) (a b : List Nat) : ints k (a ++ b) = ints k a ++ ints k b := by simp [ints]
theorem ints_length (k : IntKind) (a : List Nat) : (ints k a).length = a.length := by simp [ints]
theorem ints_get (k : IntKind) (a : List Nat) (i : Nat) (h : i < a.length) : (ints k a)[i]? = some (.int k ((a.getD i 0 : Nat) : Int)) := by
  simp [ints, List.getD, List.getElem?_eq_getElem h]
theorem ints_one (k : IntKind) (a : List Nat) : ∀ u ∈ ints k a, u.oneCell' = true := by
  intro u hu
  simp only [ints, List.mem_map] at hu
  obtain ⟨x, _, rfl⟩ := hu
  rfl

/-- what a call made and owns can be read -/
theorem Sees.of_own {k : IntKind} {w : World} {base : Nat} {e : TypeId} {A : Option Addr} {n c : Nat} {l : List Nat} (h : w.ownsRow base e 1 (.slice A n c) l.length (ints k l)) : Sees k w w.heap.size A l := by
  intro hl
  rcases h.2 with ⟨hv, hn⟩ | ⟨g, cap, cur, hv, hg, hh, hnc, hm, hs, ht⟩
  · omega
  · injection hv with hA _ _
    subst hA
    have hlt : g < w.heap.size := by
      rcases Nat.lt_or_ge g w.heap.size with h1 | h1
      · exact h1
      · rw [Array.getElem?_eq_none h1] at hh; cases hh
    refine ⟨g, 0, rfl, hlt, fun i hi => ?_⟩
    have := World.ownsRow.cells h (g := g) rfl i _ (ints_get k l i hi)
    rw [← this]
    congr 1
    unfold Addr.add
    split
    · simp_all
    · simp

theorem own_shape {w : World} {base : Nat} {t : TypeId} {size n : Nat} {v : Value} {xs : List Value} (h : w.ownsRow base t size v n xs) : ∃ A c, v = .slice A n c := by
  rcases h.2 with ⟨hv, h0⟩ | ⟨g, cap, cur, hv, _⟩
  · exact ⟨none, 0, by rw [hv, h0]⟩
  · exact ⟨_, cap, hv⟩

theorem own_nil {w : World} {base : Nat} {t : TypeId} {size n c : Nat} {A : Option Addr} {xs : List Value} (h : w.ownsRow base t size (.slice A n c) n xs) : A = none → c = 0 := by
  rcases h.2 with ⟨hv, h0⟩ | ⟨g, cap, cur, hv, _⟩
  · injection hv with _ _ h; exact fun _ => h
  · injection hv with h _ _; subst h; exact fun h => by cases h
theorem own_below {w w' : World} {base : Nat} {t : TypeId} {size n : Nat} {v : Value} {xs : List Value} (h : w.ownsRow base t size v n xs) (hb : Below w.heap.size w w') : w'.ownsRow base t size v n xs := by
  obtain ⟨h1, h2⟩ := h
  refine ⟨h1, ?_⟩
  rcases h2 with h2 | ⟨g, cap, cur, hv, hg, hh, r⟩
  · exact .inl h2
  · have hlt : g < w.heap.size := by
      rcases Nat.lt_or_ge g w.heap.size with h | h
      · exact h
      · rw [Array.getElem?_eq_none h] at hh; cases hh
    exact .inr ⟨g, cap, cur, hv, hg, by rw [hb.block g hlt]; exact hh, r⟩

/-! ### append -/

/-- T is a slice type over E, whose values are one cell each -/
structure ElemT (P : Program) (T E : TypeId) (z : Value) (bytes : Nat) : Prop where
  under : P.underlying T = some (.slice E)
  info : (P.info? E).map (fun i => (i.zero, i.size, i.bytes)) = some (some z, 1, bytes)
  one : z.cells.size = 1
  few : bytes ≤ 64

section
variable {P : Program} {T E : TypeId} {z : Value} {bytes : Nat}

/-- 'append(s, x)' of one element onto a row of the call's own -/
theorem wpList_append1 (hT : ElemT P T E z bytes) {ops : Array Oper} {rest : List Oper} {o : Oper} {a : Act} {Q : Exit → Act → World → Prop} {wr : World} {u : Value} (s x : Operand) (hgd : o.guard = none)
    (ho : o.op = .call { callee := .builtin .append, args := #[s, x], argTypes := #[T, T] }) (base : Nat) (v : Value) (n : Nat) (xs : List Value) (hs : a.eval s = v) (hx : a.eval x = .slice (some ⟨wr.heap.size, 0, none⟩) 1 1) (hu : u.oneCell' = true)
    (hown : wr.ownsRow base E 1 v n xs) (hn : n ≤ 1000000001000) (hbase : base ≤ wr.heap.size)
    (h : ∀ v' w', w'.ownsRow base E 1 v' (n + 1) (xs ++ [u]) → (wr.alloc (.cells #[u] E)).grownBy w' v.ownBlock → wpList P ops Q rest (a.put o.dst v') w') : wpList P ops Q (o :: rest) a (wr.alloc (.cells #[u] E)) := by
  obtain ⟨i0, hi, hz0, hz1, hz2⟩ := info_parts hT.info
  have hf := hT.few
  have hm : (n + 1) * bytes ≤ 140737488355328 := Nat.le_trans (Nat.mul_le_mul (show n + 1 ≤ 1000000001001 by omega) hf) (by omega)
  exact wpList_append_own _ hgd s x T ho base E i0 z 1 bytes hT.under hi hz0 hz1 hz2 hT.one (by decide) v n xs hs (hown.alloc _) ⟨wr.heap.size, 0, none⟩ 1 1 [u] hx rfl (cell_one_new _ _ _) (by simpa using hu) (by unfold maxLen; omega) hm (by simp; omega) (fun v' w' h1 h2 _ => h v' w' h1 h2)
end

/-! ### append of a slice, and of one value, where the order is drawn -/

section
variable {P : Program} {T E : TypeId} {z : Value} {bytes : Nat}
theorem run_append_row (hT : ElemT P T E z bytes) {w : World} (ty base : Nat) (v : Value) (n : Nat) (xs : List Value) (hown : w.ownsRow base E 1 v n xs) {k : IntKind} {B : Nat} {A : Option Addr} {l : List Nat} (m c : Nat) (hm : l.length = m) (hc : A = none → c = 0)
    (hsee : Sees k w B A l) (hn : n + m ≤ 1000000001001) (hbase : base ≤ w.heap.size) :
    ∃ v' w', (Builtin.append_ #[T, T] ty #[v, .slice A m c]).run P w = .ok v' w' ∧ w'.ownsRow base E 1 v' (n + m) (xs ++ ints k l) ∧ w.grownBy w' v.ownBlock := by
  obtain ⟨i0, hi, hz0, hz1, hz2⟩ := info_parts hT.info
  have hf := hT.few
  have hb : (n + m) * bytes ≤ 140737488355328 := Nat.le_trans (Nat.mul_le_mul hn hf) (by omega)
  cases A with
  | none =>
    have h0 : l = [] := by
      rcases Nat.eq_zero_or_pos l.length with h | h
      · exact List.eq_nil_of_length_eq_zero h
      · obtain ⟨_, _, e, _⟩ := hsee h; cases e
    have hc0 := hc rfl
    subst h0 hc0
    have hm0 : m = 0 := by simpa using hm.symm
    subst hm0
    exact ⟨v, w, run_append_owned_none w base T ty E i0 1 hT.under hi v n xs hown, by simpa [ints] using hown, World.grownBy.refl w _⟩
  | some ad =>
    have hnews : ∀ j u, (ints k l)[j]? = some u → w.cell? (ad.add j) = some u := by
      intro j u hu
      have hj : j < l.length := by
        rcases Nat.lt_or_ge j l.length with h | h
        · exact h
        · rw [List.getElem?_eq_none (by rw [ints_length]; exact h)] at hu; cases hu
      obtain ⟨b, off, e, _, hcell⟩ := hsee (by omega)
      injection e with e
      subst e
      have ha : (⟨b, off, none⟩ : Addr).add j = ⟨b, off + j, none⟩ := by unfold Addr.add; split <;> simp_all
      rw [ha, hcell j hj, ← ints_get k l j hj, hu]
    obtain ⟨v', w', h1, h2, h3, _⟩ := run_append_own_at (P := P) w base T ty E i0 z 1 bytes hT.under hi hz0 hz1 hz2 hT.one (by decide) v n xs hown ad m c (ints k l) (by rw [ints_length]; omega) hnews (ints_one k l) (by unfold maxLen; omega) hb hbase
    exact ⟨v', w', h1, h2, h3⟩

/-- 'append(s, x...)' where the order is drawn -/
theorem step_append_row (hT : ElemT P T E z bytes) {ops : Array Oper} {o : Oper} {a : Act} {w : World} {K : Act → World → Prop} {Q : Exit → Act → World → Prop} {F : Prop} (s x : Operand) (hgd : o.guard = none)
    (ho : o.op = .call { callee := .builtin .append, args := #[s, x], argTypes := #[T, T] }) (base : Nat) (v : Value) (n : Nat) (xs : List Value) (hs : a.eval s = v) (hown : w.ownsRow base E 1 v n xs) {k : IntKind} {B : Nat} {A : Option Addr} {l : List Nat} (m c : Nat)
    (hx : a.eval x = .slice A m c) (hm : l.length = m) (hc : A = none → c = 0) (hsee : Sees k w B A l) (hn : n + m ≤ 1000000001001) (hbase : base ≤ w.heap.size)
    (h : ∀ v' w', w'.ownsRow base E 1 v' (n + m) (xs ++ ints k l) → w.grownBy w' v.ownBlock → K (a.put o.dst v') w') : if Region.wanted o (yielded ops a.tmps) = true then Oper.wp P o a w K Q else F := by
  have hw : Region.wanted o (yielded ops a.tmps) = true := by simp [Region.wanted, hgd]
  rw [if_pos hw]
  obtain ⟨v', w', hr, h2, h3⟩ := run_append_row hT (w := w) o.type base v n xs hown m c hm hc hsee hn hbase
  unfold Oper.wp execOp
  simp only [ho, resolve, invoke, builtin, Sem.run_bind, Sem.run_pure, Result.andThen_ok, List.map_toArray, List.map_cons, List.map_nil, hs, hx, hr]
  exact h v' w' h2 h3
/-- the same for an operation with a guard that is wanted -/
theorem step_append_row_if (hT : ElemT P T E z bytes) {ops : Array Oper} {o : Oper} {a : Act} {w : World} {K : Act → World → Prop} {Q : Exit → Act → World → Prop} {F : Prop} (s x : Operand) (hw : Region.wanted o (yielded ops a.tmps) = true)
    (ho : o.op = .call { callee := .builtin .append, args := #[s, x], argTypes := #[T, T] }) (base : Nat) (v : Value) (n : Nat) (xs : List Value) (hs : a.eval s = v) (hown : w.ownsRow base E 1 v n xs) {k : IntKind} {B : Nat} {A : Option Addr} {l : List Nat} (m c : Nat)
    (hx : a.eval x = .slice A m c) (hm : l.length = m) (hc : A = none → c = 0) (hsee : Sees k w B A l) (hn : n + m ≤ 1000000001001) (hbase : base ≤ w.heap.size)
    (h : ∀ v' w', w'.ownsRow base E 1 v' (n + m) (xs ++ ints k l) → w.grownBy w' v.ownBlock → K (a.put o.dst v') w') : if Region.wanted o (yielded ops a.tmps) = true then Oper.wp P o a w K Q else F := by
  rw [if_pos hw]
  obtain ⟨v', w', hr, h2, h3⟩ := run_append_row hT (w := w) o.type base v n xs hown m c hm hc hsee hn hbase
  unfold Oper.wp execOp
  simp only [ho, resolve, invoke, builtin, Sem.run_bind, Sem.run_pure, Result.andThen_ok, List.map_toArray, List.map_cons, List.map_nil, hs, hx, hr]
  exact h v' w' h2 h3
/-- 'append(s, x...)' in a plain walk -/
theorem wpList_append_row (hT : ElemT P T E z bytes) {ops : Array Oper} {rest : List Oper} {o : Oper} {a : Act} {w : World} {Q : Exit → Act → World → Prop} (s x : Operand) (hgd : o.guard = none)
    (ho : o.op = .call { callee := .builtin .append, args := #[s, x], argTypes := #[T, T] }) (base : Nat) (v : Value) (n : Nat) (xs : List Value) (hs : a.eval s = v) (hown : w.ownsRow base E 1 v n xs) {k : IntKind} {B : Nat} {A : Option Addr} {l : List Nat} (m c : Nat)
    (hx : a.eval x = .slice A m c) (hm : l.length = m) (hc : A = none → c = 0) (hsee : Sees k w B A l) (hn : n + m ≤ 1000000001001) (hbase : base ≤ w.heap.size)
    (h : ∀ v' w', w'.ownsRow base E 1 v' (n + m) (xs ++ ints k l) → w.grownBy w' v.ownBlock → wpList P ops Q rest (a.put o.dst v') w') : wpList P ops Q (o :: rest) a w := by
  refine wpList_plain hgd fun K hK => ?_
  obtain ⟨v', w', hr, h2, h3⟩ := run_append_row hT (w := w) o.type base v n xs hown m c hm hc hsee hn hbase
  unfold Oper.wp execOp
  simp only [ho, resolve, invoke, builtin, Sem.run_bind, Sem.run_pure, Result.andThen_ok, List.map_toArray, List.map_cons, List.map_nil, hs, hx, hr]
  exact hK _ _ (h v' w' h2 h3)
end

/-! ### bytes as a string -/

def strOf (l : List Nat) : ByteArray := ⟨(l.map UInt8.ofNat).toArray⟩
theorem strOf_nums (l : List Nat) : strOfNums (l.map fun x : Nat => (x : Int)) = strOf l := by
  unfold strOfNums strOf
  congr 2
  simp
theorem strOf_append (a b : List Nat) : (strOf a) ++ (strOf b) = strOf (a ++ b) := by
  apply ByteArray.ext
  simp [strOf]
theorem strOf_size (l : List Nat) : (strOf l).size = l.length := by simp [strOf, ByteArray.size]

section
variable {P : Program} {src e dst : TypeId} (hs : P.underlying src = some (.slice e)) (he : P.underlying e = some (.int .u8)) (hd : P.underlying dst = some .string)
include hs he hd
theorem conv_sees {w : World} {B : Nat} {A : Option Addr} {l : List Nat} (n c : Nat) (hn : l.length = n) (h : Sees .u8 w B A l) : (convert src dst (.slice A n c)).run P w = .ok (.string (strOf l)) w := by
  rcases Nat.eq_zero_or_pos l.length with h0 | h0
  · have hl : l = [] := List.eq_nil_of_length_eq_zero h0
    subst hl
    subst hn
    cases A with
    | none => exact run_convert_bytes_nil w src e hs he _ c dst hd
    | some a =>
      rw [run_convert_bytes_string w src dst e _ _ c hs he hd]
      have := run_bytesToString (P := P) w a 0 c [] (by simpa using run_loadCells_list (P := P) w a [] (fun j v hj => by simp at hj))
      rw [show ([] : List Nat).length = 0 from rfl, this]
      rfl
  · obtain ⟨b, off, rfl, _, hc⟩ := h h0
    rw [← strOf_nums]
    refine run_convert_bytes_arg w src e hs he b off n c _ (by simpa using hn) (fun i hi => ?_) dst hd
    rw [hc i (by omega)]
    simp [List.getD, List.getElem?_eq_getElem (show i < l.length by omega)]
theorem conv_own {w : World} {base : Nat} {t : TypeId} {v : Value} {l : List Nat} (h : w.ownsRow base t 1 v l.length (ints .u8 l)) : (convert src dst v).run P w = .ok (.string (strOf l)) w := by
  rcases h.2 with ⟨hv, h0⟩ | ⟨g, cap, cur, hv, _⟩
  · have hl : l = [] := List.eq_nil_of_length_eq_zero h0
    subst hl hv
    exact run_convert_bytes_nil w src e hs he _ 0 dst hd
  · subst hv
    exact conv_sees hs he hd l.length cap rfl (Sees.of_own h)
end
end Go.Proofs.Ytjomchehnlnfcaa
/- Small words that every layer's texts share. -/
namespace Go.Proofs.Ytjomchehnlnfcaa
open Go.RowKit
set_option linter.unusedVariables false

theorem ret_int {k : IntKind} {a b : Int} (h : a = b) : Ending.returned (.int k a) = .returned (.int k b) := by rw [h]
theorem ret_bool {a b : Bool} (h : a = b) : Ending.returned (.bool a) = .returned (.bool b) := by rw [h]
theorem ret3 {k1 k2 k3 : IntKind} {a b c a' b' c' : Int} (h1 : a = a') (h2 : b = b') (h3 : c = c') : Ending.returned (.tuple #[.int k1 a, .int k2 b, .int k3 c]) = .returned (.tuple #[.int k1 a', .int k2 b', .int k3 c']) := by rw [h1, h2, h3]
theorem getD_lt {l : List Nat} (h : ∀ x ∈ l, x < 256) (j : Nat) : l.getD j 0 < 256 := by
  rcases Nat.lt_or_ge j l.length with hj | hj
  · simp only [List.getD, List.getElem?_eq_getElem hj, Option.getD_some]
    exact h _ (List.getElem_mem hj)
  · simp [List.getD, List.getElem?_eq_none hj]
theorem getD_u64 {l : List Nat} (h : ∀ x ∈ l, x < 18446744073709551616) (j : Nat) : l.getD j 0 < 18446744073709551616 := by
  rcases Nat.lt_or_ge j l.length with hj | hj
  · simp only [List.getD, List.getElem?_eq_getElem hj, Option.getD_some]
    exact h _ (List.getElem_mem hj)
  · simp [List.getD, List.getElem?_eq_none hj]
theorem take_next {l : List Nat} {j : Nat} (h : j < l.length) : l.take (j + 1) = l.take j ++ [l.getD j 0] := by
  rw [List.take_succ_eq_append_getElem h]
  simp [List.getD, List.getElem?_eq_getElem h]
theorem sees_new {w : World} {fr : Nat × Nat} (b : Nat) (l : List Nat) (cs : Array Value) (t : TypeId) (hb : b = w.heap.size) (h : cs.toList = ints .u8 l) : Sees .u8 (w.alloc (.cells cs t fr)) (b + 1) (some ⟨b, 0, none⟩) l := fun hl =>
  ⟨b, 0, rfl, by omega, fun i hi => by
    subst hb
    have hg := ints_get .u8 l i hi
    rw [← h] at hg
    simp only [World.cell?, World.alloc, Array.getElem?_push_size]
    simpa using hg⟩
theorem u32_and_one (x : Nat) (h : x < 4294967296) : bits .and .u32 (x : Int) 1 = ((x % 2 : Nat) : Int) := by
  have := u32_and_nat x 1 h (by omega)
  rw [Nat.and_one_is_mod] at this
  exact this
theorem i64_and_one (x : Nat) (h : x < 9223372036854775808) : bits .and .i64 (x : Int) 1 = ((x % 2 : Nat) : Int) := by
  have h1 : x % 2 < 2 := Nat.mod_lt _ (by decide)
  show IntKind.i64.wrap ((BitVec.ofInt 64 (x : Int) &&& BitVec.ofInt 64 ((1 : Nat) : Int)).toNat : Int) = _
  rw [BitVec.toNat_and, BitVec.ofInt_natCast, BitVec.ofInt_natCast, BitVec.toNat_ofNat, BitVec.toNat_ofNat, Nat.mod_eq_of_lt (by omega), Nat.mod_eq_of_lt (by omega), Nat.and_one_is_mod, IntKind.wrap_i64]
  omega
theorem below_sum {B : Nat} {w w1 w2 : World} (h : Below B w w1) (k : Below w1.heap.size w1 w2) (hB : B ≤ w.heap.size) : Below B w w2 := h.trans (k.mono (Nat.le_trans hB h.size))
theorem bit_int (x k : Nat) : (((x : Int) / 2 ^ k).tmod 2 == 1) = x.testBit k := by
  have h : ((x : Int) / 2 ^ k) = ((x / 2 ^ k : Nat) : Int) := by rw [Int.natCast_ediv, Int.natCast_pow]; rfl
  rw [h, Nat.testBit_eq_decide_div_mod_eq, Bool.eq_iff_iff]
  generalize x / 2 ^ k = y
  rw [Int.tmod_eq_emod_of_nonneg (by omega)]
  simp
  omega
theorem nil_sees (k : IntKind) (w : World) (A : Option Addr) : Sees k w 0 A [] := fun h => absurd h (by simp)
theorem toList_inj {a b : ByteArray} (h : a.toList = b.toList) : a = b := by
  rw [ByteArray.toList_eq, ByteArray.toList_eq] at h
  apply ByteArray.ext
  exact Array.toList_inj.1 h
theorem strOf_inj {a b : List Nat} (ha : ∀ x ∈ a, x < 256) (hb : ∀ x ∈ b, x < 256) (h : strOf a = strOf b) : a = b := by
  unfold strOf at h
  injection h with h
  have h1 : a.map UInt8.ofNat = b.map UInt8.ofNat := by simpa using h
  have h2 := congrArg (List.map UInt8.toNat) h1
  have e : ∀ l : List Nat, (∀ x ∈ l, x < 256) → (l.map UInt8.ofNat).map UInt8.toNat = l := by
    intro l hl
    rw [List.map_map]
    conv => rhs; rw [← List.map_id l]
    refine List.map_congr_left fun x hx => ?_
    simp [UInt8.toNat_ofNat', Nat.mod_eq_of_lt (hl x hx)]
  rwa [e a ha, e b hb] at h2
/-- the call answers a row of its own from base on, which holds l; below base nothing has turned -/
def Made (k : IntKind) (t base : Nat) (l : List Nat) (w : World) (e : Ending) (w' : World) : Prop :=
  ∃ v, e = .returned v ∧ w'.ownsRow base t 1 v l.length (ints k l) ∧ Below base w w'
theorem and7 (n : Int) (h1 : -9223372036854775808 ≤ n) (h2 : n ≤ 9223372036854775807) : bits .and .i64 n 7 = n % 8 := by
  show IntKind.i64.wrap ((BitVec.ofInt 64 n &&& BitVec.ofInt 64 ((7 : Nat) : Int)).toNat : Int) = _
  rw [BitVec.toNat_and, BitVec.ofInt_natCast, BitVec.toNat_ofNat, BitVec.toNat_ofInt, Nat.mod_eq_of_lt (show 7 < 2 ^ 64 by omega)]
  have h := Nat.and_two_pow_sub_one_eq_mod (n % ((2 ^ 64 : Nat) : Int)).toNat 3
  rw [show (7 : Nat) = 2 ^ 3 - 1 by decide, h, IntKind.wrap_i64]
  omega
end Go.Proofs.Ytjomchehnlnfcaa
/- Facts on the types of bytes. -/
namespace Go.Proofs.Ytjomchehnlnfcaa
theorem byteT : ElemT Try.prog 34 5 (.int .u8 0) 1 := ⟨Try.underlying34, by kernel_rfl, rfl, by decide⟩
theorem byteSize : (Try.prog.info? 5).map (·.size) = some 1 := by kernel_rfl
end Go.Proofs.Ytjomchehnlnfcaa
/- Facts on the types of numbers of 64 bits. -/
namespace Go.Proofs.Ytjomchehnlnfcaa
theorem u64Size : (Try.prog.info? 55).map (·.size) = some 1 := by kernel_rfl
end Go.Proofs.Ytjomchehnlnfcaa
/- A region that draws its order, walked in ONE order: what yields in every world that meets S is taken where the plan says, all else comes alone. -/
namespace Go.Proofs.Ytjomchehnlnfcaa

section
variable {P : Program} {ops : Array Oper} {Q : Exit → Act → World → Prop} {S : World → Prop}

/-- (i, true): operation i is taken; (i, false): it is the only one that may come up -/
def okPlan (ops : Array Oper) : List (Nat × Bool) → Array Bool → Bool
  | [], listed => (Region.ready .any ops listed).isEmpty
  | (i, true) :: r, listed => Region.free .any ops listed i && (Region.ready .any ops listed).contains i && okPlan ops r (listed.setIfInBounds i true)
  | (i, false) :: r, listed => (Region.ready .any ops listed == [i]) && okPlan ops r (listed.setIfInBounds i true)

/-- what is to be shown along the plan -/
def Along (P : Program) (ops : Array Oper) (Q : Exit → Act → World → Prop) (S : World → Prop) : List (Nat × Bool) → Act → World → Prop
  | [], a, w => Q .normal a w
  | (i, true) :: r, a, w => ∃ o v, ops[i]? = some o ∧ YieldsIf P ops S o v a ∧ Along P ops Q S r (a.put o.dst v) w
  | (i, false) :: r, a, w => wpOp P ops Q i (fun a' w' => S w' ∧ Along P ops Q S r a' w') a w

theorem put_any_dst (hQ : ∀ t v c a w, Q (.panic c) (Act.put a (some t) v) w → Q (.panic c) a w) (d : Option Tmp) (v : Value) : ∀ c a w, Q (.panic c) (Act.put a d v) w → Q (.panic c) a w := by
  cases d with
  | none => exact fun _ _ _ h => h
  | some t => exact hQ t v

theorem along_sound (hs : Region.noSelect ops = true) (hQ : ∀ t v c a w, Q (.panic c) (Act.put a (some t) v) w → Q (.panic c) a w) :
    ∀ (r : List (Nat × Bool)) (listed : Array Bool) (a : Act) (w : World), okPlan ops r listed = true → S w → Along P ops Q S r a w → wpAnyH P .any ops Q S r.length listed a w
  | [], listed, a, w, hk, _, h => wpAnyH_done (by simpa [okPlan] using hk) h _
  | (i, true) :: r, listed, a, w, hk, hS, h => by
    obtain ⟨o, v, ho, hy, h⟩ := h
    simp only [okPlan, Bool.and_eq_true] at hk
    exact wpAnyH_take ho hs hk.1.1 hk.1.2 (put_any_dst hQ _ _) hy hS (along_sound hs hQ r _ _ _ hk.2 hS h)
  | (i, false) :: r, listed, a, w, hk, hS, h => by
    simp only [okPlan, Bool.and_eq_true, beq_iff_eq] at hk
    refine wpAnyH_all hk.1 (by simp) fun j hj => ?_
    obtain rfl : j = i := by simpa using hj
    exact wpOp_mono (fun a' w' h' => ⟨h'.1, along_sound hs hQ r _ _ _ hk.2 h'.1 h'.2⟩) h

theorem wp_region_plan {id : Nat} {a : Act} {w : World} (plan : List (Nat × Bool)) (hm : P.follows .mixedOrders = true) (hs : Region.noSelect ops = true) (hl : plan.length = ops.size)
    (hk : okPlan ops plan (Array.replicate ops.size false) = true) (hQ : ∀ t v c a w, Q (.panic c) (Act.put a (some t) v) w → Q (.panic c) a w)
    (hS : S w.drew) (h : Along P ops Q S plan a w.drew) : (Code.region id ops true).wp P Q a w := by
  have := along_sound hs hQ plan _ _ _ hk hS h
  rw [hl] at this
  exact wp_region_held hm this

theorem along_done {a : Act} {w : World} (h : Q .normal a w) : Along P ops Q S [] a w := h
theorem at_of_list {i : Nat} {o : Oper} (h : ops.toList[i]? = some o) : ops[i]? = some o := by rw [← h, Array.getElem?_toList]
theorem along_take {i : Nat} {r : List (Nat × Bool)} {a : Act} {w : World} {o : Oper} {v : Value} (ho : ops.toList[i]? = some o) (hw : Region.wanted o (yielded ops a.tmps) = true)
    (hy : ∀ W, S W → (execOp a.eval o).run P W = .ok (.value v) W) (h : Along P ops Q S r (a.put o.dst v) w) : Along P ops Q S ((i, true) :: r) a w :=
  ⟨o, v, at_of_list ho, .inl ⟨hw, hy⟩, h⟩
theorem along_skip {i : Nat} {r : List (Nat × Bool)} {a : Act} {w : World} {o : Oper} (ho : ops.toList[i]? = some o) (hw : Region.wanted o (yielded ops a.tmps) = false)
    (h : Along P ops Q S r (a.put o.dst undef) w) : Along P ops Q S ((i, true) :: r) a w :=
  ⟨o, undef, at_of_list ho, .inr ⟨hw, rfl⟩, h⟩
theorem along_step {i : Nat} {r : List (Nat × Bool)} {a : Act} {w : World} {o : Oper} (ho : ops.toList[i]? = some o)
    (h : ∀ K' : Act → World → Prop, Shut (∀ a w, S w → Along P ops Q S r a w → K' a w) → if Region.wanted o (yielded ops a.tmps) = true then Oper.wp P o a w K' Q else K' (a.put o.dst undef) w) : Along P ops Q S ((i, false) :: r) a w :=
  wpOp_step (at_of_list ho) fun K' hK => h K' (fun a w hS hA => hK a w ⟨hS, hA⟩)

/-! ### the same, where what is known of the worlds to come may grow behind each step -/

theorem wpAnyH_less {S S' : World → Prop} (hs : ∀ W, S' W → S W) : ∀ (fuel : Nat) (listed : Array Bool) (a : Act) (w : World), wpAnyH P .any ops Q S' fuel listed a w → wpAnyH P .any ops Q S fuel listed a w
  | 0, _, _, _, h => h
  | fuel + 1, _, _, _, h => ⟨h.1, fun i hi => wpOp_mono (fun a' w' h' => ⟨hs _ h'.1, wpAnyH_less hs fuel _ a' w' h'.2⟩) (h.2 i hi)⟩

def AlongS (P : Program) (ops : Array Oper) (Q : Exit → Act → World → Prop) : List (Nat × Bool) → (World → Prop) → Act → World → Prop
  | [], _, a, w => Q .normal a w
  | (i, true) :: r, S, a, w => ∃ o v, ops[i]? = some o ∧ YieldsIf P ops S o v a ∧ AlongS P ops Q r S (a.put o.dst v) w
  | (i, false) :: r, S, a, w => wpOp P ops Q i (fun a' w' => ∃ S' : World → Prop, (∀ W, S' W → S W) ∧ S' w' ∧ AlongS P ops Q r S' a' w') a w

theorem alongS_sound (hs : Region.noSelect ops = true) (hQ : ∀ t v c a w, Q (.panic c) (Act.put a (some t) v) w → Q (.panic c) a w) :
    ∀ (r : List (Nat × Bool)) (S : World → Prop) (listed : Array Bool) (a : Act) (w : World), okPlan ops r listed = true → S w → AlongS P ops Q r S a w → wpAnyH P .any ops Q S r.length listed a w
  | [], S, listed, a, w, hk, _, h => wpAnyH_done (by simpa [okPlan] using hk) h _
  | (i, true) :: r, S, listed, a, w, hk, hS, h => by
    obtain ⟨o, v, ho, hy, h⟩ := h
    simp only [okPlan, Bool.and_eq_true] at hk
    exact wpAnyH_take ho hs hk.1.1 hk.1.2 (put_any_dst hQ _ _) hy hS (alongS_sound hs hQ r S _ _ _ hk.2 hS h)
  | (i, false) :: r, S, listed, a, w, hk, hS, h => by
    simp only [okPlan, Bool.and_eq_true, beq_iff_eq] at hk
    refine wpAnyH_all hk.1 (by simp) fun j hj => ?_
    obtain rfl : j = i := by simpa using hj
    refine wpOp_mono (fun a' w' h' => ?_) h
    obtain ⟨S', h1, h2, h3⟩ := h'
    exact ⟨h1 _ h2, wpAnyH_less h1 _ _ _ _ (alongS_sound hs hQ r S' _ _ _ hk.2 h2 h3)⟩

theorem wp_region_plans {id : Nat} {a : Act} {w : World} (S : World → Prop) (plan : List (Nat × Bool)) (hm : P.follows .mixedOrders = true) (hs : Region.noSelect ops = true) (hl : plan.length = ops.size)
    (hk : okPlan ops plan (Array.replicate ops.size false) = true) (hQ : ∀ t v c a w, Q (.panic c) (Act.put a (some t) v) w → Q (.panic c) a w)
    (hS : S w.drew) (h : AlongS P ops Q plan S a w.drew) : (Code.region id ops true).wp P Q a w := by
  have := alongS_sound hs hQ plan S _ _ _ hk hS h
  rw [hl] at this
  exact wp_region_held hm this
theorem alongs_done {a : Act} {w : World} (h : Q .normal a w) : AlongS P ops Q [] S a w := h
theorem alongs_take {i : Nat} {r : List (Nat × Bool)} {a : Act} {w : World} {o : Oper} {v : Value} (ho : ops.toList[i]? = some o) (hw : Region.wanted o (yielded ops a.tmps) = true)
    (hy : ∀ W, S W → (execOp a.eval o).run P W = .ok (.value v) W) (h : AlongS P ops Q r S (a.put o.dst v) w) : AlongS P ops Q ((i, true) :: r) S a w :=
  ⟨o, v, at_of_list ho, .inl ⟨hw, hy⟩, h⟩
theorem alongs_skip {i : Nat} {r : List (Nat × Bool)} {a : Act} {w : World} {o : Oper} (ho : ops.toList[i]? = some o) (hw : Region.wanted o (yielded ops a.tmps) = false)
    (h : AlongS P ops Q r S (a.put o.dst undef) w) : AlongS P ops Q ((i, true) :: r) S a w :=
  ⟨o, undef, at_of_list ho, .inr ⟨hw, rfl⟩, h⟩
theorem alongs_step {i : Nat} {r : List (Nat × Bool)} {a : Act} {w : World} {o : Oper} (ho : ops.toList[i]? = some o)
    (h : ∀ K' : Act → World → Prop, Shut (∀ (S' : World → Prop) a w, (∀ W, S' W → S W) → S' w → AlongS P ops Q r S' a w → K' a w) → if Region.wanted o (yielded ops a.tmps) = true then Oper.wp P o a w K' Q else K' (a.put o.dst undef) w) : AlongS P ops Q ((i, false) :: r) S a w :=
  wpOp_step (at_of_list ho) fun K' hK => h K' (fun S' a w h1 h2 h3 => hK a w ⟨S', h1, h2, h3⟩)
end
end Go.Proofs.Ytjomchehnlnfcaa
/- Words for a block of memory that is known whole, and for arrays that are read and written as one value. -/
namespace Go.Proofs.Ytjomchehnlnfcaa
open Go.RowKit
set_option linter.unusedVariables false

/-- block g holds just the cells cs, of element type t, none of them frozen -/
def Whole (w : World) (g t : Nat) (cs : Array Value) : Prop := w.heap[g]? = some (.cells cs t (0, 0))

section
variable {w w' : World} {g t : Nat} {cs : Array Value}
theorem Whole.lt (h : Whole w g t cs) : g < w.heap.size := by
  unfold Whole at h
  rcases Nat.lt_or_ge g w.heap.size with h1 | h1
  · exact h1
  · rw [Array.getElem?_eq_none h1] at h; cases h
theorem Whole.at_ (h : Whole w g t cs) (i : Nat) : w.cell? ⟨g, i, none⟩ = cs[i]? := cell_of_row w g i cs t (0, 0) h
theorem Whole.free (h : Whole w g t cs) (i : Nat) : w.frozen? ⟨g, i, none⟩ = false := frozen_of_row w g i cs t h
theorem Whole.made (w : World) (t : Nat) (cs : Array Value) : Whole (w.alloc (.cells cs t)) w.heap.size t cs := heap_alloc_new w _
theorem Whole.alloc (h : Whole w g t cs) (o : Obj) : Whole (w.alloc o) g t cs := (Below.heap_alloc w o g h.lt).trans h
theorem Whole.drew (h : Whole w g t cs) : Whole w.drew g t cs := h
theorem Whole.put (h : Whole w g t cs) (i : Nat) (u : Value) : Whole (w.setCell ⟨g, i, none⟩ u) g t (cs.setIfInBounds i u) := heap_setCell_same w g i cs t u h
theorem Whole.other (h : Whole w g t cs) {p : Addr} (hp : g ≠ p.block) (u : Value) : Whole (w.setCell p u) g t cs := (heap_setCell_other w p g u hp).trans h
theorem Whole.below {B : Nat} (h : Whole w g t cs) (hb : Below B w w') (hg : g < B) : Whole w' g t cs := (hb.block g hg).trans h
theorem Whole.row (h : Whole w g t cs) (cs' : Array Value) : Whole (w.setRow g cs') g t cs' := setRow_heap w g cs _ t _ h
theorem Whole.rowOther (h : Whole w g t cs) {g' : Nat} (hp : g ≠ g') (cs' : Array Value) : Whole (w.setRow g' cs') g t cs := (setRow_other w g' g cs' (by omega)).trans h
theorem below_row {B : Nat} {a : World} (h : Below B a w) (hg : B ≤ g) (cs' : Array Value) : Below B a (w.setRow g cs') :=
  ⟨h.os, h.tape, h.output, by rw [size_setRow]; exact h.size, fun i hi => (setRow_other w g i cs' (by omega)).trans (h.block i hi)⟩
end

section
variable {P : Program} {ty : TypeId} {n : Nat} {e : TypeId} {cs : Array Value} (hu : P.underlying ty = some (.array n e)) (hi : (P.info? ty).map (·.size) = some cs.size)
include hu hi
/-- a whole array is read -/
theorem exec_load_whole {o : Oper} {a : Act} {W : World} {x : Operand} {g t : Nat} (ho : o.op = .load ty x) (hx : a.eval x = .pointer (some ⟨g, 0, none⟩)) (hg : Whole W g t cs) :
    (execOp a.eval o).run P W = .ok (.value (.agg cs)) W := by
  unfold execOp
  simp only [ho, hx, Instr.loadAt, Instr.sureAddr, Sem.run_bind, Sem.run_pure, Result.andThen_ok, run_loadVar_row W g t ty cs (0, 0) _ hg hu rfl hi]
theorem wpList_load_whole {ops : Array Oper} {rest : List Oper} {o : Oper} {a : Act} {w : World} {Q : Exit → Act → World → Prop} {x : Operand} {g t : Nat} (hgd : o.guard = none) (ho : o.op = .load ty x) (hx : a.eval x = .pointer (some ⟨g, 0, none⟩)) (hg : Whole w g t cs)
    (h : wpList P ops Q rest (a.put o.dst (.agg cs)) w) : wpList P ops Q (o :: rest) a w :=
  wpList_load_row hgd ty x ho g hx t cs (0, 0) _ hg hu rfl hi h
end
section
variable {P : Program} {ty : TypeId} {cs : Array Value}
/-- a whole array is written -/
theorem wpList_store_whole {ops : Array Oper} {rest : List Oper} {o : Oper} {a : Act} {w : World} {Q : Exit → Act → World → Prop} {x y : Operand} {g t : Nat} {cs' : Array Value} (hgd : o.guard = none) (hd : o.dst = none) (ho : o.op = .store ty x y) (hx : a.eval x = .pointer (some ⟨g, 0, none⟩)) (hy : a.eval y = .agg cs') (hg : Whole w g t cs)
    (hi : (P.info? ty).map (·.size) = some cs'.size) (hs : cs.size = cs'.size) (h1 : cs'.all (·.oneCell') = true)
    (h : wpList P ops Q rest a (w.setRow g cs')) : wpList P ops Q (o :: rest) a w := by
  refine wpList_plain hgd fun K hK => ?_
  unfold Oper.wp execOp
  simp only [ho, hx, hy, Instr.storeAt, Instr.sureAddr, Sem.run_bind, Sem.run_pure, Result.andThen_ok, run_storeVar_row w g t ty cs cs' hg hi hs h1]
  refine hK _ _ ?_
  rw [hd]
  exact h
end

/-! ### rows of numbers of the call's own, known whole -/
/-- block g holds just the numbers l -/
def Ints (k : IntKind) (w : World) (g t : Nat) (l : List Nat) : Prop := Whole w g t (ints k l).toArray
section
variable {k : IntKind} {w w' : World} {g t : Nat} {l : List Nat}
theorem Ints.lt (h : Ints k w g t l) : g < w.heap.size := Whole.lt h
theorem Ints.below {B : Nat} (h : Ints k w g t l) (hb : Below B w w') (hg : g < B) : Ints k w' g t l := Whole.below h hb hg
theorem Ints.alloc (h : Ints k w g t l) (o : Obj) : Ints k (w.alloc o) g t l := Whole.alloc h o
theorem Ints.drew (h : Ints k w g t l) : Ints k w.drew g t l := h
theorem Ints.at_ (h : Ints k w g t l) (i : Nat) (hi : i < l.length) : w.cell? ⟨g, i, none⟩ = some (.int k ((l.getD i 0 : Nat) : Int)) := by
  rw [Whole.at_ h]
  have := ints_get k l i hi
  simpa using this
theorem Ints.free (h : Ints k w g t l) (i : Nat) : w.frozen? ⟨g, i, none⟩ = false := Whole.free h i
theorem Ints.put (h : Ints k w g t l) (i x : Nat) : Ints k (w.setCell ⟨g, i, none⟩ (.int k (x : Int))) g t (l.set i x) := by
  have := Whole.put h i (.int k (x : Int))
  unfold Ints
  rw [show (ints k (l.set i x)).toArray = (ints k l).toArray.setIfInBounds i (.int k (x : Int)) by simp [ints, List.map_set]]
  exact this
theorem Ints.own {base n : Nat} (h : Ints k w g t l) (hb : base ≤ g) (hn : l.length = n) (hm : n ≤ maxLen) : w.ownsRow base t 1 (.slice (some ⟨g, 0, none⟩) n n) n (ints k l) :=
  ⟨by simp [ints_length, hn], .inr ⟨g, n, _, rfl, hb, h, Nat.le_refl _, hm, by simp [ints_length, hn], by rw [Nat.mul_one]; exact List.take_of_length_le (by rw [ints_length]; omega)⟩⟩
theorem Ints.sees (h : Ints k w g t l) : Sees k w (g + 1) (some ⟨g, 0, none⟩) l := fun _ => ⟨g, 0, rfl, by omega, fun i hi => by rw [Nat.zero_add]; exact h.at_ i hi⟩
end
section
variable {P : Program} {T E : TypeId} {k : IntKind} {bytes : Nat}
/-- 'make([]T, n)' for numbers -/
theorem run_make_ints (hT : ElemT P T E (.int k 0) bytes) (n : Nat) (hn : n ≤ 1000000001000) (w : World) :
    (Instr.makeSlice T (.int .i64 (n : Int)) (.int .i64 (n : Int))).run P w = .ok (.slice (some ⟨w.heap.size, 0, none⟩) n n) (w.alloc (.cells (ints k (List.replicate n 0)).toArray E)) := by
  obtain ⟨i0, hi, hz0, hz1, hz2⟩ := info_parts hT.info
  have hf := hT.few
  have hb : (i0.bytes : Int) * (n : Int) ≤ 281474976710656 := by
    have h : i0.bytes * n ≤ 281474976710656 := Nat.le_trans (Nat.mul_le_mul (by rw [hz2]; exact hf) hn) (by omega)
    have h' : ((i0.bytes * n : Nat) : Int) ≤ 281474976710656 := by omega
    rwa [Int.natCast_mul] at h'
  have hr := run_make (P := P) w T E i0 _ hT.under hi hz0 .i64 .i64 n n (by omega) (by omega) hb (by omega)
  rw [hr, Int.toNat_natCast, hz1, Nat.mul_one]
  congr 3
  apply Array.ext (by simp [madeCells, ints])
  intro j h1 h2
  simp [madeCells, ints, Value.cells, Nat.mod_one]
end

/-- the call answers a new block that holds just l; what was there has not turned -/
def News (k : IntKind) (t : Nat) (l : List Nat) (w : World) (e : Ending) (w' : World) : Prop :=
  ∃ g, e = .returned (.slice (some ⟨g, 0, none⟩) l.length l.length) ∧ w.heap.size ≤ g ∧ Ints k w' g t l ∧ Below w.heap.size w w'
theorem copy_src {k : IntKind} {w : World} {B : Nat} {A : Option Addr} {l : List Nat} {o : Obj} (h : Sees k w B A l) (hB : B ≤ w.heap.size) :
    0 < (ints k l).length → some (⟨w.heap.size, 0, none⟩ : Addr) = some ⟨w.heap.size, 0, none⟩ ∧ ∃ ad, A = some ad ∧ ∀ j v, (ints k l)[j]? = some v → (w.alloc o).cell? (ad.add j) = some v := by
  intro hl
  rw [ints_length] at hl
  obtain ⟨b, off, rfl, hb, hc⟩ := h hl
  refine ⟨rfl, _, rfl, fun j v hv => ?_⟩
  have hj : j < l.length := by
    rcases Nat.lt_or_ge j l.length with h | h
    · exact h
    · rw [List.getElem?_eq_none (by rw [ints_length]; exact h)] at hv; cases hv
  have ha : (⟨b, off, none⟩ : Addr).add j = ⟨b, off + j, none⟩ := by unfold Addr.add; split <;> simp_all
  rw [ha, World.cell?_alloc_lt w o _ (show b < w.heap.size by omega), hc j hj, ← ints_get k l j hj, hv]
theorem copied {w1 : World} {g t n : Nat} {l : List Nat} {zs xs : List Value} (hn : l.length = n) (hz : ints .u8 (List.replicate n 0) = zs) (hx : ints .u8 l = xs) (h : w1.heap[g]? = some (.cells (splice zs 0 xs).toArray t (0, 0))) : Ints .u8 w1 g t l := by
  subst hz hx
  have e : splice (ints .u8 (List.replicate n 0)) 0 (ints .u8 l) = ints .u8 l := by
    unfold splice
    rw [List.take_zero, List.nil_append, List.drop_of_length_le (by rw [ints_length, ints_length, hn]; simp), List.append_nil]
  rw [e] at h
  exact h
end Go.Proofs.Ytjomchehnlnfcaa
/- From the readings of a row's arguments to what the walks are told of them. -/
namespace Go.Proofs.Ytjomchehnlnfcaa
open Go.ChangeShapes Go.WideShapes Go.ChangeAt Go.RowKit
set_option linter.unusedVariables false

/-- what a walk is told of a slice of numbers without a sign -/
structure Row (k : IntKind) (w : World) (a : Option Addr) (len cap : Nat) (l : List Nat) : Prop where
  len_eq : l.length = len
  sees : Sees k w w.heap.size a l
  wf : ∀ x ∈ l, (Lit.int k (x : Int)).wf = true
  le : len ≤ cap
  max : cap ≤ maxLen
  null : a = none → cap = 0

theorem Row.byte {w : World} {a : Option Addr} {len cap : Nat} {l : List Nat} (h : Row .u8 w a len cap l) : ∀ x ∈ l, x < 256 := fun x hx => by
  have := bounds_u8 (h.wf x hx); omega
theorem Row.u64 {w : World} {a : Option Addr} {len cap : Nat} {l : List Nat} (h : Row .u64 w a len cap l) : ∀ x ∈ l, x < 18446744073709551616 := fun x hx => by
  have := bounds_u64 (h.wf x hx); omega

theorem row_of {k : IntKind} {w : World} {x : Addr} {len cap : Nat} {zs : List Int} (h0 : ∀ n, (Lit.int k n).wf = true → 0 ≤ n) (hl : len ≤ cap) (hm : cap ≤ maxLen) (hz : zs.length = cap)
    (hc : ∀ i, i < zs.length → w.cell? (x.add i) = some (.int k (zs.getD i 0))) (hw : ∀ n ∈ zs, (Lit.int k n).wf = true) : Row k w (some x) len cap ((zs.take len).map Int.toNat) := by
  refine ⟨by rw [List.length_map, List.length_take]; omega, ?_, ?_, hl, hm, fun h => by cases h⟩
  · intro hp
    rw [List.length_map, List.length_take] at hp
    obtain ⟨b, off, spot⟩ := x
    have hc0 := hc 0 (by omega)
    have hspot : spot = none := by simpa [Addr.add] using World.cell?_spot hc0
    subst hspot
    have hb : b < w.heap.size := by
      rcases Nat.lt_or_ge b w.heap.size with h | h
      · exact h
      · simp [World.cell?, Addr.add, Array.getElem?_eq_none h] at hc0
    refine ⟨b, off, rfl, hb, fun i hi => ?_⟩
    rw [List.length_map, List.length_take] at hi
    have hi' : i < zs.length := by omega
    have e := hc i hi'
    have ha : (⟨b, off, none⟩ : Addr).add i = ⟨b, off + i, none⟩ := by unfold Addr.add; split <;> simp_all
    rw [ha] at e
    rw [e]
    have hn : 0 ≤ zs[i] := h0 _ (hw _ (List.getElem_mem hi'))
    simp [List.getD, List.getElem?_eq_getElem hi', List.getElem?_take_of_lt (show i < len by omega), Int.toNat_of_nonneg hn]
  · intro y hy
    obtain ⟨z, hz1, rfl⟩ := List.mem_map.1 hy
    have hz2 := hw z (List.mem_of_mem_take hz1)
    rw [Int.toNat_of_nonneg (h0 _ hz2)]
    exact hz2
theorem row_none (k : IntKind) (w : World) : Row k w none 0 0 [] := ⟨rfl, fun h => absurd h (by simp), fun _ h => by simp at h, by omega, by unfold maxLen; omega, fun _ => rfl⟩

/-- an array of numbers by value, opened -/
theorem open_nums {H : Type} {enc : TypeId × Value → H} {P : Program} {w : World} {base : Nat} {spare : Nat → Bool} {held : Bool} {r : Reach} {b0 : Nat} {t e : TypeId} {n : Nat} {k : IntKind} {v : Value} {d : DataW H} {ps : List MemPlace}
    (ht : P.underlying t = some (.array n e)) (he : P.underlying e = some (.int k)) (ht1 : P.cellsOf t = n) (he1 : P.cellsOf e = 1) (hv : Value.okWide P w r b0 t v) (hd : DataW.Trod enc P w base spare held t v d ps) :
    ∃ zs : List Int, zs.length = n ∧ v = .agg (zs.map fun z => Value.int k z).toArray ∧ ∀ z ∈ zs, (Lit.int k z).wf = true := by
  obtain ⟨cs, rfl, hsz, _⟩ : ∃ cs, v = .agg cs ∧ cs.size = P.cellsOf t ∧ Row.okWide P w r b0 t cs := by simpa [Value.okWide, ht] using hv
  rw [ht1] at hsz
  obtain ⟨fuel, hf⟩ := hd
  obtain ⟨xs, m, _, _, _, hx, hall⟩ := DataW.trod_array ht hf
  have key : ∀ i, i < n → ∃ z, cs[i]? = some (.int k z) ∧ (Lit.int k z).wf = true := by
    intro i hi
    have h1 := hall i hi
    rw [he1, Nat.mul_one, List.getElem?_eq_getElem (by omega)] at h1
    obtain ⟨z, hz, _, hw⟩ := DataW.trod_int he h1
    refine ⟨z, ?_, hw⟩
    have hc : (Value.agg cs).cells = cs := rfl
    rw [hc, List.drop_eq_getElem_cons (show i < cs.toList.length by simp; omega)] at hz
    simp at hz
    rw [Array.getElem?_eq_getElem (by omega), hz]
  refine ⟨cs.toList.map intOf, by simpa using hsz, ?_, ?_⟩
  · congr 1
    apply Array.ext (by simp)
    intro i h1 h2
    obtain ⟨z, hz, _⟩ := key i (by omega)
    rw [Array.getElem?_eq_getElem h1] at hz
    injection hz with hz
    simp [hz, intOf]
  · intro z hz
    obtain ⟨u, hu, rfl⟩ := List.mem_map.1 hz
    obtain ⟨i, hi, rfl⟩ := List.getElem_of_mem hu
    obtain ⟨z, hz, hw⟩ := key i (by simpa [hsz] using hi)
    have h3 : cs[i]? = some cs.toList[i] := by simp [Array.getElem?_eq_getElem (show i < cs.size by simpa using hi)]
    rw [h3] at hz
    injection hz with hz
    rw [hz]
    exact hw

theorem len1 : ∀ {l : List Int}, l.length = 1 → ∃ a0, l = [a0]
  | [a0], _ => ⟨_, rfl⟩
theorem len2 : ∀ {l : List Int}, l.length = 2 → ∃ a0 a1, l = [a0, a1]
  | [a0, a1], _ => ⟨_, _, rfl⟩
theorem len3 : ∀ {l : List Int}, l.length = 3 → ∃ a0 a1 a2, l = [a0, a1, a2]
  | [a0, a1, a2], _ => ⟨_, _, _, rfl⟩
theorem len4 : ∀ {l : List Int}, l.length = 4 → ∃ a0 a1 a2 a3, l = [a0, a1, a2, a3]
  | [a0, a1, a2, a3], _ => ⟨_, _, _, _, rfl⟩
theorem len5 : ∀ {l : List Int}, l.length = 5 → ∃ a0 a1 a2 a3 a4, l = [a0, a1, a2, a3, a4]
  | [a0, a1, a2, a3, a4], _ => ⟨_, _, _, _, _, rfl⟩
theorem len6 : ∀ {l : List Int}, l.length = 6 → ∃ a0 a1 a2 a3 a4 a5, l = [a0, a1, a2, a3, a4, a5]
  | [a0, a1, a2, a3, a4, a5], _ => ⟨_, _, _, _, _, _, rfl⟩
theorem len7 : ∀ {l : List Int}, l.length = 7 → ∃ a0 a1 a2 a3 a4 a5 a6, l = [a0, a1, a2, a3, a4, a5, a6]
  | [a0, a1, a2, a3, a4, a5, a6], _ => ⟨_, _, _, _, _, _, _, rfl⟩
theorem len8 : ∀ {l : List Int}, l.length = 8 → ∃ a0 a1 a2 a3 a4 a5 a6 a7, l = [a0, a1, a2, a3, a4, a5, a6, a7]
  | [a0, a1, a2, a3, a4, a5, a6, a7], _ => ⟨_, _, _, _, _, _, _, _, rfl⟩
end Go.Proofs.Ytjomchehnlnfcaa
/- Strings as lists of numbers. -/
namespace Go.Proofs.Ytjomchehnlnfcaa
open Go.RowKit
set_option linter.unusedVariables false

/-- the string s has the bytes l -/
structure Txt (s : ByteArray) (l : List Nat) : Prop where
  str : s = strOf l
  byte : ∀ x ∈ l, x < 256

def nums (s : ByteArray) : List Nat := s.data.toList.map UInt8.toNat

section
variable {s t : ByteArray} {l m : List Nat}
theorem Txt.size (T : Txt s l) : s.size = l.length := by rw [T.str, strOf_size]
theorem Txt.at_ (T : Txt s l) (i : Nat) (h : i < s.size) : (s[i]'h).toNat = l.getD i 0 := by
  obtain ⟨rfl, hb⟩ := T
  have hi : i < l.length := by rw [strOf_size] at h; exact h
  have e : (strOf l)[i]'h = UInt8.ofNat l[i] := by
    show ((l.map UInt8.ofNat).toArray)[i]'(by simpa using hi) = _
    simp
  rw [e]
  simp [List.getD, List.getElem?_eq_getElem hi, Nat.mod_eq_of_lt (hb _ (List.getElem_mem hi))]
theorem Txt.get! (T : Txt s l) (i : Nat) (h : i < l.length) : (s.get! i).toNat = l.getD i 0 := by
  have h' : i < s.size := by rw [T.size]; exact h
  rw [← T.at_ i h']
  congr 1
  simp [ByteArray.get!, getElem!_pos, h']
  rfl
theorem Txt.of (h : ∀ x ∈ l, x < 256) : Txt (strOf l) l := ⟨rfl, h⟩
theorem Txt.nums (s : ByteArray) : Txt s (nums s) := by
  constructor
  · apply ByteArray.ext
    apply Array.toList_inj.1
    simp [strOf, Go.Proofs.Ytjomchehnlnfcaa.nums, Function.comp_def]
  · intro x hx
    obtain ⟨u, _, rfl⟩ := List.mem_map.1 hx
    exact u.toNat_lt
theorem strOf_extract (l : List Nat) (a b : Nat) : (strOf l).extract a b = strOf ((l.drop a).take (b - a)) := by
  unfold strOf
  rw [ByteArray.extract_mk, List.map_take, List.map_drop]
theorem Txt.cut (T : Txt s l) (a b : Nat) : Txt (s.extract a b) ((l.drop a).take (b - a)) := by
  obtain ⟨rfl, hb⟩ := T
  exact ⟨strOf_extract l a b, fun x hx => hb x (List.mem_of_mem_drop (List.mem_of_mem_take hx))⟩
theorem Txt.join (T : Txt s l) (U : Txt t m) : Txt (s ++ t) (l ++ m) := by
  obtain ⟨rfl, hb⟩ := T
  obtain ⟨rfl, hc⟩ := U
  exact ⟨strOf_append l m, fun x hx => (List.mem_append.1 hx).elim (hb x) (hc x)⟩
theorem Txt.inj (T : Txt s l) (U : Txt s m) : l = m := strOf_inj T.byte U.byte (by rw [← T.str, ← U.str])
theorem Txt.eql (T : Txt s l) (U : Txt t m) : (s.toList == t.toList) = decide (l = m) := by
  rw [Bool.eq_iff_iff, beq_iff_eq, decide_eq_true_iff]
  constructor
  · intro h
    have h := toList_inj h
    subst h
    exact T.inj U
  · rintro rfl
    rw [T.str, U.str]
theorem Txt.lit (u : List UInt8) : Txt ⟨u.toArray⟩ (u.map UInt8.toNat) := by
  have := Txt.nums ⟨u.toArray⟩
  simpa [Go.Proofs.Ytjomchehnlnfcaa.nums] using this
/-- a string held against a literal, as a walk spells it -/
theorem Txt.eql_lit (T : Txt s l) (u : List UInt8) : (s.toList == u) = decide (l = u.map UInt8.toNat) := by
  rw [← T.eql (Txt.lit u), ByteArray.toList_mk u]
theorem Txt.same (T : Txt s l) (U : Txt t l) : s = t := by rw [T.str, U.str]
theorem Txt.cells (T : Txt s l) : Lib.strCells s = ints .u8 l := by
  obtain ⟨rfl, hb⟩ := T
  unfold Lib.strCells strOf ints
  simp only [List.map_map]
  refine List.map_congr_left fun x hx => ?_
  simp [Nat.mod_eq_of_lt (hb x hx)]
end
end Go.Proofs.Ytjomchehnlnfcaa
/- Words for a call that turns one block that was there, and may make new ones. -/
namespace Go.Proofs.Ytjomchehnlnfcaa
open Go.RowKit
set_option linter.unusedVariables false

/-- of the blocks that were there none has turned but g -/
structure Only (g : Nat) (w w' : World) : Prop where
  os : w'.os = w.os
  tape : w'.tape = w.tape
  output : w'.output = w.output
  size : w.heap.size ≤ w'.heap.size
  block : ∀ i, i < w.heap.size → i ≠ g → w'.heap[i]? = w.heap[i]?
section
variable {g h t B : Nat} {a w w' w'' : World} {cs : Array Value} {k : IntKind} {A : Option Addr} {l : List Nat}
theorem Only.refl (g : Nat) (w : World) : Only g w w := ⟨rfl, rfl, rfl, Nat.le_refl _, fun _ _ _ => rfl⟩
theorem Only.trans (h : Only g w w') (k : Only g w' w'') : Only g w w'' := ⟨k.os.trans h.os, k.tape.trans h.tape, k.output.trans h.output, Nat.le_trans h.size k.size, fun i hi hg => (k.block i (Nat.lt_of_lt_of_le hi h.size) hg).trans (h.block i hi hg)⟩
theorem Only.of_below (h : Below w.heap.size w w') : Only g w w' := ⟨h.os, h.tape, h.output, h.size, fun i hi _ => h.block i hi⟩
theorem Only.drew (h : Only g w w') : Only g w w'.drew := ⟨h.os, h.tape, h.output, h.size, h.block⟩
theorem Only.alloc (h : Only g w w') (o : Obj) : Only g w (w'.alloc o) := h.trans (Only.of_below ((Below.refl _ _).alloc (Nat.le_refl _) o))
theorem Only.setCell (h : Only g w w') (i : Nat) (u : Value) : Only g w (w'.setCell ⟨g, i, none⟩ u) :=
  h.trans ⟨rfl, rfl, rfl, by simp [World.setCell], fun j _ hj => Below.heap_setCell _ _ _ _ hj⟩
theorem Only.below (h : Only g w w') (hg : B ≤ g) (hB : B ≤ w.heap.size) : Below B w w' := ⟨h.os, h.tape, h.output, h.size, fun i hi => h.block i (by omega) (by omega)⟩
theorem Whole.only (hw : Whole w h t cs) (k : Only g w w') (hg : h ≠ g) : Whole w' h t cs := (k.block _ hw.lt hg).trans hw
theorem Sees.lower (h : Sees k w B A l) : Sees k w (min B w.heap.size) A l := fun hl => by
  obtain ⟨b, off, e, hb, hc⟩ := h hl
  refine ⟨b, off, e, ?_, hc⟩
  have h0 := hc 0 hl
  have hlt : b < w.heap.size := by
    rcases Nat.lt_or_ge b w.heap.size with h | h
    · exact h
    · simp [World.cell?, Array.getElem?_eq_none h] at h0
  omega
theorem Sees.only (h : Sees k w B A l) (ho : Only g w w') (hg : B ≤ g) : Sees k w' B A l :=
  (h.lower.below (ho.below (by omega) (by omega))).more (by omega)
/-- where the slice x[k:] begins -/
def cutAt (A : Option Addr) (c j : Nat) : Option Addr := if c = j then A else A.map (·.add j)
theorem cutAt_zero (A : Option Addr) (c : Nat) : cutAt A c 0 = A := by
  unfold cutAt
  split
  · rfl
  · cases A with
    | none => rfl
    | some x => simp [Addr.add]
theorem Sees.cut {c j : Nat} (h : Sees k w B A l) (hj : j ≤ l.length) (hc : l.length ≤ c) : Sees k w B (cutAt A c j) (l.drop j) := fun hl => by
  rw [List.length_drop] at hl
  obtain ⟨b, off, rfl, hb, hc'⟩ := h (by omega)
  have e : cutAt (some ⟨b, off, none⟩) c j = some ⟨b, off + j, none⟩ := by
    unfold cutAt
    rw [if_neg (by omega)]
    simp only [Option.map_some, Addr.add]
    split <;> simp_all
  rw [e]
  exact h.drop j (by rw [List.length_drop]; omega)
theorem cutAt_null {c j : Nat} (h : A = none → c = 0) (e : cutAt A c j = none) : c - j = 0 := by
  unfold cutAt at e
  split at e
  · omega
  · cases A with
    | none => rw [h rfl]; omega
    | some x => cases e
/-- a row of the call's own, from base on, is not block g below base -/
theorem own_only {base n : Nat} {v : Value} {xs : List Value} (ho : w.ownsRow base t 1 v n xs) (k : Only g w w') (hg : g < base) : w'.ownsRow base t 1 v n xs := by
  obtain ⟨h1, h2⟩ := ho
  refine ⟨h1, ?_⟩
  rcases h2 with h2 | ⟨b, cap, cur, hv, hb, hh, r⟩
  · exact .inl h2
  · have hlt : b < w.heap.size := by
      rcases Nat.lt_or_ge b w.heap.size with h | h
      · exact h
      · rw [Array.getElem?_eq_none h] at hh; cases hh
    exact .inr ⟨b, cap, cur, hv, hb, by rw [k.block b hlt (by omega)]; exact hh, r⟩
theorem own_lower {base base' n : Nat} {v : Value} {xs : List Value} (ho : w.ownsRow base t 1 v n xs) (hb : base' ≤ base) : w.ownsRow base' t 1 v n xs := by
  obtain ⟨h1, h2⟩ := ho
  refine ⟨h1, ?_⟩
  rcases h2 with h2 | ⟨b, cap, cur, hv, hb', r⟩
  · exact .inl h2
  · exact .inr ⟨b, cap, cur, hv, Nat.le_trans hb hb', r⟩
end
/-- of the blocks that were there none has turned but g and h -/
structure But2 (g h : Nat) (w w' : World) : Prop where
  os : w'.os = w.os
  tape : w'.tape = w.tape
  output : w'.output = w.output
  size : w.heap.size ≤ w'.heap.size
  block : ∀ i, i < w.heap.size → i ≠ g → i ≠ h → w'.heap[i]? = w.heap[i]?
section
variable {g h B : Nat} {w w' w'' : World}
theorem But2.refl (g h : Nat) (w : World) : But2 g h w w := ⟨rfl, rfl, rfl, Nat.le_refl _, fun _ _ _ _ => rfl⟩
theorem But2.trans (k : But2 g h w w') (m : But2 g h w' w'') : But2 g h w w'' := ⟨m.os.trans k.os, m.tape.trans k.tape, m.output.trans k.output, Nat.le_trans k.size m.size, fun i hi hg hh => (m.block i (Nat.lt_of_lt_of_le hi k.size) hg hh).trans (k.block i hi hg hh)⟩
theorem But2.of_below (k : Below w.heap.size w w') : But2 g h w w' := ⟨k.os, k.tape, k.output, k.size, fun i hi _ _ => k.block i hi⟩
theorem Only.left (k : Only g w w') (h : Nat) : But2 g h w w' := ⟨k.os, k.tape, k.output, k.size, fun i hi hg _ => k.block i hi hg⟩
theorem Only.right (k : Only h w w') (g : Nat) : But2 g h w w' := ⟨k.os, k.tape, k.output, k.size, fun i hi _ hh => k.block i hi hh⟩
theorem But2.below (k : But2 g h w w') (hg : B ≤ g) (hh : B ≤ h) (hB : B ≤ w.heap.size) : Below B w w' := ⟨k.os, k.tape, k.output, k.size, fun i hi => k.block i (by omega) (by omega) (by omega)⟩
theorem But2.drewN (k : But2 g h w w') (n : Nat) : But2 g h w (w'.drewN n) := ⟨k.os, k.tape, k.output, k.size, k.block⟩
end
end Go.Proofs.Ytjomchehnlnfcaa
/- Words for slices whose elements have two cells, of whatever kind. -/
namespace Go.Proofs.Ytjomchehnlnfcaa
open Go.ChangeShapes Go.WideShapes Go.ChangeAt Go.RowKit
set_option linter.unusedVariables false

section
variable {α : Type} (f : α → Value × Value)
/-- elements as cells -/
def two (l : List α) : List Value := l.flatMap fun x => [(f x).1, (f x).2]
theorem two_nil : two f [] = [] := rfl
theorem two_cons (x : α) (l : List α) : two f (x :: l) = (f x).1 :: (f x).2 :: two f l := rfl
theorem two_append (a b : List α) : two f (a ++ b) = two f a ++ two f b := by simp [two]
theorem two_length (l : List α) : (two f l).length = l.length * 2 := by
  induction l with
  | nil => rfl
  | cons x l ih => rw [two_cons]; simp [ih]; omega
theorem two_get : ∀ (l : List α) (i : Nat) (h : i < l.length), (two f l)[i * 2]? = some (f l[i]).1 ∧ (two f l)[i * 2 + 1]? = some (f l[i]).2
  | x :: l, 0, h => ⟨rfl, rfl⟩
  | x :: l, i + 1, h => by
    have := two_get l i (by simpa using h)
    rw [two_cons]
    rw [show (i + 1) * 2 = i * 2 + 1 + 1 by omega]
    simpa using this
/-- the slice with address A holds the elements l, in a block below B; nothing is said of A where l is empty -/
def Two (w : World) (B : Nat) (A : Option Addr) (l : List α) : Prop :=
  0 < l.length → ∃ b off, A = some ⟨b, off, none⟩ ∧ b < B ∧ ∀ i (h : i < l.length), w.cell? ⟨b, off + i * 2, none⟩ = some (f l[i]).1 ∧ w.cell? ⟨b, off + i * 2 + 1, none⟩ = some (f l[i]).2
/-- the value is a slice of the elements l -/
structure Sl (w : World) (B : Nat) (v : Value) (l : List α) : Prop where
  ex : ∃ A c, v = .slice A l.length c ∧ Two f w B A l ∧ l.length ≤ c ∧ c ≤ maxLen ∧ (A = none → c = 0)
variable {f} {w w' : World} {B B' : Nat} {A : Option Addr} {l : List α} {v : Value}
theorem Two.nil : Two f w B A ([] : List α) := fun h => absurd h (by simp)
theorem Two.at_ (h : Two f w B A l) {i : Nat} (hi : i < l.length) : ∃ b off, A = some ⟨b, off, none⟩ ∧ b < B ∧ w.cell? ⟨b, off + i * 2, none⟩ = some (f l[i]).1 ∧ w.cell? ⟨b, off + i * 2 + 1, none⟩ = some (f l[i]).2 := by
  obtain ⟨b, off, e, hb, hc⟩ := h (by omega)
  exact ⟨b, off, e, hb, hc i hi⟩
theorem Two.below (h : Two f w B A l) (hb : Below B w w') : Two f w' B A l := fun hl => by
  obtain ⟨b, off, e, hlt, hc⟩ := h hl
  exact ⟨b, off, e, hlt, fun i hi => by rw [hb.cell (p := ⟨b, off + i * 2, none⟩) hlt, hb.cell (p := ⟨b, off + i * 2 + 1, none⟩) hlt]; exact hc i hi⟩
theorem Two.more (h : Two f w B A l) (hB : B ≤ B') : Two f w B' A l := fun hl => by
  obtain ⟨b, off, e, hlt, hc⟩ := h hl
  exact ⟨b, off, e, by omega, hc⟩
theorem Two.lower (h : Two f w B A l) : Two f w (min B w.heap.size) A l := fun hl => by
  obtain ⟨b, off, e, hb, hc⟩ := h hl
  refine ⟨b, off, e, ?_, hc⟩
  have h0 := (hc 0 hl).1
  have hlt : b < w.heap.size := by
    rcases Nat.lt_or_ge b w.heap.size with h | h
    · exact h
    · simp [World.cell?, Array.getElem?_eq_none h] at h0
  omega
theorem Two.all (h : Two f w B A l) : Two f w w.heap.size A l := (h.lower).more (Nat.min_le_right _ _)
theorem Sl.below (h : Sl f w B v l) (hb : Below B w w') : Sl f w' B v l := by
  obtain ⟨A, c, h1, h2, h3⟩ := h.ex
  exact ⟨A, c, h1, h2.below hb, h3⟩
theorem Sl.more (h : Sl f w B v l) (hB : B ≤ B') : Sl f w B' v l := by
  obtain ⟨A, c, h1, h2, h3⟩ := h.ex
  exact ⟨A, c, h1, h2.more hB, h3⟩
theorem Sl.all (h : Sl f w B v l) : Sl f w w.heap.size v l := by
  obtain ⟨A, c, h1, h2, h3⟩ := h.ex
  exact ⟨A, c, h1, h2.all, h3⟩
/-- behind whatever leaves all blocks that are there -/
theorem Sl.kept (h : Sl f w B v l) (hb : Below w.heap.size w w') : Sl f w' w'.heap.size v l := (h.all.below hb).more hb.size
theorem Sl.empty (w : World) (B : Nat) : Sl f w B (.slice none 0 0) ([] : List α) := ⟨none, 0, rfl, Two.nil, Nat.le_refl _, by unfold maxLen; omega, fun _ => rfl⟩

theorem Two.of_own {base n c : Nat} {e : TypeId} (h : w.ownsRow base e 2 (.slice A n c) l.length (two f l)) : Two f w w.heap.size A l := by
  intro hl
  rcases h.2 with ⟨hv, hn⟩ | ⟨g, cap, cur, hv, hg, hh, hnc, hm, hs, ht⟩
  · omega
  · injection hv with hA _ _
    subst hA
    have hlt : g < w.heap.size := (Array.getElem?_eq_some_iff.1 hh).1
    refine ⟨g, 0, rfl, hlt, fun i hi => ?_⟩
    have hadd : ∀ j, (⟨g, 0, none⟩ : Addr).add j = ⟨g, 0 + j, none⟩ := fun j => by unfold Addr.add; split <;> simp_all
    have c0 := World.ownsRow.cells h (g := g) rfl (i * 2) _ (two_get f l i hi).1
    have c1 := World.ownsRow.cells h (g := g) rfl (i * 2 + 1) _ (two_get f l i hi).2
    rw [hadd] at c0 c1
    exact ⟨c0, c1⟩
theorem Sl.of_own {base : Nat} {e : TypeId} (h : w.ownsRow base e 2 v l.length (two f l)) : Sl f w w.heap.size v l := by
  have h0 := h
  rcases h.2 with ⟨hv, hn⟩ | ⟨g, cap, cur, hv, hg, hh, hnc, hm, hs, ht⟩
  · have : l = [] := List.eq_nil_of_length_eq_zero hn
    subst this hv
    exact Sl.empty _ _
  · subst hv
    exact ⟨_, cap, rfl, Two.of_own h0, hnc, hm, fun h => by cases h⟩
/-- the cells of a row of the call's own: where they lie -/
theorem own_two {base : Nat} {e : TypeId} (h : w.ownsRow base e 2 v l.length (two f l)) (hl : 0 < l.length) :
    ∃ g c cur, v = .slice (some ⟨g, 0, none⟩) l.length c ∧ base ≤ g ∧ l.length ≤ c ∧ c ≤ maxLen ∧ Whole w g e cur ∧ cur.toList.take (l.length * 2) = two f l := by
  rcases h.2 with ⟨hv, hn⟩ | ⟨g, cap, cur, hv, hg, hh, hnc, hm, hs, ht⟩
  · omega
  · exact ⟨g, cap, cur, hv, hg, hnc, hm, hh, ht⟩
end
theorem own2_below {w w' : World} {base n sz : Nat} {t : TypeId} {v : Value} {xs : List Value} (h : w.ownsRow base t sz v n xs) (hb : Below w.heap.size w w') : w'.ownsRow base t sz v n xs := by
  obtain ⟨h1, h2⟩ := h
  refine ⟨h1, ?_⟩
  rcases h2 with h2 | ⟨g, cap, cur, hv, hg, hh, r⟩
  · exact .inl h2
  · exact .inr ⟨g, cap, cur, hv, hg, by rw [hb.block g (Array.getElem?_eq_some_iff.1 hh).1]; exact hh, r⟩
theorem own2_lower {w : World} {base base' n sz : Nat} {t : TypeId} {v : Value} {xs : List Value} (h : w.ownsRow base t sz v n xs) (hb : base' ≤ base) : w.ownsRow base' t sz v n xs := by
  obtain ⟨h1, h2⟩ := h
  refine ⟨h1, ?_⟩
  rcases h2 with h2 | ⟨g, cap, cur, hv, hg, r⟩
  · exact .inl h2
  · exact .inr ⟨g, cap, cur, hv, by omega, r⟩

/-- T is a slice type over E, whose values are two cells each -/
structure ElemT2 (P : Program) (T E : TypeId) (z : Value) (bytes : Nat) : Prop where
  under : P.underlying T = some (.slice E)
  info : (P.info? E).map (fun i => (i.zero, i.size, i.bytes)) = some (some z, 2, bytes)
  two : z.cells.size = 2
  few : bytes ≤ 64
section
variable {P : Program} {T E : TypeId} {z : Value} {bytes : Nat} {α : Type} {f : α → Value × Value}
theorem run_append_two (hT : ElemT2 P T E z bytes) (hf : ∀ x, (f x).1.oneCell' = true ∧ (f x).2.oneCell' = true) {w : World} (ty base : Nat) (v : Value) (n : Nat) (xs : List Value) (hown : w.ownsRow base E 2 v n xs) {B : Nat} {A : Option Addr} {l : List α} (m c : Nat) (hm : l.length = m) (hc : A = none → c = 0)
    (hsee : Two f w B A l) (hn : n + m ≤ 1000000001001) (hbase : base ≤ w.heap.size) :
    ∃ v' w', (Builtin.append_ #[T, T] ty #[v, .slice A m c]).run P w = .ok v' w' ∧ w'.ownsRow base E 2 v' (n + m) (xs ++ two f l) ∧ w.grownBy w' v.ownBlock := by
  obtain ⟨i0, hi, hz0, hz1, hz2⟩ := info_parts hT.info
  have hfew := hT.few
  have hb : (n + m) * bytes ≤ 140737488355328 := Nat.le_trans (Nat.mul_le_mul hn hfew) (by omega)
  cases A with
  | none =>
    have h0 : l = [] := by
      rcases Nat.eq_zero_or_pos l.length with h | h
      · exact List.eq_nil_of_length_eq_zero h
      · obtain ⟨_, _, e, _⟩ := hsee h; cases e
    have hc0 := hc rfl
    subst h0 hc0
    have hm0 : m = 0 := by simpa using hm.symm
    subst hm0
    exact ⟨v, w, run_append_owned_none w base T ty E i0 2 hT.under hi v n xs hown, by simpa [two] using hown, World.grownBy.refl w _⟩
  | some ad =>
    have hlen := two_length f l
    have hnews : ∀ j u, (two f l)[j]? = some u → w.cell? (ad.add j) = some u := by
      intro j u hu
      have hj : j < (two f l).length := by
        rcases Nat.lt_or_ge j (two f l).length with h | h
        · exact h
        · rw [List.getElem?_eq_none h] at hu; cases hu
      obtain ⟨b, off, e, _, hcell⟩ := hsee (by omega)
      injection e with e
      subst e
      have ha : (⟨b, off, none⟩ : Addr).add j = ⟨b, off + j, none⟩ := by unfold Addr.add; split <;> simp_all
      rw [ha]
      obtain ⟨i, hij⟩ : ∃ i, j = i * 2 ∨ j = i * 2 + 1 := ⟨j / 2, by omega⟩
      have hi : i < l.length := by omega
      rcases hij with rfl | rfl
      · rw [(hcell i hi).1, ← (two_get f l i hi).1, hu]
      · rw [← Nat.add_assoc, (hcell i hi).2, ← (two_get f l i hi).2, hu]
    obtain ⟨v', w', h1, h2, h3, _⟩ := run_append_own_at (P := P) w base T ty E i0 z 2 bytes hT.under hi hz0 hz1 hz2 hT.two (by decide) v n xs hown ad m c (two f l) (by rw [hlen, hm]) hnews
      (fun u hu => by
        simp only [two, List.mem_flatMap] at hu
        obtain ⟨x, _, hx⟩ := hu
        simp at hx
        rcases hx with rfl | rfl
        · exact (hf x).1
        · exact (hf x).2) (by unfold maxLen; omega) hb hbase
    exact ⟨v', w', h1, h2, h3⟩
/-- 'append(s, x...)' in a plain walk -/
theorem wpList_append_two (hT : ElemT2 P T E z bytes) (hf : ∀ x, (f x).1.oneCell' = true ∧ (f x).2.oneCell' = true) {ops : Array Oper} {rest : List Oper} {o : Oper} {a : Act} {w : World} {Q : Exit → Act → World → Prop} (s x : Operand) (hgd : o.guard = none)
    (ho : o.op = .call { callee := .builtin .append, args := #[s, x], argTypes := #[T, T] }) (base : Nat) (v : Value) (n : Nat) (xs : List Value) (hs : a.eval s = v) (hown : w.ownsRow base E 2 v n xs) {B : Nat} {A : Option Addr} {l : List α} (m c : Nat)
    (hx : a.eval x = .slice A m c) (hm : l.length = m) (hc : A = none → c = 0) (hsee : Two f w B A l) (hn : n + m ≤ 1000000001001) (hbase : base ≤ w.heap.size)
    (h : ∀ v' w', w'.ownsRow base E 2 v' (n + m) (xs ++ two f l) → w.grownBy w' v.ownBlock → wpList P ops Q rest (a.put o.dst v') w') : wpList P ops Q (o :: rest) a w := by
  refine wpList_plain hgd fun K hK => ?_
  obtain ⟨v', w', hr, h2, h3⟩ := run_append_two hT hf (w := w) o.type base v n xs hown m c hm hc hsee hn hbase
  unfold Oper.wp execOp
  simp only [ho, resolve, invoke, builtin, Sem.run_bind, Sem.run_pure, Result.andThen_ok, List.map_toArray, List.map_cons, List.map_nil, hs, hx, hr]
  exact hK _ _ (h v' w' h2 h3)
end

/-! ### structs that are read and written as one value -/
section
variable {P : Program} {ty : TypeId} {fs : Array Field} {cs : Array Value} (hu : P.underlying ty = some (.struct fs)) (hi : (P.info? ty).map (·.size) = some cs.size)
include hu hi
theorem exec_load_struct {o : Oper} {a : Act} {W : World} {x : Operand} {g t : Nat} (ho : o.op = .load ty x) (hx : a.eval x = .pointer (some ⟨g, 0, none⟩)) (hg : Whole W g t cs) :
    (execOp a.eval o).run P W = .ok (.value (.agg cs)) W := by
  unfold execOp
  simp only [ho, hx, Instr.loadAt, Instr.sureAddr, Sem.run_bind, Sem.run_pure, Result.andThen_ok, run_loadVar_row W g t ty cs (0, 0) _ hg hu rfl hi]
theorem wpList_load_struct {ops : Array Oper} {rest : List Oper} {o : Oper} {a : Act} {w : World} {Q : Exit → Act → World → Prop} {x : Operand} {g t : Nat} (hgd : o.guard = none) (ho : o.op = .load ty x) (hx : a.eval x = .pointer (some ⟨g, 0, none⟩)) (hg : Whole w g t cs)
    (h : wpList P ops Q rest (a.put o.dst (.agg cs)) w) : wpList P ops Q (o :: rest) a w :=
  wpList_load_row hgd ty x ho g hx t cs (0, 0) _ hg hu rfl hi h
end

/-- a slice of structs of two one-cell fields, as an argument -/
theorem open_two {α : Type} {f : α → Value × Value} {ok : α → Prop} {H : Type} {enc : TypeId × Value → H} {P : Program} {w : World} {base : Nat} {spare : Nat → Bool} {held : Bool} {t e : TypeId} {f0 f1 : Field} {fuel : Nat} {cs : List Value} {x : DataW H × List MemPlace}
    (ht : P.underlying t = some (.slice e)) (he : P.underlying e = some (.struct #[f0, f1])) (ce : P.cellsOf e = 2) (o0 : f0.offset = 0) (o1 : f1.offset = 1) (c0 : P.cellsOf f0.type = 1) (c1 : P.cellsOf f1.type = 1)
    (hel : ∀ (n : Nat) (v0 v1 : Value) (x0 x1 : DataW H × List MemPlace), DataW.trod enc P w base spare held n f0.type [v0] = some x0 → DataW.trod enc P w base spare held n f1.type [v1] = some x1 → ∃ y, f y = (v0, v1) ∧ ok y)
    (hd : DataW.trod enc P w base spare held fuel t cs = some x) : ∃ v l, cs = [v] ∧ Sl f w w.heap.size v l ∧ ∀ y ∈ l, ok y := by
  rcases Go.Deep.open_slice_pairs ht he ce o0 o1 c0 c1 hd with ⟨hcs, _⟩ | ⟨a, len, cap, m, n, V0, V1, D0, D1, P0, P1, hcs, _, hl, hm, hmm, _, hx⟩
  · exact ⟨_, [], hcs, Sl.empty _ _, fun y hy => by cases hy⟩
  · have hlm : len ≤ m := by rw [hmm]; split <;> omega
    have each : ∀ i, i < len → ∃ y : α, f y = (V0 i, V1 i) ∧ ok y := fun i hi => by
      obtain ⟨_, _, h0, h1⟩ := hx i (by omega)
      exact hel _ _ _ _ _ h0 h1
    rcases Nat.eq_zero_or_pos len with h0 | h0
    · subst h0
      exact ⟨_, [], hcs, ⟨some a, cap, rfl, Two.nil, hl, hm, fun h => by cases h⟩, fun y hy => by cases hy⟩
    · obtain ⟨y0, _⟩ := each 0 h0
      haveI : Inhabited α := ⟨y0⟩
      obtain ⟨q, hq⟩ := Go.Deep.choose_lt each
      refine ⟨_, (List.range len).map q, hcs, ⟨some a, cap, by simp, ?_, by simpa using hl, hm, fun h => by cases h⟩, ?_⟩
      · intro _
        obtain ⟨b, off, spot⟩ := a
        have hc0 := (hx 0 (by omega)).1
        have hspot : spot = none := by simpa [Addr.add] using World.cell?_spot hc0
        subst hspot
        have ha : ∀ j, (⟨b, off, none⟩ : Addr).add j = ⟨b, off + j, none⟩ := fun j => by unfold Addr.add; split <;> simp_all
        have hb : b < w.heap.size := by
          rcases Nat.lt_or_ge b w.heap.size with h | h
          · exact h
          · rw [ha] at hc0; simp [World.cell?, Array.getElem?_eq_none h] at hc0
        refine ⟨b, off, rfl, hb, fun i hi => ?_⟩
        have hi : i < len := by simpa using hi
        obtain ⟨e0, e1, _, _⟩ := hx i (by omega)
        rw [ha] at e0 e1
        have hy := (hq i hi).1
        simp only [List.getElem_map, List.getElem_range, hy]
        exact ⟨e0, e1⟩
      · intro y hy
        obtain ⟨i, hi, rfl⟩ := List.mem_map.1 hy
        exact (hq i (List.mem_range.1 hi)).2
end Go.Proofs.Ytjomchehnlnfcaa
/- A region that draws its order, walked in each of a few orders. -/
namespace Go.Proofs.Ytjomchehnlnfcaa

/-- the orders: number i is taken first; number i alone may come up; i or j may come up -/
inductive Tr
  | nil
  | take (i : Nat) (t : Tr)
  | one (i : Nat) (t : Tr)
  | two (i j : Nat) (s t : Tr)
def Tr.depth : Tr → Nat
  | .nil => 0
  | .take _ t => t.depth + 1
  | .one _ t => t.depth + 1
  | .two _ _ s _ => s.depth + 1
section
variable {P : Program} {ops : Array Oper} {Q : Exit → Act → World → Prop}
def okTr (ops : Array Oper) : Tr → Array Bool → Bool
  | .nil, listed => (Region.ready .any ops listed).isEmpty
  | .take i t, listed => Region.free .any ops listed i && (Region.ready .any ops listed).contains i && okTr ops t (listed.setIfInBounds i true)
  | .one i t, listed => (Region.ready .any ops listed == [i]) && okTr ops t (listed.setIfInBounds i true)
  | .two i j s t, listed => (Region.ready .any ops listed == [i, j]) && (s.depth == t.depth) && okTr ops s (listed.setIfInBounds i true) && okTr ops t (listed.setIfInBounds j true)
/-- what is to be shown along the orders -/
def AlongT (P : Program) (ops : Array Oper) (Q : Exit → Act → World → Prop) : Tr → Act → World → Prop
  | .nil, a, w => Q .normal a w
  | .take i t, a, w => ∃ o v, ops[i]? = some o ∧ YieldsIf P ops (fun _ => True) o v a ∧ AlongT P ops Q t (a.put o.dst v) w
  | .one i t, a, w => wpOp P ops Q i (fun a' w' => AlongT P ops Q t a' w') a w
  | .two i j s t, a, w => wpOp P ops Q i (fun a' w' => AlongT P ops Q s a' w') a w ∧ wpOp P ops Q j (fun a' w' => AlongT P ops Q t a' w') a w
theorem alongT_sound (hs : Region.noSelect ops = true) (hQ : ∀ t v c a w, Q (.panic c) (Act.put a (some t) v) w → Q (.panic c) a w) :
    ∀ (r : Tr) (listed : Array Bool) (a : Act) (w : World), okTr ops r listed = true → AlongT P ops Q r a w → wpAnyH P .any ops Q (fun _ => True) r.depth listed a w
  | .nil, listed, a, w, hk, h => wpAnyH_done (by simpa [okTr] using hk) h _
  | .take i t, listed, a, w, hk, h => by
    obtain ⟨o, v, ho, hy, h⟩ := h
    simp only [okTr, Bool.and_eq_true] at hk
    exact wpAnyH_take ho hs hk.1.1 hk.1.2 (put_any_dst hQ _ _) hy trivial (alongT_sound hs hQ t _ _ _ hk.2 h)
  | .one i t, listed, a, w, hk, h => by
    simp only [okTr, Bool.and_eq_true, beq_iff_eq] at hk
    refine wpAnyH_all hk.1 (by simp) fun j hj => ?_
    obtain rfl : j = i := by simpa using hj
    exact wpOp_mono (fun a' w' h' => ⟨trivial, alongT_sound hs hQ t _ _ _ hk.2 h'⟩) h
  | .two i j s t, listed, a, w, hk, h => by
    simp only [okTr, Bool.and_eq_true, beq_iff_eq] at hk
    obtain ⟨⟨⟨h1, h2⟩, h3⟩, h4⟩ := hk
    refine wpAnyH_all h1 (by simp) fun k hk => ?_
    have hk' : k = i ∨ k = j := by simpa using hk
    rcases hk' with rfl | rfl
    · exact wpOp_mono (fun a' w' h' => ⟨trivial, alongT_sound hs hQ s _ _ _ h3 h'⟩) h.1
    · have := fun (a' : Act) (w' : World) (h' : AlongT P ops Q t a' w') => alongT_sound hs hQ t _ a' w' h4 h'
      rw [← h2] at this
      exact wpOp_mono (fun a' w' h' => ⟨trivial, this a' w' h'⟩) h.2
theorem wp_region_tree {id : Nat} {a : Act} {w : World} (t : Tr) (hm : P.follows .mixedOrders = true) (hs : Region.noSelect ops = true) (hl : t.depth = ops.size)
    (hk : okTr ops t (Array.replicate ops.size false) = true) (hQ : ∀ t v c a w, Q (.panic c) (Act.put a (some t) v) w → Q (.panic c) a w)
    (h : AlongT P ops Q t a w.drew) : (Code.region id ops true).wp P Q a w := by
  have := alongT_sound hs hQ t _ _ _ hk h
  rw [hl] at this
  exact wp_region_held hm this
theorem alongT_done {a : Act} {w : World} (h : Q .normal a w) : AlongT P ops Q .nil a w := h
theorem alongT_take {i : Nat} {r : Tr} {a : Act} {w : World} {o : Oper} {v : Value} (ho : ops.toList[i]? = some o) (hw : Region.wanted o (yielded ops a.tmps) = true)
    (hy : ∀ W, (execOp a.eval o).run P W = .ok (.value v) W) (h : AlongT P ops Q r (a.put o.dst v) w) : AlongT P ops Q (.take i r) a w :=
  ⟨o, v, at_of_list ho, .inl ⟨hw, fun W _ => hy W⟩, h⟩
theorem alongT_one {i : Nat} {r : Tr} {a : Act} {w : World} {o : Oper} (ho : ops.toList[i]? = some o)
    (h : ∀ K' : Act → World → Prop, Shut (∀ a w, AlongT P ops Q r a w → K' a w) → if Region.wanted o (yielded ops a.tmps) = true then Oper.wp P o a w K' Q else K' (a.put o.dst undef) w) : AlongT P ops Q (.one i r) a w :=
  wpOp_step (at_of_list ho) fun K' hK => h K' (fun a w hA => hK a w hA)
theorem alongT_two {i j : Nat} {s t : Tr} {a : Act} {w : World} {o o' : Oper} (ho : ops.toList[i]? = some o) (ho' : ops.toList[j]? = some o')
    (h : ∀ K' : Act → World → Prop, Shut (∀ a w, AlongT P ops Q s a w → K' a w) → if Region.wanted o (yielded ops a.tmps) = true then Oper.wp P o a w K' Q else K' (a.put o.dst undef) w)
    (h' : ∀ K' : Act → World → Prop, Shut (∀ a w, AlongT P ops Q t a w → K' a w) → if Region.wanted o' (yielded ops a.tmps) = true then Oper.wp P o' a w K' Q else K' (a.put o'.dst undef) w) : AlongT P ops Q (.two i j s t) a w :=
  ⟨wpOp_step (at_of_list ho) fun K' hK => h K' (fun a w hA => hK a w hA), wpOp_step (at_of_list ho') fun K' hK => h' K' (fun a w hA => hK a w hA)⟩
end
end Go.Proofs.Ytjomchehnlnfcaa
/- Rows of the call's own with cells of any kind: append, and what they look like. -/
namespace Go.Proofs.Ytjomchehnlnfcaa
open Go.RowKit
set_option linter.unusedVariables false
set_option maxRecDepth 100000
set_option linter.unusedSimpArgs false

/-- the cells from address A on are these -/
def Src (w : World) (A : Option Addr) (news : List Value) : Prop := ∀ j u, news[j]? = some u → ∃ b off, A = some ⟨b, off, none⟩ ∧ w.cell? ⟨b, off + j, none⟩ = some u
theorem run_append_cells {P : Program} {T E : TypeId} {z : Value} {size bytes : Nat} (ht : P.underlying T = some (.slice E)) (hinf : (P.info? E).map (fun i => (i.zero, i.size, i.bytes)) = some (some z, size, bytes)) (hzs : z.cells.size = size) (hsz : 0 < size) (hfew : bytes ≤ 128)
    {w : World} (ty base : Nat) (v : Value) (n : Nat) (xs : List Value) (hown : w.ownsRow base E size v n xs) {A : Option Addr} (m c : Nat) (news : List Value) (hl : news.length = m * size) (hc : A = none → c = 0) (hmc : m ≤ c) (hsee : Src w A news) (h1 : ∀ u ∈ news, u.oneCell' = true)
    (hn : n + m ≤ 1000000000000) (hbase : base ≤ w.heap.size) :
    ∃ v' w', (Builtin.append_ #[T, T] ty #[v, .slice A m c]).run P w = .ok v' w' ∧ w'.ownsRow base E size v' (n + m) (xs ++ news) ∧ w.grownBy w' v.ownBlock ∧ (v'.ownBlock = v.ownBlock ∨ v'.ownBlock = some w.heap.size) := by
  obtain ⟨i0, hi, hz0, hz1, hz2⟩ := info_parts hinf
  have hb : (n + m) * bytes ≤ 140737488355328 := Nat.le_trans (Nat.mul_le_mul hn hfew) (by omega)
  cases A with
  | none =>
    have hc0 := hc rfl
    subst hc0
    have hm0 : m = 0 := by omega
    subst hm0
    have h0 : news = [] := List.eq_nil_of_length_eq_zero (by omega)
    subst h0
    exact ⟨v, w, run_append_owned_none w base T ty E i0 size ht hi v n xs hown, by simpa using hown, World.grownBy.refl w _, .inl rfl⟩
  | some ad =>
    have hnews : ∀ j u, news[j]? = some u → w.cell? (ad.add j) = some u := by
      intro j u hu
      obtain ⟨b, off, e, hcell⟩ := hsee j u hu
      injection e with e
      subst e
      rw [Addr.add_mid]
      exact hcell
    obtain ⟨v', w', h2, h3, h4, _, h5⟩ := run_append_own_at (P := P) w base T ty E i0 z size bytes ht hi hz0 hz1 hz2 hzs hsz v n xs hown ad m c news hl hnews h1 (by unfold maxLen; omega) hb hbase
    exact ⟨v', w', h2, h3, h4, h5⟩
theorem wpList_append_cells {P : Program} {T E : TypeId} {z : Value} {size bytes : Nat} (ht : P.underlying T = some (.slice E)) (hinf : (P.info? E).map (fun i => (i.zero, i.size, i.bytes)) = some (some z, size, bytes)) (hzs : z.cells.size = size) (hsz : 0 < size) (hfew : bytes ≤ 128)
    {ops : Array Oper} {rest : List Oper} {o : Oper} {a : Act} {w : World} {Q : Exit → Act → World → Prop} (s x : Operand) (hgd : o.guard = none)
    (ho : o.op = .call { callee := .builtin .append, args := #[s, x], argTypes := #[T, T] }) (base : Nat) (v : Value) (n : Nat) (xs : List Value) (hs : a.eval s = v) (hown : w.ownsRow base E size v n xs) {A : Option Addr} (m c : Nat) (news : List Value)
    (hx : a.eval x = .slice A m c) (hl : news.length = m * size) (hc : A = none → c = 0) (hmc : m ≤ c) (hsee : Src w A news) (h1 : ∀ u ∈ news, u.oneCell' = true) (hn : n + m ≤ 1000000000000) (hbase : base ≤ w.heap.size)
    (h : ∀ v' w', w'.ownsRow base E size v' (n + m) (xs ++ news) → w.grownBy w' v.ownBlock → (v'.ownBlock = v.ownBlock ∨ v'.ownBlock = some w.heap.size) → wpList P ops Q rest (a.put o.dst v') w') : wpList P ops Q (o :: rest) a w := by
  refine wpList_plain hgd fun K hK => ?_
  obtain ⟨v', w', hr, h2, h3, h4⟩ := run_append_cells ht hinf hzs hsz hfew (w := w) o.type base v n xs hown m c news hl hc hmc hsee h1 hn hbase
  unfold Oper.wp execOp
  simp only [ho, resolve, invoke, builtin, Sem.run_bind, Sem.run_pure, Result.andThen_ok, List.map_toArray, List.map_cons, List.map_nil, hs, hx, hr]
  exact hK _ _ (h v' w' h2 h3 h4)

/-- what a row of the call's own looks like -/
theorem own_look {w : World} {base : Nat} {E size : Nat} {v : Value} {n : Nat} {xs : List Value} (h : w.ownsRow base E size v n xs) :
    ∃ A c, v = .slice A n c ∧ n ≤ c ∧ c ≤ maxLen ∧ (A = none → c = 0) ∧ ∀ j u, xs[j]? = some u → ∃ b, A = some ⟨b, 0, none⟩ ∧ base ≤ b ∧ b < w.heap.size ∧ w.cell? ⟨b, j, none⟩ = some u := by
  have h0 := h
  rcases h.2 with ⟨hv, hn⟩ | ⟨g, cap, cur, hv, hg, hh, hnc, hm, hs, ht⟩
  · subst hv hn
    have : xs = [] := List.eq_nil_of_length_eq_zero (by have := h.1; omega)
    subst this
    exact ⟨none, 0, rfl, Nat.le_refl _, by unfold maxLen; omega, fun _ => rfl, fun j u hu => by simp at hu⟩
  · subst hv
    refine ⟨_, cap, rfl, hnc, hm, fun h => by (cases h), fun j u hu => ⟨g, rfl, hg, (Array.getElem?_eq_some_iff.1 hh).1, ?_⟩⟩
    have := World.ownsRow.cells h0 (g := g) rfl j u hu
    rwa [Addr.add_mid, Nat.zero_add] at this
theorem src_one (w : World) (u : Value) (E : TypeId) : Src (w.alloc (.cells #[u] E)) (some ⟨w.heap.size, 0, none⟩) [u] := fun j x hx => by
  cases j with
  | zero =>
    refine ⟨_, _, rfl, ?_⟩
    simp at hx
    subst hx
    simp
  | succ j => simp at hx
end Go.Proofs.Ytjomchehnlnfcaa
/- Copies within rows of the call's own, of elements of any size: shared words. -/
namespace Go.Proofs.Ytjomchehnlnfcaa
open Go.RowKit
set_option linter.unusedVariables false
set_option maxRecDepth 100000
set_option linter.unusedSimpArgs false

theorem splice_get {α : Type} (L : List α) (o : Nat) (cs : List α) (h : o + cs.length ≤ L.length) (j : Nat) : (splice L o cs)[j]? = if j < o then L[j]? else if j < o + cs.length then cs[j - o]? else L[j]? := by
  unfold splice
  rw [List.getElem?_append, List.length_take, Nat.min_eq_left (by omega)]
  by_cases h1 : j < o
  · rw [if_pos h1, if_pos h1, List.getElem?_take_of_lt h1]
  · rw [if_neg h1, if_neg h1, List.getElem?_append]
    by_cases h2 : j < o + cs.length
    · rw [if_pos (by omega), if_pos h2]
    · rw [if_neg (by omega), if_neg h2, List.getElem?_drop]
      congr 1
      omega
theorem splice_set {α : Type} (L : List α) (o : Nat) (v : α) (r : List α) (h : o + (r.length + 1) ≤ L.length) : splice (L.set o v) (o + 1) r = splice L o (v :: r) := by
  apply List.ext_getElem?
  intro j
  rw [splice_get _ _ _ (by rw [List.length_set]; omega), splice_get _ _ _ (by simpa using h), List.getElem?_set, List.length_cons]
  by_cases h1 : j < o
  · rw [if_pos (by omega), if_pos h1, if_neg (by omega)]
  · by_cases h2 : j = o
    · subst h2
      rw [if_pos (by omega), if_pos rfl, if_pos (by omega), if_neg (by omega), if_pos (by omega), Nat.sub_self]
      rfl
    · rw [if_neg (by omega), if_neg h1]
      by_cases h3 : j < o + (r.length + 1)
      · rw [if_pos (by omega), if_pos h3, show j - o = (j - (o + 1)) + 1 by omega]
        rfl
      · rw [if_neg (by omega), if_neg h3, if_neg (by omega)]
theorem own_splice {base sz g n cap : Nat} {E : TypeId} : ∀ (cs : List Value) (o : Nat) {xs : List Value} {w : World}, w.ownsRow base E sz (.slice (some ⟨g, 0, none⟩) n cap) n xs → o + cs.length ≤ xs.length → (w.setCells g o cs).ownsRow base E sz (.slice (some ⟨g, 0, none⟩) n cap) n (splice xs o cs)
  | [], o, xs, w, h, _ => by
    have : splice xs o ([] : List Value) = xs := by simp [splice]
    rw [this]
    exact h
  | v :: r, o, xs, w, h, hl => by
    rw [← splice_set xs o v r (by simpa using hl)]
    exact own_splice r (o + 1) (h.stored o v).1 (by rw [List.length_set]; simp at hl; omega)
/-- there is room for one element more -/
theorem own_room {w : World} {base sz g n cap : Nat} {E : TypeId} {xs : List Value} (h : w.ownsRow base E sz (.slice (some ⟨g, 0, none⟩) n cap) n xs) (hr : n + 1 ≤ cap) : ∃ t, t.length = sz ∧ w.ownsRow base E sz (.slice (some ⟨g, 0, none⟩) (n + 1) cap) (n + 1) (xs ++ t) := by
  obtain ⟨h1, h2⟩ := h
  rcases h2 with ⟨hv, _⟩ | ⟨g', cap', cur, hv, hg, hh, hn, hm, hs, ht⟩
  · cases hv
  · cases hv
    have hle := Nat.mul_le_mul_right sz hr
    have hle2 : (n + 1) * sz = n * sz + sz := Nat.succ_mul n sz
    refine ⟨(cur.toList.drop (n * sz)).take sz, ?_, ?_, .inr ⟨g, cap, cur, rfl, hg, hh, hr, hm, hs, ?_⟩⟩
    · rw [List.length_take, List.length_drop, Array.length_toList]; omega
    · rw [List.length_append, h1, List.length_take, List.length_drop, Array.length_toList]; omega
    · rw [hle2, ← ht, List.take_add]
theorem own_isrow {w : World} {base sz g n cap : Nat} {E : TypeId} {xs : List Value} (h : w.ownsRow base E sz (.slice (some ⟨g, 0, none⟩) n cap) n xs) : ∃ cur : Array Value, w.heap[g]? = some (.cells cur E (0, 0)) ∧ cur.size = cap * sz ∧ n ≤ cap ∧ base ≤ g ∧ cap ≤ maxLen := by
  rcases h.2 with ⟨hv, _⟩ | ⟨g', cap', cur, hv, hg, hh, hn, hm, hs, ht⟩
  · cases hv
  · cases hv
    exact ⟨cur, hh, hs, hn, hg, hm⟩
theorem run_copy_sz {P : Program} {dT sT ty elem : TypeId} {sz : Nat} (hu : P.underlying dT = some (.slice elem)) (hsz : (P.info? elem).map (·.size) = some sz) {w : World} {base g n cap : Nat} {E : TypeId} {xs : List Value} (hown : w.ownsRow base E sz (.slice (some ⟨g, 0, none⟩) n cap) n xs)
    (o dLen dCap : Nat) (ad : Addr) (sLen sCap : Nat) (cs : List Value) (hn : cs.length = Nat.min sLen dLen * sz) (hsrc : ∀ j u, cs[j]? = some u → w.cell? (ad.add j) = some u) (hfit : o + cs.length ≤ xs.length) (h1 : ∀ u ∈ cs, u.oneCell' = true) :
    (Builtin.copy_ #[dT, sT] ty #[.slice (some ⟨g, o, none⟩) dLen dCap, .slice (some ad) sLen sCap]).run P w = .ok (goInt (Nat.min sLen dLen)) (w.setCells g o cs) := by
  have hl := run_loadCells_list (P := P) w ad cs hsrc
  have hst := run_storeCells_cells (P := P) g o cs 0 w (fun j hj => by
    rw [Nat.add_zero]
    have := hown.cells (g := g) rfl (o + j) _ (List.getElem?_eq_getElem (by omega))
    rw [Addr.add_mid, Nat.zero_add] at this
    rw [this]; rfl) (fun j hj => hown.frozenAt _) h1
  cases hq : P.info? elem with
  | none => simp [hq] at hsz
  | some i =>
    have hi : i.size = sz := by simpa [hq] using hsz
    simp [Builtin.copy_, run_underlying hu, Builtin.lenOf, Builtin.firstCells, sizeOf, typeInfo, hq, hi, ← hn, hl, hst]
theorem wpList_copy_eq {P : Program} {w w' : World} {ops : Array Oper} {rest : List Oper} {o : Oper} {a : Act} {Q : Exit → Act → World → Prop} {v u v' : Value} (hgd : o.guard = none) (d s : Operand) (T U : TypeId)
    (ho : o.op = .call { callee := .builtin .copy, args := #[d, s], argTypes := #[T, U] }) (hd : a.eval d = v) (hs : a.eval s = u) (hr : (Builtin.copy_ #[T, U] o.type #[v, u]).run P w = .ok v' w') (h : wpList P ops Q rest (a.put o.dst v') w') : wpList P ops Q (o :: rest) a w := by
  refine wpList_plain hgd fun K hK => ?_
  unfold Oper.wp
  simp only [execOp, ho, resolve, invoke, builtin, Sem.run_bind, Sem.run_pure, Result.andThen_ok, List.map_toArray, List.map_cons, List.map_nil, hd, hs, hr]
  exact hK _ _ h
theorem step_copy_eq {P : Program} {w w' : World} {ops : Array Oper} {o : Oper} {a : Act} {K : Act → World → Prop} {Q : Exit → Act → World → Prop} {F : Prop} {v u v' : Value} (hgd : o.guard = none) (d s : Operand) (T U : TypeId)
    (ho : o.op = .call { callee := .builtin .copy, args := #[d, s], argTypes := #[T, U] }) (hd : a.eval d = v) (hs : a.eval s = u) (hr : (Builtin.copy_ #[T, U] o.type #[v, u]).run P w = .ok v' w') (h : K (a.put o.dst v') w') : if Region.wanted o (yielded ops a.tmps) = true then Oper.wp P o a w K Q else F := by
  have hw : Region.wanted o (yielded ops a.tmps) = true := by simp [Region.wanted, hgd]
  rw [if_pos hw]
  unfold Oper.wp
  simp only [execOp, ho, resolve, invoke, builtin, Sem.run_bind, Sem.run_pure, Result.andThen_ok, List.map_toArray, List.map_cons, List.map_nil, hd, hs, hr]
  exact h
/-- stops the walk -/
def Held (p : Prop) : Prop := p
theorem held_in {p : Prop} (h : Held p) : p := h
theorem held_out {p : Prop} (h : p) : Held p := h
end Go.Proofs.Ytjomchehnlnfcaa
