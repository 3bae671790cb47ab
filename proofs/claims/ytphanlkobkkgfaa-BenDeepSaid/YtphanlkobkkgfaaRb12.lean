/- The reader of layer 12 as memory; what the library's IndexByte answers; contracts of the reader's methods starts, skips, number, text, key. -/
import Derived.Test.YtphanlkobkkgfaaPA
import Derived.Test.YtphanlkobkkgfaaRnum12
import Derived.Test.YtphanlkobkkgfaaRsetn
import Derived.Test.YtphanlkobkkgfaaNumget
import Derived.Lib.Bytealg
import Derived.Lib.BytesEntry
import Derived.Lib.Strings
import Derived.Lib.Slices
import Derived.Lib.Walk
import Derived.Shelf.Bytes.SlIndexAt
namespace Go.Proofs.Ytphanlkobkkgfaa
open Go.RowKit
set_option linter.unusedVariables false
set_option maxRecDepth 100000
set_option linter.unusedSimpArgs false

/-! ### IndexByte -/
namespace Bn
def look (l : List Nat) (c : Nat) : Int := if l.findIdx (fun x => decide (x = c)) < l.length then (l.findIdx (fun x => decide (x = c)) : Int) else -1
theorem look_cons (x c : Nat) (l : List Nat) : look (x :: l) c = if x = c then 0 else if look l c = -1 then -1 else look l c + 1 := by
  unfold look
  by_cases h : x = c
  · rw [List.findIdx_cons, decide_eq_true h, if_pos h]; simp
  · rw [List.findIdx_cons, decide_eq_false h, if_neg h]
    simp only [cond_false, List.length_cons]
    by_cases h2 : l.findIdx (fun x => decide (x = c)) < l.length
    · rw [if_pos (by omega), if_pos h2, if_neg (by omega)]; omega
    · rw [if_neg (by omega), if_neg h2, if_pos rfl]
theorem index_look : ∀ (l : List Nat) (c : Nat), (∀ x ∈ l, x < 256) → c < 256 → Lib.indexByte (l.map fun x => UInt8.ofNat x) (UInt8.ofNat c) = look l c
  | [], c, _, _ => rfl
  | x :: l, c, h, hc => by
    have ih := index_look l c (fun y hy => h y (List.mem_cons_of_mem _ hy)) hc
    have hx := h x (List.mem_cons_self ..)
    rw [look_cons, List.map_cons, Lib.indexByte, ih]
    by_cases e : x = c
    · subst e; simp
    · have e2 : (UInt8.ofNat x == UInt8.ofNat c) = false := by
        rw [beq_eq_false_iff_ne]
        intro e3
        have := congrArg UInt8.toNat e3
        simp [Nat.mod_eq_of_lt hx, Nat.mod_eq_of_lt hc] at this
        exact e this
      rw [e2, if_neg e]
      by_cases e4 : look l c = -1
      · rw [if_pos e4, e4]; rfl
      · rw [if_neg e4]
        have e5 : (look l c == -1) = false := by simpa using e4
        rw [e5]; rfl
theorem look_bad {l : List Nat} {c : Nat} (h : look l c = -1) : number c l = .bad 2 := by
  unfold look at h
  split at h
  · omega
  · rename_i h1
    unfold number
    rw [if_neg h1]
theorem look_is {l : List Nat} {c i : Nat} (h : look l c = (i : Int)) : i < l.length ∧ number c l = if (Nm.get (l.take i)).2 = 0 then .ok (Nm.get (l.take i)).1 (l.drop (i + 1)) else .bad 3 := by
  unfold look at h
  split at h
  · rename_i h1
    have hi : l.findIdx (fun x => decide (x = c)) = i := by omega
    rw [hi] at h1
    refine ⟨h1, ?_⟩
    unfold number
    rw [hi, if_pos h1]
  · omega
theorem look_cases (l : List Nat) (c : Nat) : look l c = -1 ∨ ∃ i : Nat, look l c = (i : Int) := by
  unfold look
  split
  · exact .inr ⟨_, rfl⟩
  · exact .inl rfl
end Bn
theorem sidx_any (s : ByteArray) (c : Int) (w : World) :
    Calls Try.prog 59 #[.string s, .int .u8 c] w fun e w' => e = .returned (.int .i64 (Lib.indexByte s.data.toList c.toNat.toUInt8)) ∧ w' = w := by
  go_enter Try.func59, Try.ntmps59
  go_wp2
  rw [run_callFunc_extern Try.func64 (by kernel_rfl) (by kernel_rfl) (by kernel_rfl) (e := Extern.BytealgIndexByte.indexByte) (by kernel_rfl), Lib.run_indexByteString]
  simp only [Result.andThen]
  rw [Oper.upon_value]
  go_wp2
  go_ret
  exact ⟨rfl, rfl⟩
theorem idx_any (s : ByteArray) (c : Int) (w : World) :
    Calls Try.prog 47 #[.string s, .int .u8 c] w fun e w' => e = .returned (.int .i64 (Lib.indexByte s.data.toList c.toNat.toUInt8)) ∧ w' = w := by
  have C := Lib.hid (sidx_any s c w)
  obtain ⟨r, hr⟩ : ∃ r, Hid (Lib.indexByte s.data.toList c.toNat.toUInt8 = r) := ⟨_, rfl⟩
  rw [hr.out] at C ⊢
  go_enter Try.func47, Try.ntmps47
  go_wp2_with fail
  refine (C.out).mono ?_
  rintro e w1 ⟨rfl, rfl⟩
  go_wp2_with fail
  go_ret
  exact ⟨rfl, rfl⟩
theorem run_look {w : World} {B : Nat} {A : Option Addr} {l : List Nat} (h : Sees .u8 w B A l) (hb : ∀ x ∈ l, x < 256) (n c k : Nat) (hn : l.length = n) (hk : k < 256) :
    (Extern.BytealgIndexByte.indexByte #[.slice A n c, .int .u8 (k : Int)]).run Try.prog w = .ok (.int .i64 (Bn.look l k)) w := by
  have hl := Bn.index_look l k hb hk
  have hm : Lib.bytesOf (l.map fun x : Nat => (x : Int)) = l.map fun x => UInt8.ofNat x := by
    unfold Lib.bytesOf
    rw [List.map_map]
    exact List.map_congr_left (fun x _ => by simp)
  have hk8 : ((k : Int)).toNat.toUInt8 = UInt8.ofNat k := by simp
  cases A with
  | none =>
    have h0 : l = [] := by
      rcases Nat.eq_zero_or_pos l.length with h' | h'
      · exact List.eq_nil_of_length_eq_zero h'
      · obtain ⟨_, _, e, _⟩ := h h'; cases e
    subst h0
    rw [Lib.run_indexByteNil]
    rfl
  | some a =>
    rw [Lib.run_indexByteAt w a n c (l.map fun x : Nat => (x : Int)) (by simpa using hn) (fun i hi => ?_), hm, hk8, hl]
    obtain ⟨b, off, e, _, hc⟩ := h (by omega)
    injection e with e
    subst e
    have ha : (⟨b, off, none⟩ : Addr).add i = ⟨b, off + i, none⟩ := by unfold Addr.add; split <;> simp_all
    rw [ha, hc i (by omega)]
    simp [List.getD, List.getElem?_eq_getElem (show i < l.length by omega)]
theorem bidx_any {w : World} {B : Nat} {A : Option Addr} {l : List Nat} (h : Sees .u8 w B A l) (hb : ∀ x ∈ l, x < 256) (n c k : Nat) (hn : l.length = n) (hk : k < 256) :
    Calls Try.prog 48 #[.slice A n c, .int .u8 (k : Int)] w fun e w' => e = .returned (.int .i64 (Bn.look l k)) ∧ w' = w := by
  have R := Lib.hid (run_look h hb n c k hn hk)
  obtain ⟨r, hr⟩ : ∃ r, Hid (Bn.look l k = r) := ⟨_, rfl⟩
  rw [hr.out] at R ⊢
  go_enter Try.func48, Try.ntmps48
  go_wp2
  rw [run_callFunc_extern Try.func60 (by kernel_rfl) (by kernel_rfl) (by kernel_rfl) (e := Extern.BytealgIndexByte.indexByte) (by kernel_rfl), R.out]
  simp only [Result.andThen]
  rw [Oper.upon_value]
  go_wp2
  go_ret
  exact ⟨rfl, rfl⟩

/-! ### the reader -/
/-- the reader in block g has the bytes l left, in A -/
structure RbAt (w : World) (g : Nat) (A : Option Addr) (c : Nat) (l : List Nat) : Prop where
  whole : Whole w g 44 #[.slice A l.length c]
  sees : Sees .u8 w g A l
  byte : ∀ x ∈ l, x < 256
  le : l.length ≤ c
  max : c ≤ maxLen
  null : A = none → c = 0
def Rb (w : World) (g : Nat) (l : List Nat) : Prop := ∃ A c, RbAt w g A c l
section
variable {w w' : World} {g h c B : Nat} {A : Option Addr} {l : List Nat}
theorem RbAt.rest (h : RbAt w g A c l) : w.cell? ⟨g, 0, none⟩ = some (.slice A l.length c) := h.whole.at_ 0
theorem RbAt.free (h : RbAt w g A c l) (i : Nat) : w.frozen? ⟨g, i, none⟩ = false := h.whole.free i
theorem RbAt.only (h : RbAt w g A c l) (k : Only B w w') (hg : g < B) : RbAt w' g A c l := ⟨h.whole.only k (by omega), h.sees.only k (by omega), h.byte, h.le, h.max, h.null⟩
theorem RbAt.below (h : RbAt w g A c l) (k : Below B w w') (hg : g < B) : RbAt w' g A c l := ⟨h.whole.below k hg, h.sees.below (k.mono (by omega)), h.byte, h.le, h.max, h.null⟩
theorem RbAt.pass (h : RbAt w g A c l) {j : Nat} (hj : j ≤ l.length) : RbAt (w.setCell ⟨g, 0, none⟩ (.slice (cutAt A c j) (l.length - j) (c - j))) g (cutAt A c j) (c - j) (l.drop j) := by
  have hle := h.le
  have hm := h.max
  refine ⟨?_, (h.sees.cut hj h.le).only ((Only.refl g w).setCell 0 _) (Nat.le_refl _), fun x hx => h.byte x (List.mem_of_mem_drop hx), by rw [List.length_drop]; omega, by omega, cutAt_null h.null⟩
  have := h.whole.put 0 (.slice (cutAt A c j) (l.length - j) (c - j))
  rw [List.length_drop]
  exact this
theorem RbAt.lt (h : RbAt w g A c l) : g < w.heap.size := h.whole.lt
theorem Rb.only (h : Rb w g l) (k : Only B w w') (hg : g < B) : Rb w' g l := by obtain ⟨A, c, h⟩ := h; exact ⟨A, c, h.only k hg⟩
theorem Rb.below (h : Rb w g l) (k : Below B w w') (hg : g < B) : Rb w' g l := by obtain ⟨A, c, h⟩ := h; exact ⟨A, c, h.below k hg⟩
theorem Rb.behind (h : Rb w g l) (k : Below w.heap.size w w') : Rb w' g l := by obtain ⟨A, c, h⟩ := h; exact ⟨A, c, h.below k h.lt⟩
theorem Rb.lt (h : Rb w g l) : g < w.heap.size := by obtain ⟨A, c, h⟩ := h; exact h.lt
theorem Rb.byte (h : Rb w g l) : ∀ x ∈ l, x < 256 := by obtain ⟨A, c, h⟩ := h; exact h.byte
end
namespace Bn
/-- what starts answers -/
def first (ok : Nat → Bool) : List Nat → Nat
  | [] => 2
  | c :: _ => if ok c = true then 0 else 3
def isValue (c : Nat) : Bool := digit c || decide (c = 105) || decide (c = 108) || decide (c = 100)
theorem set_value : ∀ c : Nat, c < 256 → (decide (Lib.indexByte (⟨#[105, 108, 100, 48, 49, 50, 51, 52, 53, 54, 55, 56, 57]⟩ : ByteArray).data.toList ((c : Int)).toNat.toUInt8 < 0)) = !isValue c := by decide +kernel
theorem set_key : ∀ c : Nat, c < 256 → (decide (Lib.indexByte (⟨#[48, 49, 50, 51, 52, 53, 54, 55, 56, 57]⟩ : ByteArray).data.toList ((c : Int)).toNat.toUInt8 < 0)) = !digit c := by decide +kernel
end Bn
theorem starts12_any {w : World} {g : Nat} {l : List Nat} (h : Rb w g l) (set : ByteArray) (ok : Nat → Bool) (hset : ∀ c : Nat, c < 256 → (decide (Lib.indexByte set.data.toList ((c : Int)).toNat.toUInt8 < 0)) = !ok c) :
    Calls Try.prog 33 #[.pointer (some ⟨g, 0, none⟩), .string set] w fun e w' => e = .returned (.int .i64 (Bn.first ok l : Int)) ∧ w' = w := by
  obtain ⟨A, c, h⟩ := h
  have h1 := h.rest
  cases l with
  | nil =>
    simp only [List.length_nil] at h1
    clear h
    go_enter Try.func33, Try.ntmps33
    go_wp2_with fail
    go_ret
    exact ⟨rfl, rfl⟩
  | cons x r =>
    have hx : x < 256 := h.byte x (List.mem_cons_self ..)
    obtain ⟨b, off, rfl, _, hcell⟩ := h.sees.at_ (i := 0) (by simp)
    simp only [Nat.add_zero, List.getD_cons_zero] at hcell
    simp only [List.length_cons] at h1
    have hle := h.le
    have hmx := h.max
    simp only [List.length_cons] at hle
    unfold maxLen at hmx
    have HS := hset x hx
    have C := Lib.hid (idx_any set (x : Int) w)
    obtain ⟨r0, hr0⟩ : ∃ r, Hid (Lib.indexByte set.data.toList ((x : Int)).toNat.toUInt8 = r) := ⟨_, rfl⟩
    rw [hr0.out] at C HS
    obtain ⟨y, hy⟩ : ∃ y, Hid (ok x = y) := ⟨_, rfl⟩
    have HF : Hid (Bn.first ok (x :: r) = if y = true then 0 else 3) := Lib.hid (by rw [← hy.out]; rfl)
    rw [hy.out] at HS
    rw [HF.out]
    obtain ⟨m, hm⟩ : ∃ m, Hid (r.length = m) := ⟨_, rfl⟩
    rw [hm.out] at h1 hle
    clear h hset
    cases y with
    | true =>
      have hs : ¬ r0 < 0 := by simpa using HS
      clear HS
      go_enter Try.func33, Try.ntmps33
      go_wp2_with fail
      refine (C.out).mono ?_
      rintro e w1 ⟨rfl, rfl⟩
      go_wp2_with fail
      go_ret
      exact ⟨rfl, rfl⟩
    | false =>
      have hs : r0 < 0 := by simpa using HS
      clear HS
      go_enter Try.func33, Try.ntmps33
      go_wp2_with fail
      refine (C.out).mono ?_
      rintro e w1 ⟨rfl, rfl⟩
      go_wp2_with fail
      go_ret
      exact ⟨rfl, rfl⟩
theorem skips12_no {w : World} {g : Nat} {l : List Nat} (h : Rb w g l) (k : Nat) (hk : k < 256) (hno : ¬ l.head? = some k) :
    Calls Try.prog 34 #[.pointer (some ⟨g, 0, none⟩), .int .u8 (k : Int)] w fun e w' => e = .returned (.bool false) ∧ w' = w := by
  obtain ⟨A, c, h⟩ := h
  have h1 := h.rest
  cases l with
  | nil =>
    simp only [List.length_nil] at h1
    clear h
    go_enter Try.func34, Try.ntmps34
    go_wp2_with fail
    go_ret
    exact ⟨rfl, rfl⟩
  | cons x r =>
    have hx : x < 256 := h.byte x (List.mem_cons_self ..)
    obtain ⟨b, off, rfl, _, hcell⟩ := h.sees.at_ (i := 0) (by simp)
    simp only [Nat.add_zero, List.getD_cons_zero] at hcell
    simp only [List.length_cons] at h1
    have hle := h.le
    have hmx := h.max
    simp only [List.length_cons] at hle
    unfold maxLen at hmx
    have hne : ¬ x = k := by simpa using hno
    have q1 : ((x : Int) != (k : Int)) = true := by simp; omega
    have q2 : ((x : Int) == (k : Int)) = false := by simp; omega
    obtain ⟨m, hm⟩ : ∃ m, Hid (r.length = m) := ⟨_, rfl⟩
    rw [hm.out] at h1 hle
    clear h hno
    go_enter Try.func34, Try.ntmps34
    go_wp2_with fail
    go_ret
    exact ⟨rfl, rfl⟩
theorem skips12_yes {w : World} {g : Nat} {r : List Nat} {k : Nat} (h : Rb w g (k :: r)) :
    Calls Try.prog 34 #[.pointer (some ⟨g, 0, none⟩), .int .u8 (k : Int)] w fun e w' => e = .returned (.bool true) ∧ Rb w' g r ∧ Only g w w' := by
  obtain ⟨A, c, h⟩ := h
  have h1 := h.rest
  have hf := h.free 0
  have hx : k < 256 := h.byte k (List.mem_cons_self ..)
  obtain ⟨b, off, e0, _, hcell⟩ := h.sees.at_ (i := 0) (by simp)
  simp only [Nat.add_zero, List.getD_cons_zero] at hcell
  simp only [List.length_cons] at h1
  have hle := h.le
  have hmx := h.max
  simp only [List.length_cons] at hle
  unfold maxLen at hmx
  have HP := Lib.hid (h.pass (j := 1) (by simp))
  simp only [List.length_cons, List.drop_succ_cons, List.drop_zero, Nat.add_sub_cancel] at HP
  have HO := Lib.hid ((Only.refl g w).setCell 0 (.slice (cutAt A c 1) r.length (c - 1)))
  have hA : ∀ X Y : Option Addr, (if c = 1 then X else Y) = pickIf c 1 X Y := fun _ _ => rfl
  have HA : Hid (pickIf c 1 A (A.map (fun x => x.add 1)) = cutAt A c 1) := Lib.hid rfl
  subst e0
  obtain ⟨m, hm⟩ : ∃ m, Hid (r.length = m) := ⟨_, rfl⟩
  rw [hm.out] at h1 hle HP HO
  clear h
  go_enter Try.func34, Try.ntmps34
  go_wp2_with fail
  go_ret
  exact ⟨rfl, ⟨_, _, HP.out⟩, HO.out⟩
end Go.Proofs.Ytphanlkobkkgfaa
