/- The reader of layer 6 as memory, and contracts of its methods Err, Left, Fail, End, next. -/
import Derived.Test.YtpfeccbnkgnioaaDoorOnly
import Derived.Test.YtpfeccbnkgnioaaDoorBm
import Derived.Test.YtpfeccbnkgnioaaDoorUvar
namespace Go.Proofs.YtpfeccbnkgnioaaDoor
open Go.RowKit
set_option linter.unusedVariables false

/-- the reader in block g has the bytes l left, in A, and the error e -/
structure RdAt (w : World) (g : Nat) (A : Option Addr) (c : Nat) (l : List Nat) (e : Int) : Prop where
  whole : Whole w g 84 #[.bool true, .slice A l.length c, .int .i64 e]
  sees : Sees .u8 w g A l
  byte : ∀ x ∈ l, x < 256
  le : l.length ≤ c
  max : c ≤ maxLen
  null : A = none → c = 0
def Rd (w : World) (g : Nat) (l : List Nat) (e : Int) : Prop := ∃ A c, RdAt w g A c l e
section
variable {w w' : World} {g h c B : Nat} {A : Option Addr} {l : List Nat} {e x : Int}
theorem RdAt.made (h : RdAt w g A c l e) : w.cell? ⟨g, 0, none⟩ = some (.bool true) := h.whole.at_ 0
theorem RdAt.rest (h : RdAt w g A c l e) : w.cell? ⟨g, 1, none⟩ = some (.slice A l.length c) := h.whole.at_ 1
theorem RdAt.err (h : RdAt w g A c l e) : w.cell? ⟨g, 2, none⟩ = some (.int .i64 e) := h.whole.at_ 2
theorem RdAt.free (h : RdAt w g A c l e) (i : Nat) : w.frozen? ⟨g, i, none⟩ = false := h.whole.free i
theorem RdAt.size (h : RdAt w g A c l e) : l.length ≤ 9223372036854775807 := by
  have h1 := h.le
  have h2 := h.max
  unfold maxLen at h2
  omega
theorem RdAt.only (h : RdAt w g A c l e) (k : Only B w w') (hg : g < B) : RdAt w' g A c l e := ⟨h.whole.only k (by omega), h.sees.only k (by omega), h.byte, h.le, h.max, h.null⟩
theorem RdAt.below (h : RdAt w g A c l e) (k : Below B w w') (hg : g < B) : RdAt w' g A c l e := ⟨h.whole.below k hg, h.sees.below (k.mono (by omega)), h.byte, h.le, h.max, h.null⟩
theorem RdAt.fail (h : RdAt w g A c l e) (x : Int) : RdAt (w.setCell ⟨g, 2, none⟩ (.int .i64 x)) g A c l x :=
  ⟨h.whole.put 2 _, h.sees.only ((Only.refl g w).setCell 2 _) (Nat.le_refl _), h.byte, h.le, h.max, h.null⟩
theorem RdAt.pass (h : RdAt w g A c l e) {j : Nat} (hj : j ≤ l.length) : RdAt (w.setCell ⟨g, 1, none⟩ (.slice (cutAt A c j) (l.length - j) (c - j))) g (cutAt A c j) (c - j) (l.drop j) e := by
  have hle := h.le
  have hm := h.max
  refine ⟨?_, (h.sees.cut hj h.le).only ((Only.refl g w).setCell 1 _) (Nat.le_refl _), fun x hx => h.byte x (List.mem_of_mem_drop hx), by rw [List.length_drop]; omega, by omega, cutAt_null h.null⟩
  have := h.whole.put 1 (.slice (cutAt A c j) (l.length - j) (c - j))
  rw [List.length_drop]
  exact this
theorem RdAt.lt (h : RdAt w g A c l e) : g < w.heap.size := h.whole.lt
theorem Rd.only (h : Rd w g l e) (k : Only B w w') (hg : g < B) : Rd w' g l e := by obtain ⟨A, c, h⟩ := h; exact ⟨A, c, h.only k hg⟩
theorem Rd.below (h : Rd w g l e) (k : Below B w w') (hg : g < B) : Rd w' g l e := by obtain ⟨A, c, h⟩ := h; exact ⟨A, c, h.below k hg⟩
theorem Rd.lt (h : Rd w g l e) : g < w.heap.size := by obtain ⟨A, c, h⟩ := h; exact h.lt
theorem Rd.byte (h : Rd w g l e) : ∀ x ∈ l, x < 256 := by obtain ⟨A, c, h⟩ := h; exact h.byte
theorem Rd.size (h : Rd w g l e) : l.length ≤ 9223372036854775807 := by obtain ⟨A, c, h⟩ := h; exact h.size
end

set_option maxRecDepth 100000 in
theorem rerr_any {w : World} {g : Nat} {l : List Nat} {e : Int} (h : Rd w g l e) :
    Calls Tryd.prog 63 #[.pointer (some ⟨g, 0, none⟩)] w fun en w' => en = .returned (.int .i64 e) ∧ w = w' := by
  obtain ⟨A, c, h⟩ := h
  have h0 := h.made
  have h2 := h.err
  have H := Lib.hid h
  clear h
  go_enter Tryd.func63, Tryd.ntmps63
  go_wp2_with fail
  go_ret
  exact ⟨rfl, rfl⟩
theorem rerr_nil (w : World) :
    Calls Tryd.prog 63 #[.pointer none] w fun en w' => en = .returned (.int .i64 14) ∧ w = w' := by
  go_enter Tryd.func63, Tryd.ntmps63
  go_wp2_with fail
  go_ret
  exact ⟨rfl, rfl⟩
theorem rleft_nil (w : World) :
    Calls Tryd.prog 75 #[.pointer none] w fun en w' => en = .returned (.int .i64 0) ∧ w = w' := by
  go_enter Tryd.func75, Tryd.ntmps75
  go_wp2_with fail
  refine (rerr_nil _).mono ?_
  rintro e w1 ⟨rfl, rfl⟩
  go_wp2_with fail
  go_ret
  exact ⟨rfl, rfl⟩
theorem rleft_any {w : World} {g : Nat} {l : List Nat} {e : Int} (h : Rd w g l e) :
    Calls Tryd.prog 75 #[.pointer (some ⟨g, 0, none⟩)] w fun en w' => en = .returned (.int .i64 (Bm.left l e : Int)) ∧ w = w' := by
  by_cases he : e = 0
  · subst he
    rw [Bm.left_ok]
    obtain ⟨A, c, h⟩ := h
    have h1 := h.rest
    have H := Lib.hid h
    have hs := h.size
    obtain ⟨n, Hn⟩ : ∃ n, Hid (l.length = n) := ⟨_, rfl⟩
    rw [Hn.out] at h1 hs ⊢
    clear h
    go_enter Tryd.func75, Tryd.ntmps75
    go_wp2_with fail
    refine (rerr_any ⟨A, c, H.out⟩).mono ?_
    rintro e w1 ⟨rfl, rfl⟩
    go_wp2_with fail
    go_ret
    exact ⟨rfl, rfl⟩
  · rw [Bm.left_err he]
    have hne : (e != 0) = true := by simpa using he
    have H := Lib.hid h
    clear h he
    go_enter Tryd.func75, Tryd.ntmps75
    go_wp2_with fail
    refine (rerr_any H.out).mono ?_
    rintro e w1 ⟨rfl, rfl⟩
    go_wp2_with fail
    go_ret
    exact ⟨rfl, rfl⟩
theorem rfail_any {w : World} {g : Nat} {l : List Nat} {e : Int} (x : Int) (h : Rd w g l e) :
    Calls Tryd.prog 55 #[.pointer (some ⟨g, 0, none⟩), .int .i64 x] w fun en w' => en = .returned (.tuple #[]) ∧ Rd w' g l (Bm.fail e x) ∧ Only g w w' := by
  by_cases he : e = 0
  · subst he
    rw [Bm.fail_ok]
    obtain ⟨A, c, h⟩ := h
    have h2 := h.err
    have hf := h.free 2
    have H := Lib.hid h
    clear h
    go_enter Tryd.func55, Tryd.ntmps55
    go_wp2_with fail
    refine (rerr_any ⟨A, c, H.out⟩).mono ?_
    rintro e w1 ⟨rfl, rfl⟩
    go_wp2_with fail
    go_end0
    exact ⟨rfl, ⟨A, c, H.out.fail x⟩, (Only.refl _ _).setCell _ _⟩
  · rw [Bm.fail_err he]
    have hne : (e == 0) = false := by simpa using he
    have H := Lib.hid h
    clear h he
    go_enter Tryd.func55, Tryd.ntmps55
    go_wp2_with fail
    refine (rerr_any H.out).mono ?_
    rintro e w1 ⟨rfl, rfl⟩
    go_wp2_with fail
    go_end0
    exact ⟨rfl, H.out, Only.refl _ _⟩
theorem rend_any {w : World} {g : Nat} {l : List Nat} {e : Int} (h : Rd w g l e) :
    Calls Tryd.prog 22 #[.pointer (some ⟨g, 0, none⟩)] w fun en w' => en = .returned (.int .i64 (Bm.fin l e)) ∧ w = w' := by
  by_cases he : e = 0
  · subst he
    obtain ⟨A, c, h⟩ := h
    have h1 := h.rest
    have H := Lib.hid h
    have hs := h.size
    have hfin : Hid ((0 < l.length → Bm.fin l 0 = 4) ∧ (l.length = 0 → Bm.fin l 0 = 0)) := ⟨Bm.fin_more, Bm.fin_ok⟩
    obtain ⟨n, Hn⟩ : ∃ n, Hid (l.length = n) := ⟨_, rfl⟩
    rw [Hn.out] at h1 hs hfin
    clear h
    by_cases h0 : 0 < n
    · rw [hfin.out.1 h0]
      go_enter Tryd.func22, Tryd.ntmps22
      go_wp2_with fail
      refine (rerr_any ⟨A, c, H.out⟩).mono ?_
      rintro e w1 ⟨rfl, rfl⟩
      go_wp2_with fail
      go_ret
      exact ⟨rfl, rfl⟩
    · rw [hfin.out.2 (by omega)]
      go_enter Tryd.func22, Tryd.ntmps22
      go_wp2_with fail
      refine (rerr_any ⟨A, c, H.out⟩).mono ?_
      rintro e w1 ⟨rfl, rfl⟩
      go_wp2_with fail
      go_ret
      exact ⟨rfl, rfl⟩
  · rw [Bm.fin_err he]
    have hne : (e != 0) = true := by simpa using he
    have H := Lib.hid h
    clear h he
    go_enter Tryd.func22, Tryd.ntmps22
    go_wp2_with fail
    refine (rerr_any H.out).mono ?_
    rintro e w1 ⟨rfl, rfl⟩
    go_wp2_with fail
    go_ret
    exact ⟨rfl, rfl⟩

/-- a slice v whose bytes p lie below B -/
def Piece (w : World) (B : Nat) (v : Value) (p : List Nat) : Prop := ∃ A c, v = .slice A p.length c ∧ Sees .u8 w B A p ∧ (A = none → c = 0) ∧ p.length ≤ c ∧ c ≤ maxLen
theorem Piece.nil (w : World) (B : Nat) : Piece w B (.slice none 0 0) [] := ⟨none, 0, rfl, fun h => absurd h (by simp), fun _ => rfl, by simp, by simp [maxLen]⟩

set_option maxRecDepth 100000 in
theorem rnext_any {w : World} {g : Nat} {l : List Nat} {e : Int} (k : Nat) (hk : k ≤ 9223372036854775807) (h : Rd w g l e) :
    Calls Tryd.prog 56 #[.pointer (some ⟨g, 0, none⟩), .int .i64 (k : Int)] w fun en w' => ∃ v, en = .returned v ∧ Piece w' g v (Bm.take l e k).1 ∧ Rd w' g (Bm.take l e k).2.1 (Bm.take l e k).2.2 ∧ Only g w w' := by
  by_cases he : e = 0
  · subst he
    by_cases hkl : k ≤ l.length
    · rw [Bm.take_good hkl]
      obtain ⟨A, c, h⟩ := h
      have h1 := h.rest
      have hf := h.free 1
      have hs := h.size
      have hle := h.le
      have hmax := h.max
      unfold maxLen at hmax
      have H := Lib.hid h
      have HP := Lib.hid (h.pass hkl)
      have hA : (if c = k then A else A.map (fun x => x.add k)) = cutAt A c k := rfl
      obtain ⟨n, Hn⟩ : ∃ n, Hid (l.length = n) := ⟨_, rfl⟩
      rw [Hn.out] at h1 hs hle hkl HP
      clear h
      go_enter Tryd.func56, Tryd.ntmps56
      go_wp2_with fail
      refine (rerr_any ⟨A, c, H.out⟩).mono ?_
      rintro e w1 ⟨rfl, rfl⟩
      go_wp2_with fail
      go_ret
      refine ⟨_, rfl, ⟨A, c, by rw [List.length_take, Hn.out, Nat.min_eq_left hkl]; rfl, ((H.out.sees).only ((Only.refl g w).setCell 1 _) (Nat.le_refl _)).take k, H.out.null, by rw [List.length_take, Hn.out]; omega, H.out.max⟩, ⟨_, _, HP.out⟩, (Only.refl _ _).setCell _ _⟩
    · rw [Bm.take_short (by omega)]
      obtain ⟨A, c, h⟩ := h
      have h1 := h.rest
      have hs := h.size
      have H := Lib.hid h
      obtain ⟨n, Hn⟩ : ∃ n, Hid (l.length = n) := ⟨_, rfl⟩
      rw [Hn.out] at h1 hs hkl
      clear h
      go_enter Tryd.func56, Tryd.ntmps56
      go_wp2_with fail
      refine (rerr_any ⟨A, c, H.out⟩).mono ?_
      rintro e w1 ⟨rfl, rfl⟩
      go_wp2_with fail
      refine (rfail_any 2 ⟨A, c, H.out⟩).mono ?_
      rintro e w1 ⟨rfl, h2, ho⟩
      rw [Bm.fail_ok] at h2
      have H2 := Lib.hid h2
      have HO := Lib.hid ho
      clear h2 ho
      go_wp2_with fail
      go_ret
      exact ⟨_, rfl, Piece.nil _ _, H2.out, HO.out⟩
  · rw [Bm.take_err he]
    have hne : (e != 0) = true := by simpa using he
    have H := Lib.hid h
    clear h he
    go_enter Tryd.func56, Tryd.ntmps56
    go_wp2_with fail
    refine (rerr_any H.out).mono ?_
    rintro e w1 ⟨rfl, rfl⟩
    go_wp2_with fail
    go_ret
    exact ⟨_, rfl, Piece.nil _ _, H.out, Only.refl _ _⟩
end Go.Proofs.YtpfeccbnkgnioaaDoor
