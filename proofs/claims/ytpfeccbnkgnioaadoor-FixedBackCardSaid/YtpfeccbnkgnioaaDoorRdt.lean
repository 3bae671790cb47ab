/- Contracts of the reader's methods Take, Text, of bytes.Clone and of buf.Open. -/
import Derived.Test.YtpfeccbnkgnioaaDoorRdm
import Derived.Lib.SliceRun
namespace Go.Proofs.YtpfeccbnkgnioaaDoor
open Go.RowKit
set_option linter.unusedVariables false

theorem bclone_any {w : World} {B : Nat} {v : Value} {p : List Nat} (h : Piece w B v p) (hp : p.length ≤ 1000000000000) :
    Calls Tryd.prog 54 #[v] w (Made .u8 5 w.heap.size p w) := by
  have q22 : ∀ (w : World) (a : Option Addr) (n c n' c' : Nat), (binOp .eql 33 (.slice a n c) (.slice none n' c')).run Tryd.prog w = .ok (.bool a.isNone) w := fun w a n c n' c' => Lib.run_eql_slice_nil w _ _ a n c n' c' Tryd.underlying33
  obtain ⟨A, c, rfl, hs, hnull, hle, hmax⟩ := h
  unfold maxLen at hmax
  cases A with
  | none =>
    have h0 : p = [] := by
      have := hnull rfl
      exact List.eq_nil_of_length_eq_zero (by omega)
    subst h0
    have hc := hnull rfl
    subst hc
    clear hnull hs
    go_enter Tryd.func54, Tryd.ntmps54
    go_wp2_with fail
    go_ret
    exact ⟨_, rfl, World.ownsRow_nil _ _ 5 1, Below.refl _ _⟩
  | some a =>
    have Hs := Lib.hid hs
    have ho0 : (w.alloc (.cells #[] 5)).ownsRow w.heap.size 5 1 (.slice (some ⟨w.heap.size, 0, none⟩) 0 0) 0 [] := World.ownsRow_lit w #[] 0 (Nat.le_refl _) (by decide) rfl
    have Ho0 := Lib.hid ho0
    obtain ⟨n, Hn⟩ : ∃ n, Hid (p.length = n) := ⟨_, rfl⟩
    rw [Hn.out] at hp hle ⊢
    clear hs ho0 hnull
    go_enter Tryd.func54, Tryd.ntmps54
    go_wp2_with (at_builtin; refine wpList_append_row byteT _ _ rfl rfl w.heap.size _ 0 [] rfl Ho0.out n c rfl Hn.out (fun h => by cases h) ((Hs.out.lower.below ((Below.refl _ _).alloc (Nat.min_le_right _ _) _))) (by omega) (by simp) ?_; intro v2 w2 ho2 hg2)
    go_ret
    rw [Nat.zero_add, List.nil_append, ← Hn.out] at ho2
    exact ⟨_, rfl, ho2, (((Below.refl _ _).alloc (Nat.le_refl _) _)).grown hg2 (by simp) (fun k hk => (Ho0.out.lt k hk).1)⟩

set_option maxRecDepth 100000 in
theorem rtake_any {w : World} {g : Nat} {l : List Nat} {e : Int} (n : Int) (h1 : -9223372036854775808 ≤ n) (h2 : n ≤ 9223372036854775807) (hl : l.length ≤ 1000000000000) (h : Rd w g l e) :
    Calls Tryd.prog 77 #[.pointer (some ⟨g, 0, none⟩), .int .i64 n] w fun en w' => ∃ v, en = .returned v ∧ w'.ownsRow w.heap.size 5 1 v (Bm.take l e n).1.length (ints .u8 (Bm.take l e n).1) ∧ Rd w' g (Bm.take l e n).2.1 (Bm.take l e n).2.2 ∧ Only g w w' := by
  have H := Lib.hid h
  clear h
  by_cases hn : n < 0
  · have HT : Hid (Bm.take l e n = ([], l, Bm.fail e 1)) := by
      by_cases he : e = 0
      · subst he; exact Bm.take_neg hn
      · show Bm.take l e n = _
        rw [Bm.take_err he, Bm.fail_err he]
    rw [HT.out]
    go_enter Tryd.func77, Tryd.ntmps77
    go_wp2_with fail
    refine (rfail_any 1 H.out).mono ?_
    rintro en w1 ⟨rfl, hr, ho⟩
    have HR := Lib.hid hr
    have HO := Lib.hid ho
    clear hr ho
    go_wp2_with fail
    go_ret
    exact ⟨_, rfl, World.ownsRow_nil _ _ 5 1, HR.out, HO.out⟩
  · obtain ⟨k, rfl⟩ : ∃ k : Nat, n = (k : Int) := ⟨n.toNat, by omega⟩
    have hsm := (Bm.take_small l e k).1
    go_enter Tryd.func77, Tryd.ntmps77
    go_wp2_with fail
    refine (rnext_any k (by omega) H.out).mono ?_
    rintro en w1 ⟨v, rfl, hp, hr, ho⟩
    have HP := Lib.hid hp
    have HR := Lib.hid hr
    have HO := Lib.hid ho
    clear hp hr ho
    go_wp2_with fail
    refine (bclone_any HP.out (by omega)).mono ?_
    rintro en w2 ⟨v2, rfl, ho2, hb2⟩
    have HO2 := Lib.hid ho2
    have HB2 := Lib.hid hb2
    clear ho2 hb2
    go_wp2_with fail
    go_ret
    exact ⟨_, rfl, own_lower HO2.out HO.out.size, HR.out.below HB2.out HR.out.lt, HO.out.trans (Only.of_below HB2.out)⟩

theorem open_any {w : World} {B : Nat} {v : Value} {p : List Nat} (h : Piece w B v p) (hp : p.length ≤ 1000000000000) (hb : ∀ x ∈ p, x < 256) :
    Calls Tryd.prog 18 #[v] w fun en w' => ∃ g, en = .returned (.pointer (some ⟨g, 0, none⟩)) ∧ w.heap.size ≤ g ∧ Rd w' g p 0 ∧ Below w.heap.size w w' := by
  have H := Lib.hid h
  have Hb := Lib.hid hb
  clear h hb
  go_enter Tryd.func18, Tryd.ntmps18
  go_wp2_with fail
  refine (bclone_any H.out hp).mono ?_
  rintro en w1 ⟨v1, rfl, ho, hbel⟩
  obtain ⟨A, c, rfl⟩ := own_shape ho
  have HO := Lib.hid ho
  have HB := Lib.hid hbel
  clear ho hbel
  obtain ⟨n, Hn⟩ : ∃ n, Hid (p.length = n) := ⟨_, rfl⟩
  rw [Hn.out]
  go_wp2_with fail
  go_ret
  have hs : Sees .u8 w1 w1.heap.size A p := by
    have h := HO.out
    rw [Hn.out] at h
    exact Sees.of_own (by rw [Hn.out]; exact h)
  have hlc : n ≤ c ∧ c ≤ maxLen := by
    rcases (HO.out).2 with ⟨hv, h0⟩ | ⟨g, cap, cur, hv, _, _, hnc, hm, _, _⟩
    · injection hv with _ _ hc
      rw [← Hn.out, h0, hc]
      exact ⟨Nat.le_refl _, by unfold maxLen; omega⟩
    · injection hv with _ _ hc
      rw [← Hn.out, hc]
      exact ⟨hnc, hm⟩
  refine ⟨_, rfl, HB.out.size, ⟨A, c, ?_, (hs.below (Below.refl _ _ |>.alloc (Nat.le_refl _) _)), Hb.out, by rw [Hn.out]; exact hlc.1, hlc.2, own_nil HO.out⟩, HB.out.alloc HB.out.size _⟩
  rw [Hn.out]
  exact Whole.made _ _ _

end Go.Proofs.YtpfeccbnkgnioaaDoor
