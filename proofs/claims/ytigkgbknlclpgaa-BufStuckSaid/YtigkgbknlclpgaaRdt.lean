/- Contracts of the reader's methods Take, Text, of bytes.Clone and of buf.Open. -/
import Derived.Test.YtigkgbknlclpgaaRdm
import Derived.Lib.SliceRun
namespace Go.Proofs.Ytigkgbknlclpgaa
open Go.RowKit
set_option linter.unusedVariables false

theorem bclone_any {w : World} {B : Nat} {v : Value} {p : List Nat} (h : Piece w B v p) (hp : p.length ≤ 1000000000000) :
    Calls Try.prog 26 #[v] w (Made .u8 5 w.heap.size p w) := by
  have q22 : ∀ (w : World) (a : Option Addr) (n c n' c' : Nat), (binOp .eql 22 (.slice a n c) (.slice none n' c')).run Try.prog w = .ok (.bool a.isNone) w := fun w a n c n' c' => Lib.run_eql_slice_nil w _ _ a n c n' c' Try.underlying22
  obtain ⟨A, c, rfl, hs, hnull, hle, hmax⟩ := h
  unfold maxLen at hmax
  cases A with
  | none =>
    have h0 : p = [] := by
      have := hnull rfl
      exact List.eq_nil_of_length_eq_zero (by omega)
    subst h0
    have hc := hnull rfl
    subst hc
    clear hnull hs
    go_enter Try.func26, Try.ntmps26
    go_wp2_with fail
    go_ret
    exact ⟨_, rfl, World.ownsRow_nil _ _ 5 1, Below.refl _ _⟩
  | some a =>
    have Hs := Lib.hid hs
    have ho0 : (w.alloc (.cells #[] 5)).ownsRow w.heap.size 5 1 (.slice (some ⟨w.heap.size, 0, none⟩) 0 0) 0 [] := World.ownsRow_lit w #[] 0 (Nat.le_refl _) (by decide) rfl
    have Ho0 := Lib.hid ho0
    obtain ⟨n, Hn⟩ : ∃ n, Hid (p.length = n) := ⟨_, rfl⟩
    rw [Hn.out] at hp hle ⊢
    clear hs ho0 hnull
    go_enter Try.func26, Try.ntmps26
    go_wp2_with (at_builtin; refine wpList_append_row byteT _ _ rfl rfl w.heap.size _ 0 [] rfl Ho0.out n c rfl Hn.out (fun h => by cases h) ((Hs.out.lower.below ((Below.refl _ _).alloc (Nat.min_le_right _ _) _))) (by omega) (by simp) ?_; intro v2 w2 ho2 hg2)
    go_ret
    rw [Nat.zero_add, List.nil_append, ← Hn.out] at ho2
    exact ⟨_, rfl, ho2, (((Below.refl _ _).alloc (Nat.le_refl _) _)).grown hg2 (by simp) (fun k hk => (Ho0.out.lt k hk).1)⟩

set_option maxRecDepth 100000 in
theorem rtake_any {w : World} {g : Nat} {l : List Nat} {e : Int} (n : Int) (h1 : -9223372036854775808 ≤ n) (h2 : n ≤ 9223372036854775807) (hl : l.length ≤ 1000000000000) (h : Rd w g l e) :
    Calls Try.prog 22 #[.pointer (some ⟨g, 0, none⟩), .int .i64 n] w fun en w' => ∃ v, en = .returned v ∧ w'.ownsRow w.heap.size 5 1 v (Bm.take l e n).1.length (ints .u8 (Bm.take l e n).1) ∧ Rd w' g (Bm.take l e n).2.1 (Bm.take l e n).2.2 ∧ Only g w w' := by
  have H := Lib.hid h
  clear h
  by_cases hn : n < 0
  · have HT : Hid (Bm.take l e n = ([], l, Bm.fail e 1)) := by
      by_cases he : e = 0
      · subst he; exact Bm.take_neg hn
      · show Bm.take l e n = _
        rw [Bm.take_err he, Bm.fail_err he]
    rw [HT.out]
    go_enter Try.func22, Try.ntmps22
    go_wp2_with fail
    refine (rfail_any 1 H.out).mono ?_
    rintro en w1 ⟨rfl, hr, ho⟩
    have HR := Lib.hid hr
    have HO := Lib.hid ho
    clear hr ho
    go_wp2_with fail
    go_ret
    exact ⟨_, rfl, World.ownsRow_nil _ _ 5 1, HR.out, HO.out⟩
  · obtain ⟨k, rfl⟩ : ∃ k : Nat, n = (k : Int) := ⟨n.toNat, by omega⟩
    have hsm := (Bm.take_small l e k).1
    go_enter Try.func22, Try.ntmps22
    go_wp2_with fail
    refine (rnext_any k (by omega) H.out).mono ?_
    rintro en w1 ⟨v, rfl, hp, hr, ho⟩
    have HP := Lib.hid hp
    have HR := Lib.hid hr
    have HO := Lib.hid ho
    clear hp hr ho
    go_wp2_with fail
    refine (bclone_any HP.out (by omega)).mono ?_
    rintro en w2 ⟨v2, rfl, ho2, hb2⟩
    have HO2 := Lib.hid ho2
    have HB2 := Lib.hid hb2
    clear ho2 hb2
    go_wp2_with fail
    go_ret
    exact ⟨_, rfl, own_lower HO2.out HO.out.size, HR.out.below HB2.out HR.out.lt, HO.out.trans (Only.of_below HB2.out)⟩

theorem open_any {w : World} {B : Nat} {v : Value} {p : List Nat} (h : Piece w B v p) (hp : p.length ≤ 1000000000000) (hb : ∀ x ∈ p, x < 256) :
    Calls Try.prog 12 #[v] w fun en w' => ∃ g, en = .returned (.pointer (some ⟨g, 0, none⟩)) ∧ w.heap.size ≤ g ∧ Rd w' g p 0 ∧ Below w.heap.size w w' := by
  have H := Lib.hid h
  have Hb := Lib.hid hb
  clear h hb
  go_enter Try.func12, Try.ntmps12
  go_wp2_with fail
  refine (bclone_any H.out hp).mono ?_
  rintro en w1 ⟨v1, rfl, ho, hbel⟩
  obtain ⟨A, c, rfl⟩ := own_shape ho
  have HO := Lib.hid ho
  have HB := Lib.hid hbel
  clear ho hbel
  obtain ⟨n, Hn⟩ : ∃ n, Hid (p.length = n) := ⟨_, rfl⟩
  rw [Hn.out]
  go_wp2_with fail
  go_ret
  have hs : Sees .u8 w1 w1.heap.size A p := by
    have h := HO.out
    rw [Hn.out] at h
    exact Sees.of_own (by rw [Hn.out]; exact h)
  have hlc : n ≤ c ∧ c ≤ maxLen := by
    rcases (HO.out).2 with ⟨hv, h0⟩ | ⟨g, cap, cur, hv, _, _, hnc, hm, _, _⟩
    · injection hv with _ _ hc
      rw [← Hn.out, h0, hc]
      exact ⟨Nat.le_refl _, by unfold maxLen; omega⟩
    · injection hv with _ _ hc
      rw [← Hn.out, hc]
      exact ⟨hnc, hm⟩
  refine ⟨_, rfl, HB.out.size, ⟨A, c, ?_, (hs.below (Below.refl _ _ |>.alloc (Nat.le_refl _) _)), Hb.out, by rw [Hn.out]; exact hlc.1, hlc.2, own_nil HO.out⟩, HB.out.alloc HB.out.size _⟩
  rw [Hn.out]
  exact Whole.made _ _ _

set_option maxRecDepth 100000 in
theorem rtext_any {w : World} {g : Nat} {l : List Nat} {e : Int} (most : Int) (hm1 : -9223372036854775808 ≤ most) (hm2 : most ≤ 9223372036854775807) (h : Rd w g l e) :
    Calls Try.prog 17 #[.pointer (some ⟨g, 0, none⟩), .int .i64 most] w fun en w' => en = .returned (.string (strOf (Bm.text l e most).1)) ∧ Rd w' g (Bm.text l e most).2.1 (Bm.text l e most).2.2 ∧ Only g w w' := by
  by_cases he : e = 0
  · subst he
    obtain ⟨A, c, h⟩ := h
    have h1 := h.rest
    have hs := h.size
    have H := Lib.hid h
    have hg1 := Um.get_num l
    have hg2 := Um.get_used l
    obtain ⟨n, Hn⟩ : ∃ n, Hid (l.length = n) := ⟨_, rfl⟩
    have Hget := Lib.hid (get_any g A l n c w Hn.out (by rw [← Hn.out]; exact hs) h.sees h.byte)
    obtain ⟨q, u, x, Hg⟩ : ∃ q u x, Hid (Um.get l = (q, u, x)) := ⟨_, _, _, rfl⟩
    rw [Hg.out] at hg1 hg2 Hget
    rw [Hn.out] at h1 hs hg2
    clear h
    simp only at hg1 hg2
    by_cases hx : x = 0
    · subst hx
      by_cases hq : most < (q : Int)
      · rw [Bm.text_long Hg.out hq]
        by_cases hneg : most < 0
        · clear hq
          go_enter Try.func17, Try.ntmps17
          go_wp2_with fail
          refine (rerr_any ⟨A, c, H.out⟩).mono ?_
          rintro en w1 ⟨rfl, rfl⟩
          go_wp2_with fail
          refine (Hget.out).mono ?_
          rintro en w1 ⟨rfl, rfl⟩
          go_wp2_with fail
          refine (rfail_any 5 ⟨A, c, H.out⟩).mono ?_
          rintro en w1 ⟨rfl, hr, ho⟩
          have HR := Lib.hid hr
          have HO := Lib.hid ho
          clear hr ho
          go_wp2_with fail
          go_ret
          exact ⟨rfl, HR.out, HO.out⟩
        · obtain ⟨m, rfl⟩ : ∃ m : Nat, most = (m : Int) := ⟨most.toNat, by omega⟩
          clear hneg
          go_enter Try.func17, Try.ntmps17
          go_wp2_with fail
          refine (rerr_any ⟨A, c, H.out⟩).mono ?_
          rintro en w1 ⟨rfl, rfl⟩
          go_wp2_with fail
          refine (Hget.out).mono ?_
          rintro en w1 ⟨rfl, rfl⟩
          go_wp2_with fail
          refine (rfail_any 5 ⟨A, c, H.out⟩).mono ?_
          rintro en w1 ⟨rfl, hr, ho⟩
          have HR := Lib.hid hr
          have HO := Lib.hid ho
          clear hr ho
          go_wp2_with fail
          go_ret
          exact ⟨rfl, HR.out, HO.out⟩
      · obtain ⟨m, rfl⟩ : ∃ m : Nat, most = (m : Int) := ⟨most.toNat, by omega⟩
        obtain ⟨d, Hd⟩ : ∃ d, Hid (n - u = d) := ⟨_, rfl⟩
        have hd : (n : Int) - (u : Int) = (d : Int) := by rw [← Hd.out]; omega
        by_cases hdq : d < q
        · rw [Bm.text_short Hg.out hq (by rw [Hn.out, Hd.out]; exact hdq)]
          go_enter Try.func17, Try.ntmps17
          go_wp2_with fail
          refine (rerr_any ⟨A, c, H.out⟩).mono ?_
          rintro en w1 ⟨rfl, rfl⟩
          go_wp2_with fail
          refine (Hget.out).mono ?_
          rintro en w1 ⟨rfl, rfl⟩
          go_wp2_with fail
          refine (rfail_any 2 ⟨A, c, H.out⟩).mono ?_
          rintro en w1 ⟨rfl, hr, ho⟩
          have HR := Lib.hid hr
          have HO := Lib.hid ho
          clear hr ho
          go_wp2_with fail
          go_ret
          exact ⟨rfl, HR.out, HO.out⟩
        · rw [Bm.text_good Hg.out hq (by rw [Hn.out, Hd.out]; exact hdq)]
          have Ht : Hid (Bm.take l 0 (u : Int) = (l.take u, l.drop u, 0)) := Bm.take_good (by rw [Hn.out]; exact hg2)
          have Ht2 : Hid (Bm.take (l.drop u) 0 (q : Int) = ((l.drop u).take q, (l.drop u).drop q, 0)) := Bm.take_good (by rw [List.length_drop, Hn.out, Hd.out]; omega)
          obtain ⟨p, Hp⟩ : ∃ p, Hid ((l.drop u).take q = p) := ⟨_, rfl⟩
          rw [Hp.out] at Ht2 ⊢
          have hq2 : q ≤ 9223372036854775807 := by omega
          go_enter Try.func17, Try.ntmps17
          go_wp2_with fail
          refine (rerr_any ⟨A, c, H.out⟩).mono ?_
          rintro en w1 ⟨rfl, rfl⟩
          go_wp2_with fail
          refine (Hget.out).mono ?_
          rintro en w1 ⟨rfl, rfl⟩
          go_wp2_with fail
          refine (rnext_any u (by omega) ⟨A, c, H.out⟩).mono ?_
          rintro en w1 ⟨v, rfl, -, hr, ho⟩
          rw [Ht.out] at hr
          have HR := Lib.hid hr
          have HO := Lib.hid ho
          clear hr ho
          go_wp2_with fail
          refine (rnext_any q hq2 HR.out).mono ?_
          rintro en w2 ⟨v2, rfl, ⟨A2, c2, rfl, hsee, -, -, -⟩, hr, ho⟩
          rw [Ht2.out] at hr hsee ⊢
          have hcv := conv_sees (dst := 9) Try.underlying22 Try.underlying5 Try.underlying9 _ c2 rfl hsee
          have HR2 := Lib.hid hr
          have HO2 := Lib.hid ho
          clear hr ho hsee
          dsimp only at hcv ⊢
          go_wp2_with fail
          go_ret
          exact ⟨rfl, by rw [← List.drop_drop]; exact HR2.out, HO.out.trans HO2.out⟩
    · rw [Bm.text_get Hg.out hx]
      have hx1 : ((x : Int) == 0) = false := by simpa using hx
      have hx2 : ((x : Int) != 0) = true := by simpa using hx
      clear hx
      go_enter Try.func17, Try.ntmps17
      go_wp2_with fail
      refine (rerr_any ⟨A, c, H.out⟩).mono ?_
      rintro en w1 ⟨rfl, rfl⟩
      go_wp2_with fail
      refine (Hget.out).mono ?_
      rintro en w1 ⟨rfl, rfl⟩
      go_wp2_with fail
      refine (rfail_any (x : Int) ⟨A, c, H.out⟩).mono ?_
      rintro en w1 ⟨rfl, hr, ho⟩
      have HR := Lib.hid hr
      have HO := Lib.hid ho
      clear hr ho
      go_wp2_with fail
      go_ret
      exact ⟨rfl, HR.out, HO.out⟩
  · rw [Bm.text_err he]
    have hne : (e != 0) = true := by simpa using he
    have H := Lib.hid h
    clear h he
    go_enter Try.func17, Try.ntmps17
    go_wp2_with fail
    refine (rerr_any H.out).mono ?_
    rintro en w1 ⟨rfl, rfl⟩
    go_wp2_with fail
    go_ret
    exact ⟨rfl, H.out, Only.refl _ _⟩
end Go.Proofs.Ytigkgbknlclpgaa
