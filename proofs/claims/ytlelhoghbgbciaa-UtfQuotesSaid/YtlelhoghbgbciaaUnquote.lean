/- Contracts of utf.digitValue, unmark, Unquote. -/
import Derived.Test.YtlelhoghbgbciaaQuote
namespace Go.Proofs.Ytlelhoghbgbciaa
open Go.RowKit
set_option linter.unusedVariables false

/-- a digit's value, and whether it is one -/
def digitVal (c : Nat) : Nat := if Tm.digit c < 16 then Tm.digit c else 0

set_option maxRecDepth 100000 in
theorem digitValue_any (c : Nat) (hc : c < 256) (w : World) :
    Calls Try.prog 24 #[.int .u8 (c : Int)] w fun e w' => e = .returned (.tuple #[.int .u8 (digitVal c : Int), .bool (decide (Tm.digit c < 16))]) ∧ w' = w := by
  have key : (48 ≤ c ∧ c ≤ 57 ∧ Tm.digit c = c - 48 ∧ Tm.digit c < 16 ∧ digitVal c = c - 48) ∨ (97 ≤ c ∧ c ≤ 102 ∧ Tm.digit c = c - 87 ∧ Tm.digit c < 16 ∧ digitVal c = c - 87) ∨ (¬ (48 ≤ c ∧ c ≤ 57) ∧ ¬ (97 ≤ c ∧ c ≤ 102) ∧ ¬ Tm.digit c < 16 ∧ digitVal c = 0) := by
    by_cases h1 : 48 ≤ c ∧ c ≤ 57
    · have : Tm.digit c = c - 48 := by unfold Tm.digit; rw [if_pos h1]
      exact .inl ⟨h1.1, h1.2, this, by omega, by unfold digitVal; rw [if_pos (by omega), this]⟩
    · by_cases h2 : 97 ≤ c ∧ c ≤ 102
      · have : Tm.digit c = c - 87 := by unfold Tm.digit; rw [if_neg h1, if_pos h2]
        exact .inr (.inl ⟨h2.1, h2.2, this, by omega, by unfold digitVal; rw [if_pos (by omega), this]⟩)
      · have : Tm.digit c = 16 := by unfold Tm.digit; rw [if_neg h1, if_neg h2]
        exact .inr (.inr ⟨h1, h2, by omega, by unfold digitVal; rw [if_neg (by omega)]⟩)
  rcases key with ⟨h1, h2, h3, h4, h5⟩ | ⟨h1, h2, h3, h4, h5⟩ | ⟨h1, h2, h3, h5⟩
  · rw [h5, decide_eq_true h4]
    clear h3 h4 h5
    have e : ((c - 48 : Nat) : Int) = (c : Int) - 48 := by omega
    rw [e]
    go_enter Try.func24, Try.ntmps24
    go_wp2_with fail
    go_ret2
    refine ⟨?_, rfl⟩
    rfl
  · rw [h5, decide_eq_true h4]
    clear h3 h4 h5
    have e : ((c - 87 : Nat) : Int) = (c : Int) - 87 := by omega
    rw [e]
    go_enter Try.func24, Try.ntmps24
    go_wp2_with fail
    go_ret2
    refine ⟨?_, rfl⟩
    show Ending.returned (.tuple #[.int .u8 ((c : Int) - 97 + 10), .bool true]) = _
    rw [show (c : Int) - 97 + 10 = (c : Int) - 87 by omega]
  · rw [h5, decide_eq_false h3]
    clear h3 h5
    go_enter Try.func24, Try.ntmps24
    go_wp2_with fail
    all_goals first
      | (exfalso; omega)
      | (go_ret2; exact ⟨rfl, rfl⟩)

theorem drop_cons {l : List Nat} {i : Nat} (h : i < l.length) : l.drop i = l.getD i 0 :: l.drop (i + 1) := by
  rw [List.drop_eq_getElem_cons h]
  simp [List.getD, List.getElem?_eq_getElem h]

/-- what unmark answers -/
def unmarkRet (l : List Nat) : Value := match Tm.unmark l with
  | some p => .tuple #[.string (strOf p), .bool true]
  | none => .tuple #[.string ⟨#[]⟩, .bool false]

/-- what the loop of unmark has done when it stands at byte j -/
structure Unm (l : List Nat) (w : World) (acc : List Nat) (j : Nat) (v : Value) (wr : World) : Prop where
  own : wr.ownsRow w.heap.size 5 1 v acc.length (ints .u8 acc)
  below : Below w.heap.size w wr
  same : Tm.unmark l = (Tm.unmark (l.drop j)).map (acc ++ ·)
  few : acc.length ≤ j
section
variable {l : List Nat} {w : World} {acc : List Nat} {j : Nat} {v v' : Value} {wr w1 : World} {o : Obj}
theorem Unm.start (l : List Nat) (w : World) : Unm l w [] 0 (.slice none 0 0) w :=
  ⟨World.ownsRow_nil _ _ _ _, Below.refl _ _, by simp, by simp⟩
theorem Unm.next (h : Unm l w acc j v wr) {x n : Nat} (hn : 0 < n) (hx : Tm.unmark (l.drop j) = (Tm.unmark (l.drop (j + n))).map (x :: ·)) {y : Int} (hy : y = (x : Int))
    (ho : w1.ownsRow w.heap.size 5 1 v' (acc.length + 1) (ints .u8 acc ++ [.int .u8 y])) (hg : (wr.alloc o).grownBy w1 v.ownBlock) : Unm l w (acc ++ [x]) (j + n) v' w1 := by
  obtain ⟨h1, h2, h3, h4⟩ := h
  subst hy
  refine ⟨by rw [ints_append, List.length_append]; exact ho, ?_, ?_, by simp; omega⟩
  · exact (h2.alloc h2.size o).grown hg (by have := h2.size; simp; omega) (fun k hk => (h1.lt k hk).1)
  · rw [h3, hx]
    cases Tm.unmark (l.drop (j + n)) <;> simp
theorem Unm.fail (h : Unm l w acc j v wr) (hx : Tm.unmark (l.drop j) = none) : unmarkRet l = .tuple #[.string ⟨#[]⟩, .bool false] := by
  unfold unmarkRet; rw [h.same, hx]; rfl
theorem Unm.done (h : Unm l w acc j v wr) (hj : ¬ j < l.length) : unmarkRet l = .tuple #[.string (strOf acc), .bool true] := by
  unfold unmarkRet; rw [h.same, List.drop_eq_nil_of_le (by omega), Tm.unmark_nil]; simp
end
theorem or16 : ∀ h : Nat, h < 16 → ∀ k : Nat, k < 16 → bits .or .u8 ((h : Int) * 16) (k : Int) = ((16 * h + k : Nat) : Int) := by decide +kernel

set_option maxRecDepth 100000 in
set_option maxHeartbeats 800000 in
theorem unmark_any {s : ByteArray} {l : List Nat} (T : Txt s l) (hl : l.length ≤ 10000000000) (w : World) :
    Calls Try.prog 20 #[.string s] w fun e w' => e = .returned (unmarkRet l) ∧ Below w.heap.size w w' := by
  have hsz := T.size
  have HS := Lib.hid (Unm.start l w)
  go_enter Try.func20, Try.ntmps20
  go_wp2_with fail
  go_loopw [4, 5] (fun v i wr => ∃ (acc : List Nat) (j : Nat), i = .int .i64 j ∧ j ≤ l.length ∧ Hid (Unm l w acc j v wr)) (fun _ i _ => l.length - (intOf i).toNat)
  case atStart => exact ⟨[], 0, rfl, by omega, HS⟩
  case round =>
    clear HS
    obtain ⟨acc, j, rfl, hj, HU⟩ := hrel
    by_cases hlt : j < l.length
    · obtain ⟨c, Hc⟩ : ∃ c, Hid (l.getD j 0 = c) := ⟨_, rfl⟩
      have hat : ∀ (h : j < s.size), (s[j]'h).toNat = c := fun h => by rw [← Hc.out]; exact T.at_ j h
      have hc := getD_lt T.byte j
      rw [Hc.out] at hc
      have Hdr := Lib.hid (drop_cons hlt)
      rw [Hc.out] at Hdr
      have hfew := HU.out.few
      have hz := HU.out.below.size
      by_cases h37 : c = 37
      · subst h37
        by_cases h3 : l.length - j < 3
        · have HX := Lib.hid (HU.out.fail (by rw [Hdr.out]; exact Tm.unmark_bad (fun a b t h => by have := congrArg List.length h; rw [List.length_drop] at this; simp at this; omega)))
          go_wp2_with fail
          go_ret2
          exact ⟨by rw [HX.out]; rfl, HU.out.below⟩
        · obtain ⟨a, Ha⟩ : ∃ a, Hid (l.getD (j + 1) 0 = a) := ⟨_, rfl⟩
          obtain ⟨b, Hb⟩ : ∃ b, Hid (l.getD (j + 2) 0 = b) := ⟨_, rfl⟩
          have hata : ∀ (h : j + 1 < s.size), (s[j + 1]'h).toNat = a := fun h => by rw [← Ha.out]; exact T.at_ _ h
          have hatb : ∀ (h : j + 2 < s.size), (s[j + 2]'h).toNat = b := fun h => by rw [← Hb.out]; exact T.at_ _ h
          have hal := getD_lt T.byte (j + 1)
          have hbl := getD_lt T.byte (j + 2)
          rw [Ha.out] at hal
          rw [Hb.out] at hbl
          have Hd3 : Hid (l.drop j = 37 :: a :: b :: l.drop (j + 3)) := Lib.hid (by rw [Hdr.out, drop_cons (i := j + 1) (by omega), drop_cons (i := j + 1 + 1) (by omega), Ha.out, show l.getD (j + 1 + 1) 0 = b from Hb.out])
          by_cases hd : Tm.digit a < 16 ∧ Tm.digit b < 16
          · have va : digitVal a = Tm.digit a := by unfold digitVal; rw [if_pos hd.1]
            have vb : digitVal b = Tm.digit b := by unfold digitVal; rw [if_pos hd.2]
            have HX := Lib.hid (fun (v' : Value) (w1 : World) (o : Obj) (y : Int) => HU.out.next (v' := v') (w1 := w1) (o := o) (y := y) (n := 3) (by omega) (by rw [Hd3.out]; exact Tm.unmark_mark _ hd.1 hd.2))
            obtain ⟨x, Hx⟩ : ∃ x, Hid (Tm.digit a = x) := ⟨_, rfl⟩
            obtain ⟨y, Hy⟩ : ∃ y, Hid (Tm.digit b = y) := ⟨_, rfl⟩
            have Hor := Lib.hid (or16 x (by rw [← Hx.out]; exact hd.1) y (by rw [← Hy.out]; exact hd.2))
            have hx16 : x < 16 := by rw [← Hx.out]; exact hd.1
            have hy16 : y < 16 := by rw [← Hy.out]; exact hd.2
            rw [Hx.out, Hy.out] at HX
            go_wp2_with fail
            refine (digitValue_any a hal _).mono ?_
            rintro e w1 ⟨rfl, rfl⟩
            rw [va, decide_eq_true hd.1, Hx.out]
            go_wp2_with fail
            refine (digitValue_any b hbl _).mono ?_
            rintro e w2 ⟨rfl, rfl⟩
            rw [vb, decide_eq_true hd.2, Hy.out]
            go_wp2_with (at_builtin; refine wpList_append1 byteT _ _ rfl rfl w.heap.size _ acc.length (ints .u8 acc) rfl rfl rfl HU.out.own (by omega) hz ?_; intro v' w1 ho1 hg1)
            go_roundw
            case rel => exact ⟨acc ++ [16 * x + y], j + 3, by go_num, by omega, Lib.hid (HX.out v' w1 _ _ Hor.out ho1 hg1)⟩
            case measure => simp [intOf]; omega
          · have HX := Lib.hid (HU.out.fail (by rw [Hd3.out]; exact Tm.unmark_bad (fun a' b' t h => by injection h with h1 h; injection h with h2 h; rw [← h1, ← h2]; exact hd)))
            have hf : ∀ (p q : Bool), p = decide (Tm.digit a < 16) → q = decide (Tm.digit b < 16) → p = false ∨ q = false := by
              rintro p q rfl rfl
              by_cases h1 : Tm.digit a < 16
              · right; exact decide_eq_false (fun h2 => hd ⟨h1, h2⟩)
              · left; exact decide_eq_false h1
            obtain ⟨p, Hp⟩ : ∃ p, Hid (p = decide (Tm.digit a < 16)) := ⟨_, rfl⟩
            obtain ⟨q, Hq⟩ : ∃ q, Hid (q = decide (Tm.digit b < 16)) := ⟨_, rfl⟩
            have hpq := hf p q Hp.out Hq.out
            clear hf
            have C1 := Lib.hid (digitValue_any a hal)
            have C2 := Lib.hid (digitValue_any b hbl)
            rw [← Hp.out] at C1
            rw [← Hq.out] at C2
            go_wp2_with fail
            refine (C1.out _).mono ?_
            rintro e w1 ⟨rfl, rfl⟩
            go_wp2_with fail
            refine (C2.out _).mono ?_
            rintro e w2 ⟨rfl, rfl⟩
            rcases hpq with rfl | rfl
            · go_wp2_with fail
              go_ret2
              exact ⟨by rw [HX.out]; rfl, HU.out.below⟩
            · cases p
              · go_wp2_with fail
                go_ret2
                exact ⟨by rw [HX.out]; rfl, HU.out.below⟩
              · go_wp2_with fail
                go_ret2
                exact ⟨by rw [HX.out]; rfl, HU.out.below⟩
      · have hne : ((c : Int) != 37) = true := by simp; omega
        have HX := Lib.hid (fun (v' : Value) (w1 : World) (o : Obj) (y : Int) => HU.out.next (v' := v') (w1 := w1) (o := o) (y := y) (n := 1) (by omega) (by rw [Hdr.out]; exact Tm.unmark_other _ h37))
        go_wp2_with (at_builtin; refine wpList_append1 byteT _ _ rfl rfl w.heap.size _ acc.length (ints .u8 acc) rfl rfl rfl HU.out.own (by omega) hz ?_; intro v' w1 ho1 hg1)
        go_roundw
        case rel => exact ⟨acc ++ [c], j + 1, by go_num, by omega, Lib.hid (HX.out v' w1 _ _ rfl ho1 hg1)⟩
        case measure => simp [intOf]; omega
    · have HX := Lib.hid (HU.out.done hlt)
      have hcv := conv_own (dst := 9) Try.underlying39 Try.underlying5 Try.underlying9 HU.out.own
      go_wp2_with fail
      go_ret2
      exact ⟨by rw [HX.out]; rfl, HU.out.below⟩

set_option maxRecDepth 100000 in
set_option maxHeartbeats 800000 in
theorem unquote_any {s : ByteArray} {l : List Nat} (T : Txt s l) (hl : l.length ≤ 10000000000) (w : World) :
    Calls Try.prog 14 #[.string s] w fun e w' => e = .returned (.tuple #[.string (strOf (Tm.unquote l).1), .int .i64 ((Tm.unquote l).2 : Int)]) ∧ Below w.heap.size w w' := by
  have hsz := T.size
  have he : (s.toList == [37]) = decide (l = [37]) := T.eql_lit [37]
  have Hun : Hid (Tm.unquote l = if l = [37] then ([], 0) else match Tm.unmark l with | some p => if Tm.quote p = l then (p, 0) else ([], 3) | none => ([], 3)) := Lib.hid rfl
  by_cases h37 : l = [37]
  · rw [decide_eq_true h37] at he
    rw [Hun.out, if_pos h37]
    clear Hun
    go_enter Try.func14, Try.ntmps14
    go_wp2_with fail
    go_ret2
    exact ⟨rfl, Below.refl _ _⟩
  · rw [decide_eq_false h37] at he
    rw [Hun.out, if_neg h37]
    clear Hun
    have C1 := Lib.hid (unmark_any T hl w)
    cases hu : Tm.unmark l with
    | none =>
      have er : unmarkRet l = .tuple #[.string ⟨#[]⟩, .bool false] := by unfold unmarkRet; rw [hu]
      rw [er] at C1
      clear er hu
      go_enter Try.func14, Try.ntmps14
      go_wp2_with fail
      refine C1.out.mono ?_
      rintro e w1 ⟨rfl, hb⟩
      have HB := Lib.hid hb
      clear hb
      go_wp2_with fail
      go_ret2
      exact ⟨rfl, HB.out⟩
    | some p =>
      have er : unmarkRet l = .tuple #[.string (strOf p), .bool true] := by unfold unmarkRet; rw [hu]
      rw [er] at C1
      have hp := Tm.unmark_byte T.byte hu
      have hpl := Tm.unmark_length hu
      have C2 := Lib.hid (fun W => quote_any (Txt.of hp) (by omega) W)
      have hq := (Txt.of (Tm.quote_byte hp)).eql T
      clear er hu hp
      dsimp only
      by_cases hqq : Tm.quote p = l
      · rw [decide_eq_true hqq] at hq
        rw [if_pos hqq]
        clear hqq
        go_enter Try.func14, Try.ntmps14
        go_wp2_with fail
        refine C1.out.mono ?_
        rintro e w1 ⟨rfl, hb⟩
        have HB := Lib.hid hb
        clear hb
        go_wp2_with fail
        refine (C2.out _).mono ?_
        rintro e w2 ⟨rfl, hb⟩
        have HB2 := Lib.hid (HB.out.trans (hb.mono HB.out.size))
        clear hb
        go_wp2_with fail
        go_ret2
        exact ⟨rfl, HB2.out⟩
      · rw [decide_eq_false hqq] at hq
        rw [if_neg hqq]
        clear hqq
        go_enter Try.func14, Try.ntmps14
        go_wp2_with fail
        refine C1.out.mono ?_
        rintro e w1 ⟨rfl, hb⟩
        have HB := Lib.hid hb
        clear hb
        go_wp2_with fail
        refine (C2.out _).mono ?_
        rintro e w2 ⟨rfl, hb⟩
        have HB2 := Lib.hid (HB.out.trans (hb.mono HB.out.size))
        clear hb
        go_wp2_with fail
        go_ret2
        exact ⟨rfl, HB2.out⟩
end Go.Proofs.Ytlelhoghbgbciaa
