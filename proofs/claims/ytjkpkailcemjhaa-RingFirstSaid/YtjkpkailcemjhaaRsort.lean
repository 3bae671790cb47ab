/- Contracts of slices.Clone at numbers and of ring.Sort. -/
import Derived.Test.YtjkpkailcemjhaaStable
import Derived.Test.YtjkpkailcemjhaaAwake3
namespace Go.Proofs.Ytjkpkailcemjhaa
open Go.RowKit
set_option linter.unusedVariables false

theorem own_empty (w : World) (base t : Nat) (hb : base ≤ w.heap.size) : (w.alloc (.cells #[] t)).ownsRow base t 1 (.slice (some ⟨w.heap.size, 0, none⟩) 0 0) 0 [] :=
  ⟨rfl, .inr ⟨w.heap.size, 0, _, rfl, hb, heap_alloc_new w _, Nat.le_refl _, by unfold maxLen; omega, rfl, rfl⟩⟩

set_option maxRecDepth 100000 in
set_option maxHeartbeats 400000 in
theorem clone_any (base B : Nat) (A : Option Addr) (l : List Nat) (n c : Nat) (w : World) (hn : l.length = n) (hn1 : n ≤ 1000000000000) (hc : A = none → c = 0) (hA : Sees .u64 w B A l) (hB : B ≤ w.heap.size) (hbase : base ≤ w.heap.size) :
    Calls Try.prog 21 #[.slice A n c] w (Made .u64 22 base l w) := by
  have q28 : ∀ (w : World) (a : Option Addr) (n c n' c' : Nat), (binOp .eql 28 (.slice a n c) (.slice none n' c')).run Try.prog w = .ok (.bool a.isNone) w := fun w a n c n' c' => Lib.run_eql_slice_nil w _ _ a n c n' c' Try.underlying28
  cases A with
  | none =>
    have h0 : l = [] := by
      rcases Nat.eq_zero_or_pos l.length with h | h
      · exact List.eq_nil_of_length_eq_zero h
      · obtain ⟨_, _, e, _⟩ := hA h; cases e
    have hc0 := hc rfl
    subst h0 hc0 hn
    clear hA
    go_enter Try.func21, Try.ntmps21
    go_wp2_with fail
    go_ret
    exact ⟨_, rfl, World.ownsRow_nil _ _ _ _, Below.refl _ _⟩
  | some ad =>
    have Hn := Lib.hid hn
    clear hn
    have HA := Lib.hid hA
    clear hA
    have HO := Lib.hid (own_empty w base 22 hbase)
    have HS : Hid (Sees .u64 (w.alloc (.cells #[] 22)) B (some ad) l) := Lib.hid (HA.out.below ((Below.refl B w).alloc hB _))
    go_enter Try.func21, Try.ntmps21
    go_wp2_with (at_builtin; refine wpList_append_row u64T _ _ rfl rfl base _ 0 [] rfl HO.out n c rfl Hn.out (fun h => by cases h) HS.out (by omega) (by simp; omega) ?_; intro v' w1 ho1 hg1)
    go_ret
    refine ⟨v', rfl, ?_, ?_⟩
    · have := ho1
      rw [Nat.zero_add, List.nil_append] at this
      rw [Hn.out]
      exact this
    · exact ((Below.refl base w).alloc hbase _).grown hg1 (by simp; omega) (fun k hk => (HO.out.lt k hk).1)

set_option maxRecDepth 100000 in
theorem insertion_nil (h : Nat) (w : World) :
    Calls Try.prog 27 #[.slice none 0 0, .int .i64 0, .int .i64 0, lessFn h] w fun e w' => (∃ v, e = .returned v) ∧ w = w' := by
  unfold lessFn
  go_enter Try.func27, Try.ntmps27
  go_wp2_with fail
  go_loopw [8] (fun vi wr => vi = .int .i64 1 ∧ wr = w) (fun _ _ => 0)
  case atStart => exact ⟨rfl, rfl⟩
  case round =>
    obtain ⟨rfl, rfl⟩ := hrel
    go_wp2_with fail
    go_end0
    exact ⟨⟨_, rfl⟩, rfl⟩
set_option maxRecDepth 100000 in
theorem stable_nil (h : Nat) (w : World) :
    Calls Try.prog 25 #[.slice none 0 0, .int .i64 0, lessFn h] w fun e w' => (∃ v, e = .returned v) ∧ w = w' := by
  have HI := Lib.hid (insertion_nil h)
  unfold lessFn at HI ⊢
  go_enter Try.func25, Try.ntmps25
  go_wp2_with fail
  go_loopw [7, 8] (fun va vb wr => va = .int .i64 0 ∧ vb = .int .i64 20 ∧ wr = w) (fun _ _ _ => 0)
  case atStart => exact ⟨rfl, rfl, rfl⟩
  case round =>
    obtain ⟨rfl, rfl, rfl⟩ := hrel
    go_wp2_with fail
    refine (HI.out _).mono ?_
    rintro e w1 ⟨⟨v, rfl⟩, rfl⟩
    go_wp2_with fail
    go_loopw [6] (fun vs w2 => vs = .int .i64 20 ∧ w2 = wr) (fun _ _ => 0)
    case atStart => exact ⟨rfl, rfl⟩
    case round =>
      obtain ⟨rfl, rfl⟩ := hrel
      go_wp2_with fail
      go_end0
      exact ⟨⟨_, rfl⟩, rfl⟩
set_option maxRecDepth 100000 in
theorem sortStable_nil (h : Nat) (w : World) :
    Calls Try.prog 22 #[.slice none 0 0, lessFn h] w fun e w' => (∃ v, e = .returned v) ∧ w = w' := by
  have HI := Lib.hid (stable_nil h)
  unfold lessFn at HI ⊢
  go_enter Try.func22, Try.ntmps22
  go_wp2_with fail
  refine (HI.out _).mono ?_
  rintro e w1 ⟨⟨v, rfl⟩, rfl⟩
  go_wp2_with fail
  go_end0
  exact ⟨⟨_, rfl⟩, rfl⟩

/-- a row of the call's own is a row that can be sorted -/
theorem own_data {w : World} {base n : Nat} {v : Value} {l : List Nat} (hl : l.length = n) (h : w.ownsRow base 22 1 v n (ints .u64 l)) :
    (v = .slice none 0 0 ∧ n = 0) ∨ ∃ g c rest, v = .slice (some ⟨g, 0, none⟩) n c ∧ base ≤ g ∧ n ≤ c ∧ c ≤ maxLen ∧ rest.length = c - n ∧ Data w g rest l := by
  rcases h.2 with ⟨hv, h0⟩ | ⟨g, c, cur, hv, hg, hh, hnc, hm, hs, ht⟩
  · exact .inl ⟨hv, h0⟩
  · refine .inr ⟨g, c, cur.toList.drop n, hv, hg, hnc, hm, by rw [List.length_drop, Array.length_toList, hs, Nat.mul_one], ?_⟩
    unfold Data Whole
    rw [Nat.mul_one] at ht
    rw [← ht, List.take_append_drop]
    exact hh
theorem data_own {w : World} {base n g c : Nat} {rest : List Value} {l : List Nat} (hl : l.length = n) (hg : base ≤ g) (hnc : n ≤ c) (hm : c ≤ maxLen) (hr : rest.length = c - n) (h : Data w g rest l) :
    w.ownsRow base 22 1 (.slice (some ⟨g, 0, none⟩) n c) n (ints .u64 l) :=
  ⟨by rw [ints_length, hl, Nat.mul_one], .inr ⟨g, c, _, rfl, hg, h, hnc, hm, by simp [ints_length, hl, hr]; omega, by
    rw [Nat.mul_one]
    simp only
    rw [List.take_append_of_le_length (by rw [ints_length, hl]; exact Nat.le_refl _), List.take_of_length_le (by rw [ints_length, hl]; exact Nat.le_refl _)]⟩⟩

/-- the numbers l in order from frm on, in a row of the call's own -/
def Sorted (frm : Nat) (l : List Nat) (w : World) (e : Ending) (w' : World) : Prop :=
  ∃ v l', e = .returned v ∧ w'.ownsRow w.heap.size 22 1 v l.length (ints .u64 l') ∧ Below w.heap.size w w' ∧ l'.Perm l ∧ Sm.Asc (Rm.dist frm) 0 l.length l'

set_option maxRecDepth 100000 in
set_option maxHeartbeats 400000 in
theorem sort_any (B : Nat) (A : Option Addr) (l : List Nat) (n c frm : Nat) (w : World) (hn : l.length = n) (hn1 : n ≤ 1000000000000) (hc : A = none → c = 0) (hA : Sees .u64 w B A l) (hB : B ≤ w.heap.size) (hu : ∀ x ∈ l, x < 18446744073709551616) (hf : frm < 18446744073709551616) :
    Calls Try.prog 19 #[.int .u64 (frm : Int), .slice A n c] w (Sorted frm l w) := by
  unfold Sorted
  rw [hn]
  have Hn := Lib.hid hn
  clear hn
  have Hu := Lib.hid hu
  clear hu
  have Hbox : Hid (Below w.heap.size w (w.alloc (.cells #[.int .u64 (frm : Int)] 22))) := Lib.hid ((Below.refl _ w).alloc (Nat.le_refl _) _)
  have HA := Lib.hid (hA.below (Hbox.out.mono hB))
  clear hA
  have Hcell : Hid ((w.alloc (.cells #[.int .u64 (frm : Int)] 22)).cell? ⟨w.heap.size, 0, none⟩ = some (.int .u64 (frm : Int))) := Lib.hid ((Whole.made w 22 #[.int .u64 (frm : Int)]).at_ 0)
  have HC := Lib.hid (clone_any (w.heap.size + 1) B A l n c _ Hn.out hn1 hc HA.out (by simp; omega) (by simp))
  obtain ⟨hb, Hhb⟩ : ∃ hb, Hid (w.heap.size = hb) := ⟨_, rfl⟩
  have HST := Lib.hid (fun g c rest l w ht hnc => sortStable_any g c n frm hb rest l w ht hn1 hnc)
  have HSN := Lib.hid (fun w => sortStable_nil hb w)
  unfold lessFn at HST HSN
  rw [Hhb.out] at Hbox HC Hcell ⊢
  have hwb : w.heap.size = hb := Hhb.out
  go_enter Try.func19, Try.ntmps19
  go_wp2_with fail
  refine HC.out.mono ?_
  rintro e w1 ⟨v, rfl, ho1, hb1⟩
  have Hc1 : Hid (w1.cell? ⟨hb, 0, none⟩ = some (.int .u64 (frm : Int))) := Lib.hid ((hb1.cell (p := ⟨hb, 0, none⟩) (by simp)).trans Hcell.out)
  have Hb1 := Lib.hid (Hbox.out.trans (hb1.mono (by omega)))
  rw [Hn.out] at ho1
  rcases own_data Hn.out ho1 with ⟨rfl, h0⟩ | ⟨g, c1, rest, rfl, hg, hnc, hm, hr, hd⟩
  · subst h0
    obtain rfl : l = [] := List.eq_nil_of_length_eq_zero Hn.out
    clear ho1 hb1
    go_wp2_with fail
    refine (HSN.out _).mono ?_
    rintro e w2 ⟨⟨v, rfl⟩, rfl⟩
    go_wp2_with fail
    go_ret
    exact ⟨_, [], rfl, World.ownsRow_nil _ _ _ _, Hb1.out, List.Perm.refl _, Sm.Asc.tiny (by omega)⟩
  · have HT : Hid (Told g n c1 frm hb rest l w1) := Lib.hid ⟨Hn.out, hn1, hnc, by omega, hf, Hc1.out, Hu.out, hd⟩
    have Hm := Lib.hid hm
    have Hr := Lib.hid hr
    clear ho1 hb1 hd hm hr
    go_wp2_with fail
    refine (HST.out g c1 rest l w1 HT.out hnc).mono ?_
    rintro e w2 ⟨v, l2, rfl, ⟨hs2, ha2⟩, hb2, hd2⟩
    have HO := Lib.hid (data_own (base := hb) (hs2.len.trans Hn.out) (by omega) hnc Hm.out Hr.out hd2)
    have HB2 := Lib.hid (Hb1.out.trans (hb2.below (show hb ≤ g by omega)))
    have HE := Lib.hid (And.intro hs2.perm ha2)
    clear hs2 ha2 hb2 hd2
    go_wp2_with fail
    go_ret
    exact ⟨_, l2, rfl, HO.out, HB2.out, HE.out.1, HE.out.2⟩
end Go.Proofs.Ytjkpkailcemjhaa
