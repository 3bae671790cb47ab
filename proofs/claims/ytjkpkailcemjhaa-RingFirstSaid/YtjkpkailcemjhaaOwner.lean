/- Contracts of ring.Owner and of the reference's. -/
import Derived.Test.YtjkpkailcemjhaaRing
import Derived.Test.YtjkpkailcemjhaaNums
import Derived.BigQuiet
import Derived.Deep.QuietTactic
import Derived.Deep.Light
namespace Go.Proofs.Ytjkpkailcemjhaa
open Go.RowKit
set_option linter.unusedVariables false

theorem dist_same (a b : Nat) (w : World) (ha : a < 18446744073709551616) (hb : b < 18446744073709551616) :
    Calls Try.prog 7 #[.int .u64 (a : Int), .int .u64 (b : Int)] w fun e w' => e = .returned (.int .u64 ((Rm.dist a b : Nat) : Int)) ∧ w' = w :=
  (dist_any a b w ha hb).mono fun _ _ ⟨h1, h2⟩ => ⟨h1, h2.symm⟩
theorem distr_same (a b : Nat) (w : World) (ha : a < 18446744073709551616) (hb : b < 18446744073709551616) :
    Calls Try.prog 8 #[.int .u64 (a : Int), .int .u64 (b : Int)] w fun e w' => e = .returned (.int .u64 ((Rm.dist a b : Nat) : Int)) ∧ w' = w :=
  (distr_any a b w ha hb).mono fun _ _ ⟨h1, h2⟩ => ⟨h1, h2.symm⟩

theorem quiet_add {P : Program} {f : FuncId} {args : Array Value} {w : World} {k n : Nat} {v : Value}
    (h : Calls P f args (w.drewN (k + n)) fun e w' => e = .returned v ∧ w' = w.drewN (k + n)) : Calls P f args (w.drewN (k + n)) fun e w'' => e = .returned v ∧ ∃ m, w'' = w.drewN (k + m) :=
  h.mono fun _ _ ⟨he, hm⟩ => ⟨he, n, hm⟩

/-- what stands in the slot of the owner behind j rounds -/
def ownAt (key : Nat) (l : List Nat) (j : Nat) : Int := if j = 0 then -1 else (Rm.best key l j : Int)

set_option maxRecDepth 100000 in
set_option maxHeartbeats 400000 in
theorem owner_any (B : Nat) (A : Option Addr) (l : List Nat) (n c key : Nat) (w : World) (hn : l.length = n) (hn1 : n ≤ 1000000000000) (hA : Sees .u64 w B A l) (hu : ∀ x ∈ l, x < 18446744073709551616) (hk : key < 18446744073709551616) :
    Calls Try.prog 16 #[.slice A n c, .int .u64 (key : Int)] w fun e w' => e = .returned (.int .i64 (Rm.owner key l)) ∧ ∃ k, w' = w.drewN k := by
  have Hn := Lib.hid hn
  clear hn
  have HA := Lib.hid hA
  clear hA
  have Hu := Lib.hid hu
  clear hu
  obtain ⟨r, HR⟩ : ∃ r, Hid (Rm.owner key l = r) := ⟨_, rfl⟩
  rw [HR.out]
  go_enter Try.func16, Try.ntmps16
  go_wp2_with fail
  go_loopw [5, 10] (fun o i wr => ∃ (j k : Nat) (q : Int), o = .int .i64 q ∧ i = .int .i64 j ∧ j ≤ n ∧ Hid (q = ownAt key l j) ∧ wr = w.drewN k) (fun _ i _ => n - (intOf i).toNat)
  case atStart => exact ⟨0, 0, -1, rfl, rfl, by omega, Lib.hid rfl, rfl⟩
  case round =>
    obtain ⟨j, k, q, rfl, rfl, hj, Hq, rfl⟩ := hrel
    by_cases hlt : j < n
    · obtain ⟨b, off, rfl, _, hc⟩ := HA.out.at_ (i := j) (by rw [Hn.out]; exact hlt)
      have hx := getD_u64 Hu.out j
      have hq1 := Hq.out
      unfold ownAt at hq1
      by_cases h0 : j = 0
      · subst h0
        rw [if_pos rfl] at hq1
        subst hq1
        obtain ⟨x, Hx⟩ : ∃ x, Hid (l.getD 0 0 = x) := ⟨_, rfl⟩
        rw [Hx.out] at hc hx
        rw [Nat.add_zero] at hc
        go_wp2_with fail
        go_quiet (fail)
        go_wp2_with fail
        go_roundw
        case rel => exact ⟨1, _, 0, rfl, rfl, by omega, Lib.hid (by unfold ownAt; rw [if_neg (by omega), Rm.best_one]; rfl), rfl⟩
        case measure => simp [intOf]; omega
      · rw [if_neg h0] at hq1
        have hbl := Rm.best_lt key l j (by omega)
        obtain ⟨b2, off2, e2, _, hc2⟩ := HA.out.at_ (i := Rm.best key l j) (by rw [Hn.out]; omega)
        injection e2 with e2
        injection e2 with e3 e4 _
        subst e3 e4
        have hy := getD_u64 Hu.out (Rm.best key l j)
        have HS : Hid (Rm.best key l (j + 1) = if Rm.dist key (l.getD j 0) < Rm.dist key (l.getD (Rm.best key l j) 0) then j else Rm.best key l j) := Lib.hid rfl
        obtain ⟨m, Hm⟩ : ∃ m, Hid (Rm.best key l j = m) := ⟨_, rfl⟩
        obtain ⟨x, Hx⟩ : ∃ x, Hid (l.getD j 0 = x) := ⟨_, rfl⟩
        rw [Hm.out] at hq1 hbl hc2 hy HS
        obtain ⟨y, Hy⟩ : ∃ y, Hid (l.getD m 0 = y) := ⟨_, rfl⟩
        rw [Hx.out] at hc hx HS
        rw [Hy.out] at hc2 hy HS
        subst hq1
        clear Hq
        have hdx := Rm.dist_lt key x
        have hdy := Rm.dist_lt key y
        have hg : decide ((m : Int) < 0) = false := decide_eq_false (by omega)
        have hm0 : (0 : Int) ≤ (m : Int) := by omega
        have hm1 : (m : Int) < (n : Int) := by omega
        by_cases hd : Rm.dist key x < Rm.dist key y
        · rw [if_pos hd] at HS
          go_wp2_with fail
          go_quiet (first | (with_reducible exact quiet_add (dist_same key x _ hk hx)) | (with_reducible exact quiet_add (dist_same key y _ hk hy)))
          go_wp2_with fail
          go_roundw
          case rel => exact ⟨j + 1, _, j, rfl, by go_num, by omega, Lib.hid (by unfold ownAt; rw [if_neg (by omega), HS.out]), rfl⟩
          case measure => simp [intOf]; omega
        · rw [if_neg hd] at HS
          go_wp2_with fail
          go_quiet (first | (with_reducible exact quiet_add (dist_same key x _ hk hx)) | (with_reducible exact quiet_add (dist_same key y _ hk hy)))
          go_wp2_with fail
          go_roundw
          case rel => exact ⟨j + 1, _, m, rfl, by go_num, by omega, Lib.hid (by unfold ownAt; rw [if_neg (by omega), HS.out]), rfl⟩
          case measure => simp [intOf]; omega
    · go_wp2_with fail
      go_ret
      refine ⟨ret_int ?_, _, rfl⟩
      rw [Hq.out, ← HR.out]
      unfold ownAt Rm.owner
      rw [Hn.out, show j = n by omega]

theorem scan_false {key x p : Nat} {l : List Nat} (hd : Rm.dist key (l.getD p 0) < Rm.dist key x) : false = true ↔ ∀ p', p' < p + 1 → ¬ Rm.dist key (l.getD p' 0) < Rm.dist key x := by
  constructor
  · intro h; cases h
  · intro h; exact absurd hd (h p (by omega))
theorem scan_next {key x p : Nat} {l : List Nat} {q : Bool} (h : q = true ↔ ∀ p', p' < p → ¬ Rm.dist key (l.getD p' 0) < Rm.dist key x) (hd : ¬ Rm.dist key (l.getD p 0) < Rm.dist key x) : q = true ↔ ∀ p', p' < p + 1 → ¬ Rm.dist key (l.getD p' 0) < Rm.dist key x := by
  constructor
  · intro hq p' hp'
    rcases Nat.lt_or_ge p' p with h1 | h1
    · exact h.1 hq p' h1
    · rw [show p' = p by omega]; exact hd
  · intro h'; exact h.2 fun p' hp' => h' p' (by omega)
theorem ownAt_owner (key : Nat) (l : List Nat) : ownAt key l l.length = Rm.owner key l := rfl

set_option maxRecDepth 100000 in
set_option maxHeartbeats 400000 in
theorem ownerr_any (B : Nat) (A : Option Addr) (l : List Nat) (n c key : Nat) (w : World) (hn : l.length = n) (hn1 : n ≤ 1000000000000) (hA : Sees .u64 w B A l) (hu : ∀ x ∈ l, x < 18446744073709551616) (hk : key < 18446744073709551616) :
    Calls Try.prog 17 #[.slice A n c, .int .u64 (key : Int)] w fun e w' => e = .returned (.int .i64 (Rm.owner key l)) ∧ ∃ k, w' = w.drewN k := by
  have Hn := Lib.hid hn
  clear hn
  have HA := Lib.hid hA
  clear hA
  have Hu := Lib.hid hu
  clear hu
  have HM := Lib.hid (fun k hk => Rm.best_min key l n k hk)
  have HF := Lib.hid (fun k hk => Rm.best_first key l n k hk)
  have hown : Rm.owner key l = if n = 0 then -1 else (Rm.best key l n : Int) := by unfold Rm.owner; rw [Hn.out]
  have hbl : n ≠ 0 → Rm.best key l n < n := fun h => Rm.best_lt key l n (by omega)
  obtain ⟨m, Hm⟩ : ∃ m, Hid (Rm.best key l n = m) := ⟨_, rfl⟩
  rw [Hm.out] at HM HF hown hbl
  have HBL := Lib.hid hbl
  clear hbl
  obtain ⟨r, HR⟩ : ∃ r, Hid (Rm.owner key l = r) := ⟨_, rfl⟩
  rw [HR.out] at hown ⊢
  have HO := Lib.hid hown
  clear hown
  go_enter Try.func17, Try.ntmps17
  go_wp2_with fail
  go_loopw [5] (fun i wr => ∃ (j k : Nat), i = .int .i64 j ∧ j ≤ n ∧ Hid (j ≤ m ∨ n = 0) ∧ wr = w.drewN k) (fun i _ => n - (intOf i).toNat)
  case atStart => exact ⟨0, 0, rfl, by omega, Lib.hid (.inl (by omega)), rfl⟩
  case round =>
    obtain ⟨j, k, rfl, hj, Hj, rfl⟩ := hrel
    by_cases hlt : j < n
    · obtain ⟨b, off, rfl, _, hc⟩ := HA.out.at_ (i := j) (by rw [Hn.out]; exact hlt)
      have hx := getD_u64 Hu.out j
      have HMj := Lib.hid (HM.out j hlt)
      have hbn := HBL.out (by omega)
      have hj0 : (0 : Int) ≤ (j : Int) := by omega
      have hj1 : (j : Int) < (n : Int) := by omega
      have hjm : j ≤ m := by rcases Hj.out with h | h <;> omega
      clear Hj
      obtain ⟨x, Hx⟩ : ∃ x, Hid (l.getD j 0 = x) := ⟨_, rfl⟩
      rw [Hx.out] at hc hx
      go_wp2_with fail
      go_loopw [6, 7] (fun f i wr => ∃ (q : Bool) (p k : Nat), f = .bool q ∧ i = .int .i64 p ∧ p ≤ n ∧ Hid (q = true ↔ ∀ p', p' < p → ¬ Rm.dist key (l.getD p' 0) < Rm.dist key x) ∧ wr = w.drewN k) (fun _ i _ => n - (intOf i).toNat)
      case atStart => exact ⟨true, 0, _, rfl, rfl, by omega, Lib.hid ⟨fun _ p' h => by omega, fun _ => rfl⟩, rfl⟩
      case round =>
        obtain ⟨q, p, k, rfl, rfl, hp, Hq, rfl⟩ := hrel
        by_cases hlp : p < n
        · obtain ⟨b2, off2, e2, _, hc2⟩ := HA.out.at_ (i := p) (by rw [Hn.out]; exact hlp)
          injection e2 with e2
          injection e2 with e3 e4 _
          subst e3 e4
          have hy := getD_u64 Hu.out p
          have hp0 : (0 : Int) ≤ (p : Int) := by omega
          have hp1 : (p : Int) < (n : Int) := by omega
          obtain ⟨y, Hy⟩ : ∃ y, Hid (l.getD p 0 = y) := ⟨_, rfl⟩
          rw [Hy.out] at hc2 hy
          have hdx := Rm.dist_lt key x
          have hdy := Rm.dist_lt key y
          have hpn1 : p + 1 ≤ n := hlp
          by_cases hd : Rm.dist key y < Rm.dist key x
          · have HQ : Hid (false = true ↔ ∀ p', p' < p + 1 → ¬ Rm.dist key (l.getD p' 0) < Rm.dist key x) := Lib.hid (scan_false (by rw [Hy.out]; exact hd))
            clear Hq
            go_wp2_with fail
            go_quiet (first | with_reducible exact quiet_add (distr_same key y _ hk hy) | with_reducible exact quiet_add (distr_same key x _ hk hx))
            go_wp2_with fail
            go_roundw
            case rel => exact ⟨false, p + 1, _, rfl, by go_num, hpn1, HQ, rfl⟩
            case measure => go_light; simp [intOf]; omega
          · have HQ : Hid (q = true ↔ ∀ p', p' < p + 1 → ¬ Rm.dist key (l.getD p' 0) < Rm.dist key x) := Lib.hid (scan_next Hq.out (by rw [Hy.out]; exact hd))
            clear Hq
            go_wp2_with fail
            go_quiet (first | with_reducible exact quiet_add (distr_same key y _ hk hy) | with_reducible exact quiet_add (distr_same key x _ hk hx))
            go_wp2_with fail
            go_roundw
            case rel => exact ⟨q, p + 1, _, rfl, by go_num, hpn1, HQ, rfl⟩
            case measure => go_light; simp [intOf]; omega
        · have hpn : p = n := by omega
          by_cases hjm2 : j = m
          · have hq : q = true := Hq.out.2 fun p' hp' => by
              have := HM.out p' (by omega)
              rw [← hjm2, Hx.out] at this
              omega
            subst hq
            have hr : r = (j : Int) := by rw [HO.out, if_neg (by omega), hjm2]
            clear HO HR
            subst hr
            go_wp2_with fail
            go_ret
            exact ⟨rfl, _, rfl⟩
          · have hq : q = false := by
              cases q with
              | false => rfl
              | true =>
                have h1 := Hq.out.1 rfl m (by omega)
                have h2 := HF.out j (by omega)
                rw [Hx.out] at h2
                omega
            subst hq
            have HJ : Hid (j + 1 ≤ m ∨ n = 0) := Lib.hid (.inl (by omega))
            go_wp2_with fail
            go_roundw
            case rel => exact ⟨j + 1, _, by go_num, hlt, HJ, rfl⟩
            case measure => go_light; simp [intOf]; omega
    · have hjn : j = n := by omega
      have h0 : n = 0 := by
        rcases Hj.out with h | h
        · rcases Nat.eq_zero_or_pos n with h0 | h0
          · exact h0
          · have := HBL.out (by omega); omega
        · exact h
      have hr : r = -1 := by rw [HO.out, if_pos h0]
      clear HO
      subst hr
      go_wp2_with fail
      go_ret
      exact ⟨rfl, _, rfl⟩
end Go.Proofs.Ytjkpkailcemjhaa
