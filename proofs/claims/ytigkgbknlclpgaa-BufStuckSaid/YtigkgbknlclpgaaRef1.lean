/- Contracts of the reference's functions of layer 1. -/
import Derived.Test.YtigkgbknlclpgaaUvar
namespace Go.Proofs.Ytigkgbknlclpgaa
open Go.RowKit
set_option linter.unusedVariables false

theorem zigr_neg (n : Int) (h : n < 0) : 2 * -(n + 1) + 1 = zigI n := by unfold zigI; rw [if_neg (by omega)]; omega
set_option maxRecDepth 100000 in
set_option maxHeartbeats 400000 in
theorem putr_any (n : Int) (w : World) (h0 : 0 ≤ n) (h1 : n ≤ 18446744073709551615) :
    Calls Try.prog 25 #[.int .u64 n] w (Made .u8 5 w.heap.size (Um.put n.toNat) w) := by
  obtain ⟨n, rfl⟩ := Int.eq_ofNat_of_zero_le h0
  rw [Int.toNat_natCast]
  have hn : n < 18446744073709551616 := by omega
  have HS := Lib.hid (Puts.start (xs := []) (base := w.heap.size) hn (World.ownsRow_nil w _ 5 1) (Nat.le_refl _))
  obtain ⟨base, Hbase⟩ : ∃ base, Hid (w.heap.size = base) := ⟨_, rfl⟩
  rw [Hbase.out] at HS ⊢
  go_enter Try.func25, Try.ntmps25
  go_wp2_with fail
  go_loopw [0, 3] (fun m v wr => ∃ (ys : List Nat) (j a : Nat), m = .int .u64 a ∧ j ≤ 9 ∧ Hid (Puts base [] n w ys j a v wr)) (fun m _ _ => (intOf m).toNat)
  case atStart => exact ⟨[], 0, n, rfl, by omega, HS⟩
  case round =>
    obtain ⟨ys, j, a, rfl, hj, HP⟩ := hrel
    have ha := Um.fits_u64 HP.out.fits (by omega)
    by_cases hlt : 128 ≤ a
    · go_wp2_with (at_builtin; refine wpList_append1 byteT _ _ rfl rfl base _ (([] : List Nat).length + j) (ints .u8 ([] ++ ys)) rfl rfl rfl HP.out.own (by simp; omega) HP.out.size ?_; intro v' w1 ho1 hg1)
      go_roundw
      case rel => exact ⟨ys ++ [a % 128 + 128], j + 1, a / 128, by go_num, (HP.out.next hlt (by omega) ho1 hg1).le, Lib.hid (HP.out.next hlt (by omega) ho1 hg1)⟩
      case measure => simp [intOf]; omega
    · go_wp2_with (at_builtin; refine wpList_append1 byteT _ _ rfl rfl base _ (([] : List Nat).length + j) (ints .u8 ([] ++ ys)) rfl rfl rfl HP.out.own (by simp; omega) HP.out.size ?_; intro v' w1 ho1 hg1)
      go_ret
      have hl : (Um.put n).length = j + 1 := by rw [HP.out.long, Um.enc_small (by omega)]; rfl
      exact HP.out.done hl (by omega) ho1 hg1

set_option maxRecDepth 100000 in
set_option maxHeartbeats 400000 in
theorem getr_any (B : Nat) (A : Option Addr) (l : List Nat) (n c : Nat) (w : World) (hn : l.length = n) (hc : n ≤ 9223372036854775807) (hA : Sees .u8 w B A l) (hb : ∀ x ∈ l, x < 256) :
    Calls Try.prog 39 #[.slice A n c] w fun e w' => e = .returned (.tuple #[.int .u64 ((Um.get l).1 : Int), .int .i64 ((Um.get l).2.1 : Int), .int .i64 ((Um.get l).2.2 : Int)]) ∧ w = w' := by
  have Hn := Lib.hid hn
  clear hn
  have HA := Lib.hid hA
  clear hA
  have Hb := Lib.hid hb
  clear hb
  go_enter Try.func39, Try.ntmps39
  go_wp2
  go_loop [5] (fun i => ∃ (j : Nat), j ≤ n ∧ j ≤ 10 ∧ i = .int .i64 j ∧ j ≤ Um.lead l) (fun i => 10 - (intOf i).toNat)
  case atStart => exact ⟨0, by omega, by omega, rfl, by omega⟩
  case round =>
    obtain ⟨j, hj, hj10, rfl, hl⟩ := hrel
    by_cases hlt : j < n ∧ j < 10
    · obtain ⟨hlt, hlt10⟩ := hlt
      obtain ⟨b, off, rfl, _, hcell⟩ := HA.out.at_ (i := j) (by rw [Hn.out]; exact hlt)
      have hx : l.getD j 0 < 256 := getD_lt Hb.out j
      obtain ⟨x, Hx⟩ : ∃ x, Hid (l.getD j 0 = x) := ⟨_, rfl⟩
      rw [Hx.out] at hcell hx
      by_cases h128 : 128 ≤ x
      · have hl' := Um.lead_of_high l j hl (by rw [Hn.out]; exact hlt) (by rw [Hx.out]; exact h128)
        go_wp2_with fail
        go_round
        case rel => exact ⟨j + 1, by omega, by omega, by go_num, hl'⟩
        case measure => simp [intOf]; omega
      · have hlead := Um.lead_of_low l j hl (by rw [Hx.out]; omega)
        have Hlead := Lib.hid hlead
        clear hlead hcell
        obtain ⟨b', off', e, _, hcs⟩ := HA.out (by rw [Hn.out]; omega)
        injection e with e
        injection e with e1 e2 _
        subst e1 e2
        have Hcs := Lib.hid hcs
        clear hcs
        have hcell := Hcs.out j (by rw [Hn.out]; exact hlt)
        rw [Hx.out] at hcell
        have t10 : ((j : Int) == 10) = false := by simp; omega
        have tn : ((j : Int) == (n : Int)) = false := by simp; omega
        have tx : decide ((128 : Int) ≤ (x : Int)) = false := by simp; omega
        go_wp2_with fail
        go_loop [6, 7, 8] (fun s p i => ∃ (k a q : Nat), k ≤ j + 1 ∧ i = .int .i64 k ∧ s = .int .u64 a ∧ p = .int .u64 q ∧ a < 18446744073709551616 ∧ q < 18446744073709551616 ∧ Hid (a = Um.val (l.take k) ∧ (k ≤ 9 → q = 128 ^ k) ∧ (k = 10 → l.getD 9 0 % 128 ≤ 1))) (fun _ _ i => 10 - (intOf i).toNat)
        case atStart => exact ⟨0, 0, 1, by omega, rfl, rfl, rfl, by omega, by omega, by simp [Um.val], by simp, fun h => absurd h (by decide)⟩
        case round =>
          obtain ⟨k, a, q, hk, rfl, rfl, rfl, ha, hq, HK⟩ := hrel
          by_cases hkj : k ≤ j
          · have hy : l.getD k 0 < 256 := getD_lt Hb.out k
            have hcy := Hcs.out k (by rw [Hn.out]; omega)
            obtain ⟨y, Hy⟩ : ∃ y, Hid (l.getD k 0 = y) := ⟨_, rfl⟩
            rw [Hy.out] at hcy hy
            by_cases h9 : k = 9
            · have H9 := Lib.hid h9
              have t9 : ((k : Int) == 9) = true := by simp; omega
              clear h9
              by_cases h1 : 1 < y % 128
              · have h1' : (1 : Int) < (y : Int) % 128 := by omega
                go_wp2_with fail
                go_ret3
                refine ⟨?_, rfl⟩
                have hk9 := H9.out
                have hkj9 : k = j := by omega
                rw [Um.end_bad9 (l := l) (j := j) (x := y) (by omega) (by rw [Hn.out]; exact hlt) Hlead.out (by rw [← hkj9]; exact Hy.out) h1]
                rfl
              · have h1' : decide ((1 : Int) < (y : Int) % 128) = false := by simp; omega
                go_wp2_with fail
                go_round
                case rel =>
                  have hk9 := H9.out
                  obtain ⟨e1, e2⟩ := Um.acc_next' HK.out.1 HK.out.2.1 (by omega) (by rw [Hn.out]; omega) Hy.out (.inr (by omega))
                  obtain ⟨q', f1, f2, f3⟩ := Um.pow_next HK.out.2.1 (by omega)
                  exact ⟨k + 1, _, q', by omega, by go_num, by rw [e1], by rw [f1], e2, f2, rfl, f3, fun _ => by rw [← hk9, Hy.out]; omega⟩
                case measure => simp [intOf]; omega
            · have t9 : ((k : Int) == 9) = false := by simp; omega
              go_wp2_with fail
              go_round
              case rel =>
                obtain ⟨e1, e2⟩ := Um.acc_next' HK.out.1 HK.out.2.1 (by omega) (by rw [Hn.out]; omega) Hy.out (.inl (by omega))
                obtain ⟨q', f1, f2, f3⟩ := Um.pow_next HK.out.2.1 (by omega)
                exact ⟨k + 1, _, q', by omega, by go_num, by rw [e1], by rw [f1], e2, f2, rfl, f3, fun h => absurd h (by omega)⟩
              case measure => simp [intOf]; omega
          · by_cases hj0 : j = 0
            · go_wp2_with fail
              go_ret3
              refine ⟨?_, rfl⟩
              rw [Um.end_good (l := l) (j := j) (x := x) (by omega) (by rw [Hn.out]; exact hlt) Hlead.out Hx.out (fun h => absurd h (by omega)) (fun h => absurd h (by omega))]
              have hk' : k = j + 1 := by omega
              have hv := HK.out.1
              rw [hk'] at hv
              exact ret3 (by rw [hv]) (show (1 : Int) = ((j + 1 : Nat) : Int) by omega) rfl
            · have hk' : Hid (k = j + 1) := by show k = j + 1; omega
              have H10 : Hid (j = 9 → x ≤ 1) := fun h => by
                have h1 := HK.out.2.2 (by have := hk'.out; omega)
                have h2 := Hx.out
                rw [h] at h2
                rw [h2] at h1
                omega
              by_cases hx0 : x = 0
              · have Hx0 := Lib.hid hx0
                have tx0 : ((x : Int) == 0) = true := by simp; omega
                clear hx0
                go_wp2_with fail
                go_ret3
                refine ⟨?_, rfl⟩
                rw [Um.end_bad0 (l := l) (j := j) (x := x) (by omega) (by omega) (by rw [Hn.out]; exact hlt) Hlead.out Hx.out Hx0.out]
                rfl
              · have tx0 : ((x : Int) == 0) = false := by simp; omega
                go_wp2_with fail
                go_ret3
                refine ⟨?_, rfl⟩
                rw [Um.end_good (l := l) (j := j) (x := x) (by omega) (by rw [Hn.out]; exact hlt) Hlead.out Hx.out (fun _ => hx0) H10.out]
                have hv := HK.out.1
                rw [hk'.out] at hv
                exact ret3 (by rw [hv]) (show ((j : Int) + 1) = ((j + 1 : Nat) : Int) by omega) rfl
    · go_wp2_with fail
      all_goals
        go_ret3
        refine ⟨?_, rfl⟩
        first
          | (rw [Um.get_long (l := l) (by have hj : ((j : Int) == 10) = true := by assumption
                                          simp at hj; omega)]; rfl)
          | (rw [Um.get_short (l := l) (by have := Um.lead_le l; have := Hn.out; have hj : ((j : Int) == 10) = false := by assumption
                                           simp at hj; omega) (by have := Um.lead_le l; have := Hn.out; omega)]; rfl)
end Go.Proofs.Ytigkgbknlclpgaa
