/- What layer 21's law says of what is large. -/
import Derived.Test.YtlbejddmnflmbaaPw21
namespace Go.Proofs.Ytlbejddmnflmbaa
open Go.RowKit
set_option linter.unusedVariables false
set_option maxRecDepth 100000
set_option linter.unusedSimpArgs false

set_option maxHeartbeats 1000000 in
/-- what large says -/
theorem large21_any {w : World} {A : Option Addr} {c : Nat} {l : List (Int × Value × List Nat)} (H : Cl fPa 2 w w.heap.size (.slice A l.length c) l) (ok : ∀ x ∈ l, PaOk w x) (hl : l.length ≤ 9223372036854775807) :
    Calls Try.prog 5 #[.slice A l.length c] w fun e w' => w = w' ∧ BigPost (l.length ≤ 200 ∧ paSum l ≤ 8000) e := by
  have HA := Lib.hid (fun i (hi : i < l.length) => H.at_ hi)
  have HPi := Lib.hid (fun i (hi : i < l.length) => (ok _ (List.getElem_mem hi)).piece)
  have HS := Lib.hid (fun h => paMin_sum (n := 8000) (m := 9000) (by omega) l h)
  have HT := Lib.hid (fun k h => paMin_take 9000 l k h)
  have HL := Lib.hid (fun k => paMin_le 9000 (l.take k))
  obtain ⟨n, hn⟩ : ∃ n, Hid (l.length = n) := ⟨_, Lib.hid rfl⟩
  rw [hn.out] at hl ⊢
  clear H ok
  go_enter Try.func5, Try.ntmps5
  go_wp2_with fail
  go_loop [3, 4] (fun u v => ∃ k q : Nat, v = .int .i64 k ∧ u = .int .i64 q ∧ k ≤ n ∧ k ≤ 300 ∧ Hid (q = paMin 9000 (l.take k))) (fun _ v => n - (intOf v).toNat)
  case atStart => exact ⟨0, 0, rfl, rfl, Nat.zero_le _, by omega, Lib.hid (by simp [paMin])⟩
  case round =>
    obtain ⟨k, q, rfl, rfl, hk, hk3, HP⟩ := hrel
    have hq := HL.out k
    rw [← HP.out, List.length_take] at hq
    have hq2 : min k l.length * 9000 ≤ 300 * 9000 := Nat.mul_le_mul_right _ (by omega)
    by_cases hlt : k < n
    · by_cases h3 : k < 300
      · have hkl : k < l.length := by rw [hn.out]; exact hlt
        obtain ⟨b, off, rfl, hb, hc⟩ := HA.out k hkl
        have hc1 := hc w (Below.refl _ _) 1 (by omega)
        obtain ⟨A1, c1, he1, _, _, hle1, hmx1⟩ := HPi.out k hkl
        have hv : (fPa l[k])[1]? = some l[k].2.1 := rfl
        rw [hv, he1] at hc1
        have hN := HT.out k hkl
        rw [← HP.out] at hN
        obtain ⟨y, hy⟩ : ∃ y, Hid (l[k].2.2.length = y) := ⟨_, Lib.hid rfl⟩
        rw [hy.out] at hc1 hN hle1
        have HN := Lib.hid hN
        unfold maxLen at hmx1
        clear hv he1 hc hN
        by_cases hm : y < 9000
        · have HN2 : Hid (q + y = paMin 9000 (l.take (k + 1))) := Lib.hid (by rw [HN.out]; omega)
          have hmn : min (y : Int) 9000 = (y : Int) := by omega
          go_wp2_with fail
          go_round
          case rel => exact ⟨k + 1, q + y, by go_num, by go_num, by omega, by omega, HN2⟩
          case measure => simp [intOf]; omega
        · have HN2 : Hid (q + 9000 = paMin 9000 (l.take (k + 1))) := Lib.hid (by rw [HN.out]; omega)
          have hmn : min (y : Int) 9000 = 9000 := by omega
          go_wp2_with fail
          go_round
          case rel => exact ⟨k + 1, q + 9000, by go_num, by go_num, by omega, by omega, HN2⟩
          case measure => simp [intOf]; omega
      · have h200 : 200 < (n : Int) := by omega
        go_wp2_with fail
        go_ret
        exact ⟨rfl, true, rfl, fun h => by cases h⟩
    · obtain rfl : k = n := by omega
      have HE : Hid (q = paMin 9000 l) := Lib.hid (by rw [HP.out, List.take_of_length_le (by rw [hn.out]; exact Nat.le_refl _)])
      have HR : Hid (q ≤ 8000 → paSum l ≤ 8000) := Lib.hid (fun h => by rw [HS.out (by rw [← HE.out]; exact h), ← HE.out]; exact h)
      by_cases h2 : 200 < k
      · have h200 : 200 < (k : Int) := by omega
        go_wp2_with fail
        go_ret
        exact ⟨rfl, true, rfl, fun h => by cases h⟩
      · have h200 : ¬ 200 < (k : Int) := by omega
        go_wp2_with fail
        go_ret
        exact ⟨rfl, decide (8000 < (q : Int)), rfl, fun h => ⟨by omega, HR.out (by have := of_decide_eq_false h; omega)⟩⟩
end Go.Proofs.Ytlbejddmnflmbaa
