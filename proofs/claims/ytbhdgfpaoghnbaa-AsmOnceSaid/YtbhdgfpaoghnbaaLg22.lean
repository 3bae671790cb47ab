/- What layer 22's law says of what is large. -/
import Derived.Test.YtbhdgfpaoghnbaaDe22
namespace Go.Proofs.Ytbhdgfpaoghnbaa
open Go.RowKit
set_option linter.unusedVariables false
set_option maxRecDepth 100000
set_option linter.unusedSimpArgs false

set_option maxHeartbeats 1000000 in
/-- what large says -/
theorem large22_any {w : World} {A : Option Addr} {c : Nat} {l : List De} (H : Cl fDe 9 w w.heap.size (.slice A l.length c) l) (ok : ∀ x ∈ l, DeOk w x) (hl : l.length ≤ 9223372036854775807) :
    Calls Try.prog 5 #[.slice A l.length c] w fun e w' => w = w' ∧ DePost (l.length ≤ 200 ∧ deSum l ≤ 80000) e := by
  have HA := Lib.hid (fun i (hi : i < l.length) => H.at_ hi)
  have HPi := Lib.hid (fun i (hi : i < l.length) => (ok _ (List.getElem_mem hi)).piece)
  have HS := Lib.hid (fun h => deMin_sum (n := 80000) (m := 90000) (by omega) l h)
  have HT := Lib.hid (fun k h => deMin_take 90000 l k h)
  have HL := Lib.hid (fun k => deMin_le 90000 (l.take k))
  obtain ⟨n, hn⟩ : ∃ n, Hid (l.length = n) := ⟨_, Lib.hid rfl⟩
  rw [hn.out] at hl ⊢
  clear H ok
  go_enter Try.func5, Try.ntmps5
  go_wp2_with fail
  go_loop [3, 4] (fun u v => ∃ k q : Nat, v = .int .i64 k ∧ u = .int .i64 q ∧ k ≤ n ∧ k ≤ 300 ∧ Hid (q = deMin 90000 (l.take k))) (fun _ v => n - (intOf v).toNat)
  case atStart => exact ⟨0, 0, rfl, rfl, Nat.zero_le _, by omega, Lib.hid (by simp [deMin])⟩
  case round =>
    obtain ⟨k, q, rfl, rfl, hk, hk3, HP⟩ := hrel
    have hq := HL.out k
    rw [← HP.out, List.length_take] at hq
    have hq2 : min k l.length * 90000 ≤ 300 * 90000 := Nat.mul_le_mul_right _ (by omega)
    have hq3 : q ≤ 27000000 := by omega
    clear hq hq2
    by_cases hlt : k < n
    · by_cases h3 : k < 300
      · have hkl : k < l.length := by rw [hn.out]; exact hlt
        obtain ⟨b, off, rfl, hb, hc⟩ := HA.out k hkl
        have hc1 := hc w (Below.refl _ _) 8 (by omega)
        obtain ⟨A1, c1, he1, _, _, hle1, hmx1⟩ := HPi.out k hkl
        have hv : (fDe l[k])[8]? = some l[k].body := rfl
        rw [hv, he1] at hc1
        have hN := HT.out k hkl
        rw [← HP.out] at hN
        obtain ⟨y, hy⟩ : ∃ y, Hid (l[k].g.body.length = y) := ⟨_, Lib.hid rfl⟩
        rw [hy.out] at hc1 hN hle1
        have HN := Lib.hid hN
        unfold maxLen at hmx1
        clear hv he1 hc hN
        by_cases hm : y < 90000
        · have HN2 : Hid (q + y = deMin 90000 (l.take (k + 1))) := Lib.hid (by rw [HN.out]; omega)
          have hmn : min (y : Int) 90000 = (y : Int) := by omega
          go_wp2_with fail
          go_round
          case rel => exact ⟨k + 1, q + y, by go_num, by go_num, by omega, by omega, HN2⟩
          case measure => simp [intOf]; omega
        · have HN2 : Hid (q + 90000 = deMin 90000 (l.take (k + 1))) := Lib.hid (by rw [HN.out]; omega)
          have hmn : min (y : Int) 90000 = 90000 := by omega
          go_wp2_with fail
          go_round
          case rel => exact ⟨k + 1, q + 90000, by go_num, by go_num, by omega, by omega, HN2⟩
          case measure => simp [intOf]; omega
      · have h200 : 200 < (n : Int) := by omega
        go_wp2_with fail
        go_ret
        exact ⟨rfl, true, rfl, fun h => by cases h⟩
    · obtain rfl : k = n := by omega
      have HE : Hid (q = deMin 90000 l) := Lib.hid (by rw [HP.out, List.take_of_length_le (by rw [hn.out]; exact Nat.le_refl _)])
      have HR : Hid (q ≤ 80000 → deSum l ≤ 80000) := Lib.hid (fun h => by rw [HS.out (by rw [← HE.out]; exact h), ← HE.out]; exact h)
      by_cases h2 : 200 < k
      · have h200 : 200 < (k : Int) := by omega
        go_wp2_with fail
        go_ret
        exact ⟨rfl, true, rfl, fun h => by cases h⟩
      · have h200 : ¬ 200 < (k : Int) := by omega
        go_wp2_with fail
        go_ret
        exact ⟨rfl, decide (80000 < (q : Int)), rfl, fun h => ⟨by omega, HR.out (by have := of_decide_eq_false h; omega)⟩⟩
end Go.Proofs.Ytbhdgfpaoghnbaa
