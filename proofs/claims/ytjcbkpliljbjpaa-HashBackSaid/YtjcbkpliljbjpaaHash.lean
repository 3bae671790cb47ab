/- Contracts of hash.fold, unfold, Mix, Unmix, Sum, Place. -/
import Derived.Test.YtjcbkpliljbjpaaHm
import Derived.Test.YtjcbkpliljbjpaaTxt
namespace Go.Proofs.Ytjcbkpliljbjpaa
open Go.RowKit
set_option linter.unusedVariables false

theorem shr_nat (u s : Nat) : (u : Int) / 2 ^ s = ((u / 2 ^ s : Nat) : Int) := by rw [Int.natCast_ediv, Int.natCast_pow]; rfl
theorem fold_any (u s : Nat) (w : World) (h : u < 18446744073709551616) (hs : s = 30 ∨ s = 27 ∨ s = 31) :
    Calls Try.prog 14 #[.int .u64 (u : Int), .int .u64 (s : Int)] w fun e w' => e = .returned (.int .u64 (Hm.fold u s : Int)) ∧ w = w' := by
  have hx := Lib.hid (u64_xor_nat u (u / 2 ^ s) h (Hm.div_lt s h))
  rcases hs with rfl | rfl | rfl
  all_goals
    go_enter Try.func14, Try.ntmps14
    go_wp2
    go_ret
    exact ⟨ret_int hx.out, rfl⟩
/-- what unfold has found behind i rounds -/
def found (u s : Nat) : Nat → Nat
  | 0 => u
  | i + 1 => u ^^^ (found u s i / 2 ^ s)
theorem found_lt {u : Nat} (s : Nat) (h : u < 18446744073709551616) : ∀ i, found u s i < 18446744073709551616
  | 0 => h
  | i + 1 => Hm.xor_lt h (Hm.div_lt s (found_lt s h i))
theorem found_two (u s : Nat) : found u s 2 = Hm.unf u s := rfl
theorem unfold_any (u s : Nat) (w : World) (h : u < 18446744073709551616) (hs : s = 30 ∨ s = 27 ∨ s = 31) :
    Calls Try.prog 16 #[.int .u64 (u : Int), .int .u64 (s : Int)] w fun e w' => e = .returned (.int .u64 (Hm.unf u s : Int)) ∧ w = w' := by
  rw [← found_two]
  have HS := Lib.hid (fun a (ha : a < 18446744073709551616) => u64_xor_nat u (a / 2 ^ s) h (Hm.div_lt s ha))
  rcases hs with rfl | rfl | rfl
  all_goals
    go_enter Try.func16, Try.ntmps16
    go_wp2
    go_loop [5, 9] (fun m i => ∃ (j a : Nat), j ≤ 2 ∧ i = .int .u64 j ∧ m = .int .u64 a ∧ a < 18446744073709551616 ∧ Hid (a = found u _ j)) (fun _ i => 2 - (intOf i).toNat)
    case atStart => exact ⟨0, u, by omega, rfl, rfl, h, rfl⟩
    case round =>
      obtain ⟨j, a, hj, rfl, rfl, ha, He⟩ := hrel
      have hxor := HS.out a ha
      have Hx := Lib.hid hxor
      clear hxor
      by_cases hlt : j < 2
      · go_wp2
        go_round
        case rel => exact ⟨j + 1, _, by omega, by go_num, congrArg (Value.int .u64) Hx.out, Hm.xor_lt h (Hm.div_lt _ ha), by show _ = _; rw [found, ← He.out]⟩
        case measure => simp [intOf]; omega
      · go_wp2
        go_ret
        exact ⟨ret_int (by rw [He.out, show j = 2 by omega]), rfl⟩
theorem mix_any (u : Nat) (w : World) (h : u < 18446744073709551616) :
    Calls Try.prog 11 #[.int .u64 (u : Int)] w fun e w' => e = .returned (.int .u64 (Hm.mix u : Int)) ∧ w = w' := by
  unfold Hm.mix
  have hm1 := Hm.mul_wrap (Hm.fold u 30) 13787848793156543929
  obtain ⟨a, Ha⟩ : ∃ a, Hid (Hm.fold u 30 = a) := ⟨_, rfl⟩
  rw [Ha.out] at hm1
  rw [Ha.out]
  have hb := Hm.mul_lt a 13787848793156543929
  obtain ⟨b, Hb⟩ : ∃ b, Hid (Hm.mul a 13787848793156543929 = b) := ⟨_, rfl⟩
  rw [Hb.out] at hm1 hb
  rw [Hb.out]
  have hm2 := Hm.mul_wrap (Hm.fold b 27) 10723151780598845931
  obtain ⟨c, Hc⟩ : ∃ c, Hid (Hm.fold b 27 = c) := ⟨_, rfl⟩
  rw [Hc.out] at hm2
  rw [Hc.out]
  have hd := Hm.mul_lt c 10723151780598845931
  obtain ⟨d, Hd⟩ : ∃ d, Hid (Hm.mul c 10723151780598845931 = d) := ⟨_, rfl⟩
  rw [Hd.out] at hm2 hd
  rw [Hd.out]
  have e1 : IntKind.u64.wrap ((a : Int) * 13787848793156543929) = (b : Int) := by rw [IntKind.wrap_u64]; exact hm1
  have e2 : IntKind.u64.wrap ((c : Int) * 10723151780598845931) = (d : Int) := by rw [IntKind.wrap_u64]; exact hm2
  clear hm1 hm2
  go_enter Try.func11, Try.ntmps11
  go_wp2_with fail
  refine (fold_any u 30 _ h (by decide)).mono ?_
  rintro e w1 ⟨rfl, rfl⟩
  rw [Ha.out]
  go_wp2_with fail
  refine (fold_any b 27 _ hb (by decide)).mono ?_
  rintro e w1 ⟨rfl, rfl⟩
  rw [Hc.out]
  go_wp2_with fail
  refine (fold_any d 31 _ hd (by decide)).mono ?_
  rintro e w1 ⟨rfl, rfl⟩
  go_wp2_with fail
  go_ret
  exact ⟨rfl, rfl⟩
theorem unmix_any (u : Nat) (w : World) (h : u < 18446744073709551616) :
    Calls Try.prog 13 #[.int .u64 (u : Int)] w fun e w' => e = .returned (.int .u64 (Hm.unmix u : Int)) ∧ w = w' := by
  unfold Hm.unmix
  have hm1 := Hm.mul_wrap (Hm.unf u 31) 3573116690164977347
  obtain ⟨a, Ha⟩ : ∃ a, Hid (Hm.unf u 31 = a) := ⟨_, rfl⟩
  rw [Ha.out] at hm1
  rw [Ha.out]
  have hb := Hm.mul_lt a 3573116690164977347
  obtain ⟨b, Hb⟩ : ∃ b, Hid (Hm.mul a 3573116690164977347 = b) := ⟨_, rfl⟩
  rw [Hb.out] at hm1 hb
  rw [Hb.out]
  have hm2 := Hm.mul_wrap (Hm.unf b 27) 10871156337175269513
  obtain ⟨c, Hc⟩ : ∃ c, Hid (Hm.unf b 27 = c) := ⟨_, rfl⟩
  rw [Hc.out] at hm2
  rw [Hc.out]
  have hd := Hm.mul_lt c 10871156337175269513
  obtain ⟨d, Hd⟩ : ∃ d, Hid (Hm.mul c 10871156337175269513 = d) := ⟨_, rfl⟩
  rw [Hd.out] at hm2 hd
  rw [Hd.out]
  have e1 : IntKind.u64.wrap ((a : Int) * 3573116690164977347) = (b : Int) := by rw [IntKind.wrap_u64]; exact hm1
  have e2 : IntKind.u64.wrap ((c : Int) * 10871156337175269513) = (d : Int) := by rw [IntKind.wrap_u64]; exact hm2
  clear hm1 hm2
  go_enter Try.func13, Try.ntmps13
  go_wp2_with fail
  refine (unfold_any u 31 _ h (by decide)).mono ?_
  rintro e w1 ⟨rfl, rfl⟩
  rw [Ha.out]
  go_wp2_with fail
  refine (unfold_any b 27 _ hb (by decide)).mono ?_
  rintro e w1 ⟨rfl, rfl⟩
  rw [Hc.out]
  go_wp2_with fail
  refine (unfold_any d 30 _ hd (by decide)).mono ?_
  rintro e w1 ⟨rfl, rfl⟩
  go_wp2_with fail
  go_ret
  exact ⟨rfl, rfl⟩
theorem hstep_wrap (a x : Nat) (ha : a < 18446744073709551616) (hx : x < 256) : IntKind.u64.wrap (bits .xor .u64 (a : Int) (x : Int) * 1099511628211) = ((Hm.step a x : Nat) : Int) := by
  rw [u64_xor_nat a x ha (by omega), IntKind.wrap_u64]
  exact Hm.mul_wrap (a ^^^ x) 1099511628211
theorem hsum_any {s : ByteArray} {l : List Nat} (T : Txt s l) (ws : l.length ≤ 9223372036854775807) (w : World) :
    Calls Try.prog 7 #[.string s] w fun e w' => e = .returned (.int .u64 (Hm.sum l : Int)) ∧ w = w' := by
  have hsz := T.size
  obtain ⟨n, Hn⟩ : ∃ n, Hid (l.length = n) := ⟨_, rfl⟩
  rw [Hn.out] at hsz ws
  go_enter Try.func7, Try.ntmps7
  go_wp2_with fail
  go_loop [3, 7] (fun m i => ∃ (j a : Nat), j ≤ n ∧ i = .int .i64 j ∧ m = .int .u64 a ∧ a < 18446744073709551616 ∧ Hid (a = Hm.sum (l.take j))) (fun _ i => n - (intOf i).toNat)
  case atStart => exact ⟨0, 14695981039346656037, by omega, rfl, rfl, by omega, rfl⟩
  case round =>
    obtain ⟨j, a, hj, rfl, rfl, ha, He⟩ := hrel
    by_cases hlt : j < n
    · obtain ⟨c, Hc⟩ : ∃ c, Hid (l.getD j 0 = c) := ⟨_, rfl⟩
      have hat : ∀ (h : j < s.size), (s[j]'h).toNat = c := fun h => by rw [← Hc.out]; exact T.at_ j h
      have hc : c < 256 := by rw [← Hc.out]; exact getD_lt T.byte j
      have hw := hstep_wrap a c ha hc
      have hl2 := Hm.step_lt a c
      have He' : Hid (Hm.step a c = Hm.sum (l.take (j + 1))) := Lib.hid (by rw [take_next (by rw [Hn.out]; exact hlt), Hm.sum_snoc, ← He.out, Hc.out])
      obtain ⟨b, Hb⟩ : ∃ b, Hid (Hm.step a c = b) := ⟨_, rfl⟩
      rw [Hb.out] at hw hl2 He'
      go_wp2_with fail
      go_round
      case rel => exact ⟨j + 1, b, by omega, by go_num, rfl, hl2, He'⟩
      case measure => simp [intOf]; omega
    · go_wp2_with fail
      go_ret
      exact ⟨ret_int (by rw [He.out, List.take_of_length_le (by rw [Hn.out]; omega)]), rfl⟩
theorem place_any {s : ByteArray} {l : List Nat} (T : Txt s l) (ws : l.length ≤ 9223372036854775807) (w : World) :
    Calls Try.prog 9 #[.string s] w fun e w' => e = .returned (.int .u64 (Hm.place l : Int)) ∧ w = w' := by
  have HC := Lib.hid (hsum_any T ws)
  have HM := Lib.hid (fun W => mix_any (Hm.sum l) W (Hm.sum_lt l))
  clear T ws
  unfold Hm.place
  go_enter Try.func9, Try.ntmps9
  go_wp2_with fail
  refine (HC.out _).mono ?_
  rintro e w1 ⟨rfl, rfl⟩
  go_wp2_with fail
  refine (HM.out _).mono ?_
  rintro e w1 ⟨rfl, rfl⟩
  go_wp2_with fail
  go_ret
  exact ⟨rfl, rfl⟩
end Go.Proofs.Ytjcbkpliljbjpaa
