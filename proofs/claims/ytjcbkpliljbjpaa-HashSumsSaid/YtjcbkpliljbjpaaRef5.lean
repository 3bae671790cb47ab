/- Contracts of the reference's down, Mix, Sum, Place of layer 5. -/
import Derived.Test.YtjcbkpliljbjpaaHash
namespace Go.Proofs.Ytjcbkpliljbjpaa
open Go.RowKit
set_option linter.unusedVariables false

theorem downr_any (u n : Nat) (w : World) (h : u < 18446744073709551616) (hn : n ≤ 9223372036854775807) :
    Calls Try.prog 15 #[.int .u64 (u : Int), .int .i64 (n : Int)] w fun e w' => e = .returned (.int .u64 ((u / 2 ^ n : Nat) : Int)) ∧ w = w' := by
  obtain ⟨r, Hr⟩ : ∃ r, Hid (u / 2 ^ n = r) := ⟨_, rfl⟩
  rw [Hr.out]
  go_enter Try.func15, Try.ntmps15
  go_wp2
  go_loop [0, 5] (fun m i => ∃ (j a : Nat), j ≤ n ∧ i = .int .i64 j ∧ m = .int .u64 a ∧ a < 18446744073709551616 ∧ Hid (a = u / 2 ^ j)) (fun _ i => n - (intOf i).toNat)
  case atStart => exact ⟨0, u, by omega, rfl, rfl, h, Lib.hid (by simp)⟩
  case round =>
    obtain ⟨j, a, hj, rfl, rfl, ha, He⟩ := hrel
    by_cases hlt : j < n
    · go_wp2
      go_round
      case rel => exact ⟨j + 1, a / 2, by omega, by go_num, by go_num, by omega, Lib.hid (by rw [He.out, Hm.div_next])⟩
      case measure => simp [intOf]; omega
    · go_wp2
      go_ret
      exact ⟨ret_int (by rw [He.out, ← Hr.out, show j = n by omega]), rfl⟩
theorem mixr_any (u : Nat) (w : World) (h : u < 18446744073709551616) :
    Calls Try.prog 12 #[.int .u64 (u : Int)] w fun e w' => e = .returned (.int .u64 (Hm.mix u : Int)) ∧ w = w' := by
  unfold Hm.mix
  have x1 := u64_xor_nat u (u / 2 ^ 30) h (Hm.div_lt 30 h)
  have hm1 := Hm.mul_wrap (Hm.fold u 30) 13787848793156543929
  have f1 : u ^^^ (u / 2 ^ 30) = Hm.fold u 30 := rfl
  rw [f1] at x1
  clear f1
  obtain ⟨a, Ha⟩ : ∃ a, Hid (Hm.fold u 30 = a) := ⟨_, rfl⟩
  rw [Ha.out] at hm1 x1
  rw [Ha.out]
  have hb := Hm.mul_lt a 13787848793156543929
  obtain ⟨b, Hb⟩ : ∃ b, Hid (Hm.mul a 13787848793156543929 = b) := ⟨_, rfl⟩
  rw [Hb.out] at hm1 hb
  rw [Hb.out]
  have x2 := u64_xor_nat b (b / 2 ^ 27) hb (Hm.div_lt 27 hb)
  have hm2 := Hm.mul_wrap (Hm.fold b 27) 10723151780598845931
  have f2 : b ^^^ (b / 2 ^ 27) = Hm.fold b 27 := rfl
  rw [f2] at x2
  clear f2
  obtain ⟨c, Hc⟩ : ∃ c, Hid (Hm.fold b 27 = c) := ⟨_, rfl⟩
  rw [Hc.out] at hm2 x2
  rw [Hc.out]
  have hd := Hm.mul_lt c 10723151780598845931
  obtain ⟨d, Hd⟩ : ∃ d, Hid (Hm.mul c 10723151780598845931 = d) := ⟨_, rfl⟩
  rw [Hd.out] at hm2 hd
  rw [Hd.out]
  have x3 := u64_xor_nat d (d / 2 ^ 31) hd (Hm.div_lt 31 hd)
  have f3 : d ^^^ (d / 2 ^ 31) = Hm.fold d 31 := rfl
  rw [f3] at x3
  clear f3
  obtain ⟨g, Hg⟩ : ∃ g, Hid (Hm.fold d 31 = g) := ⟨_, rfl⟩
  rw [Hg.out] at x3
  rw [Hg.out]
  have e1 : IntKind.u64.wrap ((a : Int) * 13787848793156543929) = (b : Int) := by rw [IntKind.wrap_u64]; exact hm1
  have e2 : IntKind.u64.wrap ((c : Int) * 10723151780598845931) = (d : Int) := by rw [IntKind.wrap_u64]; exact hm2
  clear hm1 hm2
  have C1 := Lib.hid (fun W => downr_any u 30 W h (by omega))
  have C2 := Lib.hid (fun W => downr_any b 27 W hb (by omega))
  have C3 := Lib.hid (fun W => downr_any d 31 W hd (by omega))
  obtain ⟨p1, P1⟩ : ∃ p, Hid (u / 2 ^ 30 = p) := ⟨_, Lib.hid rfl⟩
  obtain ⟨p2, P2⟩ : ∃ p, Hid (b / 2 ^ 27 = p) := ⟨_, Lib.hid rfl⟩
  obtain ⟨p3, P3⟩ : ∃ p, Hid (d / 2 ^ 31 = p) := ⟨_, Lib.hid rfl⟩
  rw [P1.out] at C1 x1
  rw [P2.out] at C2 x2
  rw [P3.out] at C3 x3
  go_enter Try.func12, Try.ntmps12
  go_wp2_with fail
  refine (C1.out _).mono ?_
  rintro e w1 ⟨rfl, rfl⟩
  go_wp2_with fail
  refine (C2.out _).mono ?_
  rintro e w1 ⟨rfl, rfl⟩
  go_wp2_with fail
  refine (C3.out _).mono ?_
  rintro e w1 ⟨rfl, rfl⟩
  go_wp2_with fail
  go_ret
  exact ⟨rfl, rfl⟩
theorem hsumr_any {s : ByteArray} {l : List Nat} (T : Txt s l) (ws : l.length ≤ 9223372036854775807) (w : World) :
    Calls Try.prog 8 #[.string s] w fun e w' => e = .returned (.int .u64 (Hm.sum l : Int)) ∧ w = w' := by
  have hsz := T.size
  obtain ⟨n, Hn⟩ : ∃ n, Hid (l.length = n) := ⟨_, rfl⟩
  rw [Hn.out] at hsz ws
  go_enter Try.func8, Try.ntmps8
  go_wp2_with fail
  go_loop [3, 4] (fun m i => ∃ (j a : Nat), j ≤ n ∧ i = .int .i64 j ∧ m = .int .u64 a ∧ a < 18446744073709551616 ∧ Hid (a = Hm.sum (l.take j))) (fun _ i => n - (intOf i).toNat)
  case atStart => exact ⟨0, 14695981039346656037, by omega, rfl, rfl, by omega, rfl⟩
  case round =>
    obtain ⟨j, a, hj, rfl, rfl, ha, He⟩ := hrel
    by_cases hlt : j < n
    · obtain ⟨c, Hc⟩ : ∃ c, Hid (l.getD j 0 = c) := ⟨_, rfl⟩
      have hat : ∀ (h : j < s.size), (s[j]'h).toNat = c := fun h => by rw [← Hc.out]; exact T.at_ j h
      have hc : c < 256 := by rw [← Hc.out]; exact getD_lt T.byte j
      have hw := hstep_wrap a c ha hc
      have hl2 := Hm.step_lt a c
      have He' : Hid (Hm.step a c = Hm.sum (l.take (j + 1))) := Lib.hid (by rw [take_next (by rw [Hn.out]; exact hlt), Hm.sum_snoc, ← He.out, Hc.out])
      obtain ⟨b, Hb⟩ : ∃ b, Hid (Hm.step a c = b) := ⟨_, rfl⟩
      rw [Hb.out] at hw hl2 He'
      go_wp2_with fail
      go_round
      case rel => exact ⟨j + 1, b, by omega, by go_num, rfl, hl2, He'⟩
      case measure => simp [intOf]; omega
    · go_wp2_with fail
      go_ret
      exact ⟨ret_int (by rw [He.out, List.take_of_length_le (by rw [Hn.out]; omega)]), rfl⟩
theorem placer_any {s : ByteArray} {l : List Nat} (T : Txt s l) (ws : l.length ≤ 9223372036854775807) (w : World) :
    Calls Try.prog 10 #[.string s] w fun e w' => e = .returned (.int .u64 (Hm.place l : Int)) ∧ w = w' := by
  have HC := Lib.hid (hsumr_any T ws)
  have HM := Lib.hid (fun W => mixr_any (Hm.sum l) W (Hm.sum_lt l))
  clear T ws
  unfold Hm.place
  go_enter Try.func10, Try.ntmps10
  go_wp2_with fail
  refine (HC.out _).mono ?_
  rintro e w1 ⟨rfl, rfl⟩
  go_wp2_with fail
  refine (HM.out _).mono ?_
  rintro e w1 ⟨rfl, rfl⟩
  go_wp2_with fail
  go_ret
  exact ⟨rfl, rfl⟩
end Go.Proofs.Ytjcbkpliljbjpaa
