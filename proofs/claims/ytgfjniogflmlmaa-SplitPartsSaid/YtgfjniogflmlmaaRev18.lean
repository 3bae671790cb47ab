/- Contracts of layer 18's code: ReverseBytes32, bytes.Equal, seal. -/
import Derived.Test.YtgfjniogflmlmaaPG
import Derived.Test.YtgfjniogflmlmaaPK
import Derived.Test.YtgfjniogflmlmaaPC
import Derived.Test.YtgfjniogflmlmaaPA
namespace Go.Proofs.Ytgfjniogflmlmaa
open Go.RowKit
set_option linter.unusedVariables false
set_option maxRecDepth 100000
set_option linter.unusedSimpArgs false

namespace Gr
theorem land_split {k x y m n : Nat} (hx : x < 2 ^ k) (hm : m < 2 ^ k) : (2 ^ k * y + x) &&& (2 ^ k * n + m) = 2 ^ k * (y &&& n) + (x &&& m) := by
  have hl : x &&& m < 2 ^ k := Nat.and_lt_two_pow _ hm
  apply Nat.eq_of_testBit_eq
  intro i
  rw [Nat.testBit_and, Nat.testBit_two_pow_mul_add _ hx, Nat.testBit_two_pow_mul_add _ hm, Nat.testBit_two_pow_mul_add _ hl]
  by_cases h : i < k
  · simp [h]
  · simp [h]
theorem lor_split {k x y : Nat} (hx : x < 2 ^ k) : (2 ^ k * y) ||| x = 2 ^ k * y + x := by
  apply Nat.eq_of_testBit_eq
  intro i
  rw [Nat.testBit_or, Nat.testBit_two_pow_mul_add _ hx, Nat.testBit_two_pow_mul]
  by_cases h : i < k
  · simp [h]; omega
  · have : x.testBit i = false := Nat.testBit_lt_two_pow (Nat.lt_of_lt_of_le hx (Nat.pow_le_pow_right (by decide) (by omega)))
    simp [h, this]; omega
/-- every other byte -/
theorem land_ff (n : Nat) (h : n < 4294967296) : n &&& 16711935 = n / 65536 % 256 * 65536 + n % 256 := by
  have e := land_split (k := 16) (x := n % 65536) (y := n / 65536) (m := 255) (n := 255) (by omega) (by decide)
  rw [show 2 ^ 16 * (n / 65536) + n % 65536 = n by omega, show 2 ^ 16 * 255 + 255 = 16711935 from rfl] at e
  rw [e, show (255 : Nat) = 2 ^ 8 - 1 from rfl, Nat.and_two_pow_sub_one_eq_mod, Nat.and_two_pow_sub_one_eq_mod]
  omega
def rev (n : Nat) : Nat := n % 256 * 16777216 + n / 256 % 256 * 65536 + n / 65536 % 256 * 256 + n / 16777216 % 256
def half (n : Nat) : Nat := n / 65536 % 256 * 16777216 + n / 16777216 % 256 * 65536 + n % 256 * 256 + n / 256 % 256
theorem half_eq (n : Nat) (h : n < 4294967296) : (n / 256 &&& 16711935) ||| ((n &&& 16711935) * 256) = half n := by
  rw [land_ff n h, land_ff (n / 256) (by omega)]
  generalize ha : n % 256 = a
  generalize hb : n / 256 % 256 = b
  generalize hc : n / 65536 % 256 = c
  generalize hd : n / 256 / 65536 % 256 = d
  have hd' : n / 16777216 % 256 = d := by omega
  unfold half
  rw [ha, hb, hc, hd']
  have h1 := lor_split (k := 8) (x := b) (y := a) (by omega)
  have a1 : a < 256 := by omega
  have b1 : b < 256 := by omega
  have c1 : c < 256 := by omega
  have d1 : d < 256 := by omega
  apply Nat.eq_of_testBit_eq
  intro i
  have L : ∀ p q : Nat, p < 256 → q < 256 → 65536 * p + q = 2 ^ 16 * p + q := fun p q _ _ => rfl
  rw [show d * 65536 + b = 2 ^ 16 * d + b by omega, show (c * 65536 + a) * 256 = 2 ^ 16 * (c * 256) + a * 256 by omega,
    show c * 16777216 + d * 65536 + a * 256 + b = 2 ^ 16 * (c * 256 + d) + (a * 256 + b) by omega]
  rw [Nat.testBit_or, Nat.testBit_two_pow_mul_add _ (by omega), Nat.testBit_two_pow_mul_add _ (by omega), Nat.testBit_two_pow_mul_add _ (by omega)]
  by_cases hi : i < 16
  · simp only [hi, if_true]
    rw [show a * 256 + b = 2 ^ 8 * a + b by omega, ← lor_split (k := 8) (x := b) (y := a) (by omega), Nat.testBit_or, show 2 ^ 8 * a = a * 256 by omega, Bool.or_comm]
  · simp only [hi, if_false]
    rw [show c * 256 + d = 2 ^ 8 * c + d by omega, ← lor_split (k := 8) (x := d) (y := c) (by omega), Nat.testBit_or, show 2 ^ 8 * c = c * 256 by omega, Bool.or_comm]
theorem half_lt (n : Nat) : half n < 4294967296 := by unfold half; omega
theorem rev_eq (n : Nat) : (half n / 65536) ||| (half n % 65536 * 65536) = rev n := by
  have h := half_lt n
  rw [Nat.or_comm, show half n % 65536 * 65536 = 2 ^ 16 * (half n % 65536) by omega, lor_split (by omega)]
  unfold half rev
  omega
theorem rev_lt (n : Nat) : rev n < 4294967296 := by unfold rev; omega
theorem rev_fix (n : Nat) (h : n < 4294967296) : Bm.fix 4 (rev n) = le 4 n := by
  obtain ⟨a, b, c, d, ha, hb, hc, hd, rfl⟩ : ∃ a b c d : Nat, a < 256 ∧ b < 256 ∧ c < 256 ∧ d < 256 ∧ n = a + 256 * (b + 256 * (c + 256 * d)) :=
    ⟨n % 256, n / 256 % 256, n / 65536 % 256, n / 16777216, by omega, by omega, by omega, by omega, by omega⟩
  have hr : rev (a + 256 * (b + 256 * (c + 256 * d))) = d + 256 * (c + 256 * (b + 256 * a)) := by
    unfold rev
    have e1 : (a + 256 * (b + 256 * (c + 256 * d))) % 256 = a := by omega
    have e2 : (a + 256 * (b + 256 * (c + 256 * d))) / 256 = b + 256 * (c + 256 * d) := by omega
    have e3 : (a + 256 * (b + 256 * (c + 256 * d))) / 65536 = c + 256 * d := by omega
    have e4 : (a + 256 * (b + 256 * (c + 256 * d))) / 16777216 = d := by omega
    have f1 : (b + 256 * (c + 256 * d)) % 256 = b := by omega
    have f2 : (c + 256 * d) % 256 = c := by omega
    rw [e1, e2, e3, e4, f1, f2]
    omega
  rw [hr]
  have q : ∀ x y : Nat, x < 256 → (x + 256 * y) % 256 = x ∧ (x + 256 * y) / 256 = y := fun x y hx => by omega
  simp only [Bm.fix, le, List.nil_append, List.cons_append, (q _ _ ha).1, (q _ _ ha).2, (q _ _ hb).1, (q _ _ hb).2, (q _ _ hc).1, (q _ _ hc).2, (q _ _ hd).1, (q _ _ hd).2, Nat.mod_eq_of_lt ha, Nat.mod_eq_of_lt hd]
end Gr
theorem rev18_any (n : Nat) (h : n < 4294967296) (w : World) :
    Calls Try.prog 29 #[.int .u32 (n : Int)] w fun e w' => e = .returned (.int .u32 (Gr.rev n : Int)) ∧ w = w' := by
  have hA : Hid (bits .and .u32 ((n : Int) / 256) 16711935 = ((n / 256 &&& 16711935 : Nat) : Int)) := Lib.hid (by
    have := u32_and_nat (n / 256) 16711935 (by omega) (by omega)
    simpa using this)
  have hB : Hid (bits .and .u32 (n : Int) 16711935 = ((n &&& 16711935 : Nat) : Int)) := Lib.hid (u32_and_nat n 16711935 h (by omega))
  have hb1 := Gr.land_ff n h
  have ha1 := Gr.land_ff (n / 256) (by omega)
  have hH := Gr.half_eq n h
  have hHl := Gr.half_lt n
  have hR := Gr.rev_eq n
  obtain ⟨p, hp⟩ : ∃ p, Hid ((n / 256 &&& 16711935) = p) := ⟨_, Lib.hid rfl⟩
  obtain ⟨q, hq⟩ : ∃ q, Hid ((n &&& 16711935) = q) := ⟨_, Lib.hid rfl⟩
  obtain ⟨m, hm⟩ : ∃ m, Hid (Gr.half n = m) := ⟨_, Lib.hid rfl⟩
  rw [hp.out] at hA ha1 hH
  rw [hq.out] at hB hb1 hH
  rw [hm.out] at hH hHl hR
  have e1 : Hid ((q : Int) * 256 % 4294967296 = ((q * 256 : Nat) : Int)) := Lib.hid (by omega)
  have e2 : Hid (bits .or .u32 (p : Int) ((q * 256 : Nat) : Int) = (m : Int)) := Lib.hid (by rw [u32_or_nat p (q * 256) (by omega) (by omega), hH])
  have e3 : Hid ((m : Int) * 65536 % 4294967296 = ((m % 65536 * 65536 : Nat) : Int)) := Lib.hid (by omega)
  have e4 : Hid (bits .or .u32 ((m / 65536 : Nat) : Int) ((m % 65536 * 65536 : Nat) : Int) = (Gr.rev n : Int)) := Lib.hid (by rw [u32_or_nat (m / 65536) (m % 65536 * 65536) (by omega) (by omega), hR])
  have e5 : Hid ((m : Int) / 65536 = ((m / 65536 : Nat) : Int)) := Lib.hid (by omega)
  clear hb1 ha1 hH hHl hR
  go_enter Try.func29, Try.ntmps29
  go_wp2_with fail
  rw [hA.out, hB.out, e1.out, e2.out, e3.out, e5.out, e4.out]
  go_ret
  exact ⟨rfl, rfl⟩
/-- the sum behind bytes -/
theorem seal18_any {w : World} {B : Nat} {v : Value} {l : List Nat} (h : Piece w B v l) (hb : ∀ x ∈ l, x < 256) :
    Calls Try.prog 24 #[v] w (Made .u8 5 w.heap.size (Gr.le 4 (Cm.sum l)) w) := by
  obtain ⟨A, c, rfl, hs, hn, hle, hm⟩ := h
  unfold maxLen at hm
  have CS := Lib.hid (sum_any B A l l.length c w rfl (by omega) hs hb)
  have hlt := Cm.sum_lt l hb
  have HF := Lib.hid (Gr.rev_fix (Cm.sum l) hlt)
  obtain ⟨S, hS⟩ : ∃ S, Hid (Cm.sum l = S) := ⟨_, Lib.hid rfl⟩
  rw [hS.out] at CS hlt HF ⊢
  have hrl := Gr.rev_lt S
  have CR := Lib.hid (rev18_any S hlt w)
  obtain ⟨R, hR⟩ : ∃ R, Hid (Gr.rev S = R) := ⟨_, Lib.hid rfl⟩
  rw [hR.out] at CR HF hrl
  have CF := Lib.hid (fix_any w.heap.size (.slice none 0 0) [] R (4 : Int) w (by omega) (by omega) (by omega) (World.ownsRow_nil w _ 5 1) (Nat.le_refl _) (by simp))
  rw [show Bm.fixI R (4 : Int) = Bm.fix 4 R from Bm.fixI_good (k := 4) (by omega) (by omega), HF.out, List.nil_append] at CF
  obtain ⟨n, hn'⟩ : ∃ n, Hid (l.length = n) := ⟨_, Lib.hid rfl⟩
  rw [hn'.out] at CS ⊢
  clear hs hb hn hle
  go_enter Try.func24, Try.ntmps24
  go_wp2_with fail
  refine (CS.out).mono ?_
  rintro e w1 ⟨rfl, rfl⟩
  go_wp2_with fail
  refine (CR.out).mono ?_
  rintro e w1 ⟨rfl, rfl⟩
  go_wp2_with fail
  refine (CF.out).mono ?_
  rintro e w1 ⟨v1, rfl, ho, hb1⟩
  go_wp2_with fail
  go_ret
  exact ⟨v1, rfl, ho, hb1⟩
end Go.Proofs.Ytgfjniogflmlmaa
