/- Texts Sn, An, Sp, Pm2, Aq, Aq2, in one. -/
import Derived.Test.YtbhdgfpaoghnbaaPA
import Derived.Test.YtbhdgfpaoghnbaaPR
/- Plain mathematics of layer 20: which numbers were delivered. -/
namespace Go.Proofs.Ytbhdgfpaoghnbaa
set_option linter.unusedVariables false
set_option linter.unusedSimpArgs false
/-- a memory -/
structure Sn where
  any : Bool
  epoch : Nat
  top : Nat
  bits : Nat
deriving DecidableEq
structure Sn.Ok (s : Sn) : Prop where
  epoch : s.epoch < 4294967296
  top : s.top < 4294967296
  bits : s.bits < 18446744073709551616
namespace Sn
def zero : Sn := ⟨false, 0, 0, 0⟩
/-- is the number i, of that epoch, within the window, delivered? -/
def bit (s : Sn) (i : Nat) : Bool := i == s.top || s.bits.testBit (s.top - i)
def fresh (s : Sn) (e i : Nat) : Nat :=
  if s.any = false then 0 else if s.epoch < e then 0 else if e < s.epoch then 11 else if s.top < i then 0 else if 64 ≤ s.top - i then 11 else if s.bit i = true then 12 else 0
theorem fresh_none {s : Sn} {e i : Nat} (h : s.any = false) : s.fresh e i = 0 := by unfold fresh; rw [if_pos h]
theorem fresh_later {s : Sn} {e i : Nat} (h : s.epoch < e) : s.fresh e i = 0 := by unfold fresh; split <;> simp [h]
theorem fresh_old {s : Sn} {e i : Nat} (h : s.any = true) (k : e < s.epoch) : s.fresh e i = 11 := by unfold fresh; rw [if_neg (by rw [h]; simp), if_neg (by omega), if_pos k]
theorem fresh_above {s : Sn} {i : Nat} (k : s.top < i) : s.fresh s.epoch i = 0 := by unfold fresh; split <;> simp [k]
theorem fresh_out {s : Sn} {i : Nat} (h : s.any = true) (k : 64 ≤ s.top - i) : s.fresh s.epoch i = 11 := by unfold fresh; rw [if_neg (by rw [h]; simp), if_neg (by omega), if_neg (by omega), if_neg (by omega), if_pos k]
theorem fresh_twice {s : Sn} {i : Nat} (h : s.any = true) (k : ¬ s.top < i) (m : ¬ 64 ≤ s.top - i) (b : s.bit i = true) : s.fresh s.epoch i = 12 := by
  unfold fresh; rw [if_neg (by rw [h]; simp), if_neg (by omega), if_neg (by omega), if_neg k, if_neg m, if_pos b]
theorem fresh_gap {s : Sn} {i : Nat} (b : s.bit i = false) (k : ¬ s.top < i) (m : ¬ 64 ≤ s.top - i) : s.fresh s.epoch i = 0 := by
  unfold fresh
  split
  · rfl
  · simp [b]
/-- the bits, moved up by d, bit 0 counted as 1 -/
def up (b d : Nat) : Nat := ((b ||| 1) <<< d ||| 1) % 18446744073709551616
/-- the document's own words -/
def mark (s : Sn) (e i : Nat) : Sn :=
  if s.fresh e i = 0 then
    if s.any = false ∨ s.epoch < e then ⟨true, e, i, 1⟩
    else if s.top < i then ⟨true, s.epoch, i, up s.bits (i - s.top)⟩
    else ⟨true, s.epoch, s.top, s.bits ||| 2 ^ (s.top - i)⟩
  else s
theorem mark_stays {s : Sn} {e i : Nat} (h : ¬ s.fresh e i = 0) : s.mark e i = s := by unfold mark; rw [if_neg h]
theorem mark_new {s : Sn} {e i : Nat} (h : s.any = false ∨ s.epoch < e) : s.mark e i = ⟨true, e, i, 1⟩ := by
  unfold mark
  rw [if_pos, if_pos h]
  rcases h with h | h
  · exact fresh_none h
  · exact fresh_later h
theorem mark_up {s : Sn} {i : Nat} (h : s.any = true) (k : s.top < i) : s.mark s.epoch i = ⟨true, s.epoch, i, up s.bits (i - s.top)⟩ := by
  unfold mark
  rw [if_pos (fresh_above k), if_neg (by rw [h]; simp), if_pos k]
theorem mark_gap {s : Sn} {i : Nat} (h : s.any = true) (b : s.bit i = false) (k : ¬ s.top < i) (m : ¬ 64 ≤ s.top - i) : s.mark s.epoch i = ⟨true, s.epoch, s.top, s.bits ||| 2 ^ (s.top - i)⟩ := by
  unfold mark
  rw [if_pos (fresh_gap b k m), if_neg (by rw [h]; simp), if_neg k]
theorem up_bit (b d k : Nat) (hk : k < 64) : (up b d).testBit k = (decide (k = 0) || (decide (d ≤ k) && (decide (k = d) || b.testBit (k - d)))) := by
  unfold up
  rw [show (18446744073709551616 : Nat) = 2 ^ 64 by decide, Nat.testBit_mod_two_pow, Nat.testBit_or, Nat.testBit_shiftLeft, Nat.testBit_or]
  have one : ∀ j, Nat.testBit 1 j = decide (j = 0) := fun j => by
    have := Nat.testBit_two_pow (n := 0) (m := j)
    simp only [Nat.pow_zero] at this
    rw [this]
    exact decide_eq_decide.2 ⟨fun h => h.symm, fun h => h.symm⟩
  rw [one, one]
  simp only [hk, decide_true, Bool.true_and]
  by_cases h0 : k = 0
  · subst h0; simp
  · by_cases hd : d ≤ k
    · have : (k - d = 0) ↔ (k = d) := by omega
      simp [h0, hd, this, Bool.or_comm]
    · simp [h0, hd]
theorem up_lt (b d : Nat) : up b d < 18446744073709551616 := Nat.mod_lt _ (by decide)
theorem or_lt {b k : Nat} (h : b < 18446744073709551616) (hk : k < 64) : b ||| 2 ^ k < 18446744073709551616 := by
  have := Nat.or_lt_two_pow (n := 64) (show b < 2 ^ 64 by simpa using h) (Nat.pow_lt_pow_right (by omega) hk : 2 ^ k < 2 ^ 64)
  simpa using this
theorem mark_ok {s : Sn} (ok : s.Ok) {e i : Nat} (he : e < 4294967296) (hi : i < 4294967296) : (s.mark e i).Ok := by
  unfold mark
  split
  · split
    · exact ⟨he, hi, by simp⟩
    · split
      · exact ⟨ok.epoch, hi, up_lt _ _⟩
      · rename_i h1 h2 h3
        refine ⟨ok.epoch, ok.top, or_lt ok.bits ?_⟩
        rcases Nat.lt_or_ge (s.top - i) 64 with h | h
        · exact h
        · exfalso
          have ha : s.any = true := by cases hs : s.any <;> simp_all
          have : s.epoch = e ∨ e < s.epoch := by omega
          rcases this with he | he
          · subst he
            rw [fresh_out ha h] at h1
            cases h1
          · rw [fresh_old ha he] at h1
            cases h1
  · exact ok
/-- what was marked is not fresh -/
theorem marked (s : Sn) (e i : Nat) : ¬ (s.mark e i).fresh e i = 0 := by
  by_cases h : s.fresh e i = 0
  · by_cases h1 : s.any = false ∨ s.epoch < e
    · rw [mark_new h1]
      have := fresh_twice (s := ⟨true, e, i, 1⟩) (i := i) rfl (by simp) (by simp) (by unfold bit; simp)
      simp only at this
      rw [this]; simp
    · have ha : s.any = true := by cases hs : s.any <;> simp_all
      have he : s.epoch = e := by
        rcases Nat.lt_or_ge e s.epoch with k | k
        · rw [fresh_old ha k] at h; cases h
        · omega
      subst he
      by_cases hk : s.top < i
      · rw [mark_up ha hk]
        have := fresh_twice (s := ⟨true, s.epoch, i, up s.bits (i - s.top)⟩) (i := i) rfl (by simp) (by simp) (by unfold bit; simp)
        simp only at this
        rw [this]; simp
      · by_cases hm : 64 ≤ s.top - i
        · rw [fresh_out ha hm] at h; cases h
        · cases hb : s.bit i
          · rw [mark_gap ha hb hk hm]
            have := fresh_twice (s := ⟨true, s.epoch, s.top, s.bits ||| 2 ^ (s.top - i)⟩) (i := i) rfl (by simpa using hk) (by simpa using hm) (by unfold bit; simp)
            simp only at this
            rw [this]; simp
          · rw [fresh_twice ha hk hm hb] at h; cases h
  · rw [mark_stays h]; exact h
/-- what is not fresh stays so -/
theorem stays (s : Sn) (e i e' i' : Nat) (h : ¬ s.fresh e i = 0) : ¬ (s.mark e' i').fresh e i = 0 := by
  by_cases hf : s.fresh e' i' = 0
  · have ha : s.any = true := by
      cases hs : s.any
      · exact absurd (fresh_none hs) h
      · rfl
    have hle : ¬ s.epoch < e := fun k => h (fresh_later k)
    by_cases h1 : s.any = false ∨ s.epoch < e'
    · rw [mark_new h1]
      have h2 : s.epoch < e' := by
        rcases h1 with h1 | h1
        · rw [ha] at h1; cases h1
        · exact h1
      rw [fresh_old (s := ⟨true, e', i', 1⟩) rfl (show e < e' by omega)]; simp
    · have he : s.epoch = e' := by
        rcases Nat.lt_or_ge e' s.epoch with k | k
        · rw [fresh_old ha k] at hf; cases hf
        · have : ¬ s.epoch < e' := fun k => h1 (.inr k)
          omega
      subst he
      by_cases hk : s.top < i'
      · rw [mark_up ha hk]
        rcases Nat.lt_or_ge e s.epoch with k | k
        · rw [fresh_old (s := ⟨true, s.epoch, i', up s.bits (i' - s.top)⟩) rfl k]; simp
        · have : e = s.epoch := by omega
          subst this
          have hit : ¬ s.top < i := fun k => h (fresh_above k)
          by_cases hm : 64 ≤ i' - i
          · have := fresh_out (s := ⟨true, s.epoch, i', up s.bits (i' - s.top)⟩) (i := i) rfl hm
            simp only at this
            rw [this]; simp
          · have hb : s.bit i = true := by
              cases hb : s.bit i
              · exact absurd (fresh_gap hb hit (by omega)) h
              · rfl
            have hb' : (Sn.mk true s.epoch i' (up s.bits (i' - s.top))).bit i = true := by
              unfold bit at hb ⊢
              simp only
              rw [up_bit _ _ _ (by omega), show i' - i - (i' - s.top) = s.top - i by omega]
              have h3 : decide (i' - s.top ≤ i' - i) = true := by simp; omega
              rw [h3]
              simp only [Bool.or_eq_true, beq_iff_eq] at hb
              rcases hb with hb | hb
              · have : decide (i' - i = i' - s.top) = true := by rw [hb]; simp
                rw [this]; simp
              · rw [hb]; simp
            have := fresh_twice (s := ⟨true, s.epoch, i', up s.bits (i' - s.top)⟩) (i := i) rfl (by simp; omega) (by simpa using hm) hb'
            simp only at this
            rw [this]; simp
      · have hm : ¬ 64 ≤ s.top - i' := fun hm => by rw [fresh_out ha hm] at hf; cases hf
        cases hb : s.bit i'
        · rw [mark_gap ha hb hk hm]
          rcases Nat.lt_or_ge e s.epoch with k | k
          · rw [fresh_old (s := ⟨true, s.epoch, s.top, s.bits ||| 2 ^ (s.top - i')⟩) rfl k]; simp
          · have : e = s.epoch := by omega
            subst this
            have hit : ¬ s.top < i := fun k => h (fresh_above k)
            by_cases hm2 : 64 ≤ s.top - i
            · have := fresh_out (s := ⟨true, s.epoch, s.top, s.bits ||| 2 ^ (s.top - i')⟩) (i := i) rfl hm2
              simp only at this
              rw [this]; simp
            · have hb2 : s.bit i = true := by
                cases hb : s.bit i
                · exact absurd (fresh_gap hb hit hm2) h
                · rfl
              have hb' : (Sn.mk true s.epoch s.top (s.bits ||| 2 ^ (s.top - i'))).bit i = true := by
                unfold bit at hb2 ⊢
                simp only [Nat.testBit_or]
                simp only [Bool.or_eq_true] at hb2 ⊢
                rcases hb2 with hb2 | hb2
                · exact .inl hb2
                · exact .inr (.inl hb2)
              have := fresh_twice (s := ⟨true, s.epoch, s.top, s.bits ||| 2 ^ (s.top - i')⟩) (i := i) rfl hit hm2 hb'
              simp only at this
              rw [this]; simp
        · rw [fresh_twice ha hk hm hb] at hf; cases hf
  · rw [mark_stays hf]; exact h
/-! ### the reference's way -/
/-- is the number i - k delivered, by the reference's round k? -/
def has (s : Sn) (i k : Nat) : Bool := decide (k ≤ i) && decide (i - k ≤ s.top) && decide (s.top - (i - k) < 64) && s.bit (i - k)
def acc (s : Sn) (i : Nat) : Nat → Nat
  | 0 => 1
  | k + 1 => if s.has i (k + 1) = true then acc s i k + 2 ^ (k + 1) else acc s i k
theorem acc_lt (s : Sn) (i : Nat) : ∀ k, acc s i k < 2 ^ (k + 1)
  | 0 => by simp [acc]
  | k + 1 => by
    have := acc_lt s i k
    rw [acc, Nat.pow_succ 2 (k + 1)]
    split <;> omega
theorem acc_bit (s : Sn) (i : Nat) : ∀ n k, (acc s i n).testBit k = (decide (k = 0) || (decide (0 < k) && decide (k ≤ n) && s.has i k))
  | 0, k => by
    have := Nat.testBit_two_pow (n := 0) (m := k)
    simp only [Nat.pow_zero] at this
    rw [acc, this]
    by_cases h : k = 0
    · subst h; simp
    · simp [h, show ¬ 0 = k by omega]
  | n + 1, k => by
    have ih := acc_bit s i n k
    have hlt := acc_lt s i n
    rw [acc]
    split
    · rename_i hh
      rw [Nat.add_comm, show 2 ^ (n + 1) + acc s i n = 2 ^ (n + 1) * 1 + acc s i n by omega, Nat.testBit_two_pow_mul_add 1 hlt]
      by_cases hk : k < n + 1
      · rw [if_pos hk, ih]
        have : decide (k ≤ n + 1) = decide (k ≤ n) := decide_eq_decide.2 (by omega)
        rw [this]
      · rw [if_neg hk]
        have h1 := Nat.testBit_two_pow (n := 0) (m := k - (n + 1))
        simp only [Nat.pow_zero] at h1
        rw [h1]
        by_cases hq : k = n + 1
        · subst hq; simp [hh]
        · simp [show ¬ 0 = k - (n + 1) by omega, show ¬ k = 0 by omega, show ¬ k ≤ n + 1 by omega]
    · rename_i hh
      rw [ih]
      by_cases hq : k = n + 1
      · subst hq
        have : s.has i (n + 1) = false := by simpa using hh
        simp [this]
      · have : decide (k ≤ n + 1) = decide (k ≤ n) := decide_eq_decide.2 (by omega)
        rw [this]
/-- the reference's mark -/
def rmark (s : Sn) (e i : Nat) : Sn :=
  if s.fresh e i = 0 then
    if s.any = false ∨ s.epoch < e then ⟨true, e, i, 1⟩
    else if i < s.top then ⟨true, s.epoch, s.top, s.bits + 2 ^ (s.top - i)⟩
    else ⟨true, e, i, acc s i 63⟩
  else s
/-- no bit below number 0 -/
def Clean (s : Sn) : Prop := ∀ k, s.top < k → s.bits.testBit k = false
theorem up_acc {s : Sn} {i : Nat} (h : s.top < i) (hc : 64 ≤ s.top ∨ s.Clean) : up s.bits (i - s.top) = acc s i 63 := by
  have h2 := up_lt s.bits (i - s.top)
  have h3 := acc_lt s i 63
  apply Nat.eq_of_testBit_eq
  intro k
  rcases Nat.lt_or_ge k 64 with hk | hk
  · rw [up_bit _ _ _ hk, acc_bit]
    by_cases h0 : k = 0
    · subst h0; simp
    · unfold has bit
      have e1 : decide (0 < k) = true := by simp; omega
      have e2 : decide (k ≤ 63) = true := by simp; omega
      rw [e1, e2]
      simp only [h0, decide_false, Bool.false_or, Bool.true_and]
      by_cases hd : i - s.top ≤ k
      · by_cases hki : k ≤ i
        · have a1 : decide (i - s.top ≤ k) = true := by simpa using hd
          have a2 : decide (k ≤ i) = true := by simpa using hki
          have a3 : decide (i - k ≤ s.top) = true := by simp; omega
          have a4 : decide (s.top - (i - k) < 64) = true := by simp; omega
          rw [a1, a2, a3, a4, show s.top - (i - k) = k - (i - s.top) by omega]
          simp only [Bool.true_and]
          congr 1
          rw [Bool.eq_iff_iff]
          simp only [decide_eq_true_eq, beq_iff_eq]
          omega
        · have a2 : decide (k ≤ i) = false := by simpa using hki
          rw [a2]
          simp only [Bool.false_and]
          rcases hc with hc | hc
          · omega
          · have : s.bits.testBit (k - (i - s.top)) = false := hc _ (by omega)
            rw [this]
            simp [show ¬ k = i - s.top by omega]
      · have a1 : decide (i - s.top ≤ k) = false := by simpa using hd
        rw [a1]
        by_cases hki : k ≤ i
        · have a3 : decide (i - k ≤ s.top) = false := by simp; omega
          rw [a3]; simp
        · have a2 : decide (k ≤ i) = false := by simpa using hki
          rw [a2]; simp
  · rw [Nat.testBit_lt_two_pow (Nat.lt_of_lt_of_le (show up s.bits (i - s.top) < 2 ^ 64 by simpa using h2) (Nat.pow_le_pow_right (by omega) hk)),
      Nat.testBit_lt_two_pow (Nat.lt_of_lt_of_le (show acc s i 63 < 2 ^ 64 from h3) (Nat.pow_le_pow_right (by omega) hk))]
theorem or_add {b k : Nat} (h : b.testBit k = false) : b ||| 2 ^ k = b + 2 ^ k := by
  have e : b = 2 ^ (k + 1) * (b / 2 ^ (k + 1)) + b % 2 ^ k := by
    have h1 := Nat.div_add_mod b (2 ^ (k + 1))
    have h2 : b % 2 ^ (k + 1) = b % 2 ^ k := by
      have h3 := Nat.mod_mul (a := 2 ^ k) (b := 2) (x := b)
      rw [← Nat.pow_succ] at h3
      rw [h3]
      have : b / 2 ^ k % 2 = 0 := by
        have := Nat.testBit_eq_decide_div_mod_eq (x := b) (i := k)
        rw [h] at this
        simp at this
        omega
      rw [this]; simp
    rw [h2] at h1
    exact h1.symm
  apply Nat.eq_of_testBit_eq
  intro j
  have hl : b % 2 ^ k < 2 ^ k := Nat.mod_lt _ (Nat.two_pow_pos k)
  have e2 : b + 2 ^ k = 2 ^ (k + 1) * (b / 2 ^ (k + 1)) + (2 ^ k * 1 + b % 2 ^ k) := by omega
  have hl2 : 2 ^ k * 1 + b % 2 ^ k < 2 ^ (k + 1) := by rw [Nat.pow_succ]; omega
  rw [Nat.testBit_or, Nat.testBit_two_pow, e2, Nat.testBit_two_pow_mul_add _ hl2]
  conv => lhs; rw [e, Nat.testBit_two_pow_mul_add _ (show b % 2 ^ k < 2 ^ (k + 1) by rw [Nat.pow_succ]; omega)]
  by_cases h1 : j < k + 1
  · rw [if_pos h1, if_pos h1, Nat.testBit_two_pow_mul_add 1 hl]
    by_cases h2 : j < k
    · rw [if_pos h2]; simp [show ¬ k = j by omega]
    · have : j = k := by omega
      subst this
      rw [if_neg h2, Nat.testBit_lt_two_pow hl]
      simp
  · rw [if_neg h1, if_neg h1]
    simp [show ¬ k = j by omega]
theorem mark_rmark {s : Sn} (e i : Nat) (hc : 64 ≤ s.top ∨ s.Clean) : s.mark e i = s.rmark e i := by
  unfold mark rmark
  by_cases h : s.fresh e i = 0
  · rw [if_pos h, if_pos h]
    by_cases h1 : s.any = false ∨ s.epoch < e
    · rw [if_pos h1, if_pos h1]
    · rw [if_neg h1, if_neg h1]
      have ha : s.any = true := by cases hs : s.any <;> simp_all
      have he : s.epoch = e := by
        rcases Nat.lt_or_ge e s.epoch with k | k
        · rw [fresh_old ha k] at h; cases h
        · have : ¬ s.epoch < e := fun k => h1 (.inr k)
          omega
      subst he
      by_cases hk : s.top < i
      · rw [if_pos hk, if_neg (by omega), up_acc hk hc]
      · have hm : ¬ 64 ≤ s.top - i := fun hm => by rw [fresh_out ha hm] at h; cases h
        cases hb : s.bit i
        · have hne : ¬ i = s.top := fun q => by unfold bit at hb; rw [q] at hb; simp at hb
          rw [if_neg hk, if_pos (by omega), or_add]
          unfold bit at hb
          simp only [Bool.or_eq_false_iff] at hb
          exact hb.2
        · rw [fresh_twice ha hk hm hb] at h; cases h
  · rw [if_neg h, if_neg h]
/-- but for the bits they are always the same -/
theorem mark_like (s : Sn) (e i : Nat) : (s.mark e i).any = (s.rmark e i).any ∧ (s.mark e i).epoch = (s.rmark e i).epoch ∧ (s.mark e i).top = (s.rmark e i).top := by
  unfold mark rmark
  by_cases h : s.fresh e i = 0
  · rw [if_pos h, if_pos h]
    by_cases h1 : s.any = false ∨ s.epoch < e
    · rw [if_pos h1, if_pos h1]; exact ⟨rfl, rfl, rfl⟩
    · rw [if_neg h1, if_neg h1]
      have ha : s.any = true := by cases hs : s.any <;> simp_all
      have he : s.epoch = e := by
        rcases Nat.lt_or_ge e s.epoch with k | k
        · rw [fresh_old ha k] at h; cases h
        · have : ¬ s.epoch < e := fun k => h1 (.inr k)
          omega
      subst he
      by_cases hk : s.top < i
      · rw [if_pos hk, if_neg (by omega)]; exact ⟨rfl, rfl, rfl⟩
      · by_cases hq : i = s.top
        · subst hq
          have := fresh_twice (s := s) (i := s.top) ha (by omega) (by omega) (by unfold bit; simp)
          rw [this] at h; cases h
        · rw [if_neg hk, if_pos (by omega)]; exact ⟨rfl, rfl, rfl⟩
  · rw [if_neg h, if_neg h]; exact ⟨rfl, rfl, rfl⟩
theorem clean_zero : zero.Clean := fun k _ => by simp [zero]
theorem clean_mark {s : Sn} (hc : s.Clean) (e i : Nat) : (s.mark e i).Clean := by
  by_cases h : s.fresh e i = 0
  · by_cases h1 : s.any = false ∨ s.epoch < e
    · rw [mark_new h1]
      intro k hk
      have := Nat.testBit_two_pow (n := 0) (m := k)
      simp only [Nat.pow_zero] at this
      simp only at hk ⊢
      rw [this]
      simp; omega
    · have ha : s.any = true := by cases hs : s.any <;> simp_all
      have he : s.epoch = e := by
        rcases Nat.lt_or_ge e s.epoch with k | k
        · rw [fresh_old ha k] at h; cases h
        · have : ¬ s.epoch < e := fun k => h1 (.inr k)
          omega
      subst he
      by_cases hk : s.top < i
      · rw [mark_up ha hk]
        intro k hk2
        simp only at hk2 ⊢
        rcases Nat.lt_or_ge k 64 with h64 | h64
        · rw [up_bit _ _ _ h64, hc (k - (i - s.top)) (by omega)]
          simp
          omega
        · exact Nat.testBit_lt_two_pow (Nat.lt_of_lt_of_le (show up s.bits (i - s.top) < 2 ^ 64 by simpa using up_lt s.bits (i - s.top)) (Nat.pow_le_pow_right (by omega) h64))
      · have hm : ¬ 64 ≤ s.top - i := fun hm => by rw [fresh_out ha hm] at h; cases h
        cases hb : s.bit i
        · rw [mark_gap ha hb hk hm]
          intro k hk2
          simp only at hk2 ⊢
          rw [Nat.testBit_or, hc k hk2, Nat.testBit_two_pow]
          simp; omega
        · rw [fresh_twice ha hk hm hb] at h; cases h
  · rw [mark_stays h]; exact hc
/-- one above all of the greatest epoch is fresh -/
theorem above (s : Sn) : s.fresh s.epoch (s.top + 1) = 0 := fresh_above (by omega)
end Sn
end Go.Proofs.Ytbhdgfpaoghnbaa
/- Layer 23 as plain mathematics: messages that come, each once. -/
namespace Go.Proofs.Ytbhdgfpaoghnbaa.An
set_option linter.unusedVariables false

structure S where
  l : List Tm.One
  mem : Nat → Sn
structure S.Ok (m : Tm.Lim) (s : S) : Prop where
  tab : Tm.Ok m s.l
  mem : ∀ i, (s.mem i).Ok
def zero : S := ⟨[], fun _ => Sn.zero⟩
structure R where
  told : List Nat
  ok : Bool
  err : Nat
  s : S
def upd (f : Nat → Sn) (i : Nat) (x : Sn) : Nat → Sn := fun j => if j = i then x else f j
/-- it was delivered, or is too old -/
def S.Done (s : S) (sender e i : Nat) : Prop := ¬ (s.mem sender).fresh e i = 0
def take (m : Tm.Lim) (s : S) (sender : Nat) (g : Gd) : R :=
  if g.kind ≠ 1 then ⟨[], false, 9, s⟩
  else if (s.mem sender).fresh g.epoch g.id ≠ 0 then ⟨[], false, (s.mem sender).fresh g.epoch g.id, s⟩
  else ⟨(Tm.put m s.l sender g).told, (Tm.put m s.l sender g).ok, (Tm.put m s.l sender g).err, ⟨(Tm.put m s.l sender g).l, if (Tm.put m s.l sender g).ok then upd s.mem sender ((s.mem sender).mark g.epoch g.id) else s.mem⟩⟩
def tick (m : Tm.Lim) (s : S) : S := ⟨Tm.tick m s.l, s.mem⟩
section
variable {m : Tm.Lim} {s : S} {sender : Nat} {g : Gd}
theorem ok_zero (m : Tm.Lim) : zero.Ok m := ⟨Tm.ok_nil _, fun _ => ⟨by show (0 : Nat) < _; decide, by show (0 : Nat) < _; decide, by show (0 : Nat) < _; decide⟩⟩
theorem tick_ok (h : s.Ok m) : (tick m s).Ok m := ⟨Tm.tick_ok h.tab, h.mem⟩
theorem take_ok (h : s.Ok m) (hm : m.Ok) (hg : g.Ok) (hs : sender < 65536) : (take m s sender g).s.Ok m := by
  unfold take
  split
  · exact h
  · split
    · exact h
    · refine ⟨Tm.put_ok h.tab hm hg hs, fun i => ?_⟩
      dsimp only
      split
      · unfold upd
        split
        · exact Sn.mark_ok (h.mem _) hg.epoch hg.id
        · exact h.mem i
      · exact h.mem i
theorem take_done (h : (take m s sender g).ok = true) : (take m s sender g).s.Done sender g.epoch g.id ∧ ¬ s.Done sender g.epoch g.id := by
  unfold take at h ⊢
  split
  · rename_i hk; rw [if_pos hk] at h; cases h
  · rename_i hk
    rw [if_neg hk] at h
    split
    · rename_i hf; rw [if_pos hf] at h; cases h
    · rename_i hf
      rw [if_neg hf] at h
      dsimp only at h ⊢
      unfold S.Done
      dsimp only
      rw [if_pos h]
      unfold upd
      rw [if_pos rfl]
      exact ⟨Sn.marked _ _ _, fun q => hf (by simpa using q)⟩
theorem take_keep {a e i : Nat} (h : s.Done a e i) : (take m s sender g).s.Done a e i := by
  unfold take
  split
  · exact h
  · split
    · exact h
    · unfold S.Done
      dsimp only
      split
      · unfold upd
        split
        · rename_i hq; subst hq; exact Sn.stays _ _ _ _ _ h
        · exact h
      · exact h
end
end Go.Proofs.Ytbhdgfpaoghnbaa.An
/- Plain mathematics of layer 19: a body in parts. -/
namespace Go.Proofs.Ytbhdgfpaoghnbaa
set_option linter.unusedVariables false
set_option linter.unusedSimpArgs false
namespace Sp
def room (m : Int) : Nat := if 32 ≤ m ∧ m ≤ 65507 then (m - 20).toNat else 0
theorem room_in {m : Int} (h : 32 ≤ m) (k : m ≤ 65507) : room m = (m - 20).toNat := if_pos ⟨h, k⟩
theorem room_out {m : Int} (h : ¬ (32 ≤ m ∧ m ≤ 65507)) : room m = 0 := if_neg h
theorem room_le (m : Int) : room m ≤ 65487 := by unfold room; split <;> omega
theorem room_mtu {m : Int} (h : ¬ room m = 0) : 12 ≤ room m ∧ ((room m : Nat) : Int) + 20 = m := by
  unfold room at h ⊢
  split at h
  · rename_i k; rw [if_pos k]; omega
  · exact absurd rfl h
/-- how many parts of r bytes n bytes make -/
def many (r n : Nat) : Nat := if 0 < n % r ∨ n / r = 0 then n / r + 1 else n / r
theorem many_pos (r n : Nat) : 0 < many r n := by
  unfold many
  split
  · exact Nat.succ_pos _
  · rename_i h
    exact Nat.pos_of_ne_zero (fun e => h (.inr e))
theorem many_all {r : Nat} (hr : 0 < r) (n : Nat) : n ≤ many r n * r := by
  have h := Nat.div_add_mod n r
  have h2 := Nat.mod_lt n hr
  have h3 : r * (n / r) = n / r * r := Nat.mul_comm _ _
  unfold many
  split
  · rw [Nat.add_mul]; omega
  · omega
theorem many_in {r : Nat} (hr : 0 < r) {n i : Nat} (h : i < many r n) : i * r ≤ n := by
  have e := Nat.div_add_mod n r
  have h3 : r * (n / r) = n / r * r := Nat.mul_comm _ _
  have h4 : i ≤ n / r := by
    unfold many at h
    split at h <;> omega
  have h5 := Nat.mul_le_mul_right r h4
  omega
def count (m n : Int) : Nat × Nat := if room m = 0 ∨ n < 0 then (0, 1) else if 65535 < many (room m) n.toNat then (0, 5) else (many (room m) n.toNat, 0)
theorem count_arg {m n : Int} (h : room m = 0 ∨ n < 0) : count m n = (0, 1) := if_pos h
theorem count_long {m n : Int} (h : ¬ (room m = 0 ∨ n < 0)) (k : 65535 < many (room m) n.toNat) : count m n = (0, 5) := by unfold count; rw [if_neg h, if_pos k]
theorem count_good {m n : Int} (h : ¬ (room m = 0 ∨ n < 0)) (k : ¬ 65535 < many (room m) n.toNat) : count m n = (many (room m) n.toNat, 0) := by unfold count; rw [if_neg h, if_neg k]
theorem count_ok {m : Int} {n : Nat} (h : (count m n).2 = 0) : 0 < room m ∧ (count m n).1 = many (room m) n ∧ many (room m) n ≤ 65535 := by
  by_cases h1 : room m = 0 ∨ (n : Int) < 0
  · rw [count_arg h1] at h; cases h
  · by_cases h2 : 65535 < many (room m) (n : Int).toNat
    · rw [count_long h1 h2] at h; cases h
    · rw [count_good h1 h2]
      simp only [Int.toNat_natCast] at h2 ⊢
      exact ⟨by omega, trivial, by omega⟩
/-- part i of k, each of r bytes -/
def part (g : Gd) (r k i : Nat) : Gd := ⟨g.kind, g.version, g.epoch, g.id, i, k, (g.body.drop (i * r)).take r⟩
theorem part_ok {g : Gd} (ok : g.Ok) {r k i : Nat} (hk : k ≤ 65535) (hi : i < k) : (part g r k i).Ok := by
  obtain ⟨h1, h2, h3, h4, h5, h6, h7⟩ := ok
  exact ⟨h1, h2, h3, h4, by show i < _; omega, by show k < _; omega, fun x hx => h7 x (List.mem_of_mem_drop (List.mem_of_mem_take hx))⟩
theorem part_len (g : Gd) (r k i : Nat) : (part g r k i).body.length = min r (g.body.length - i * r) := by
  show ((g.body.drop (i * r)).take r).length = _
  rw [List.length_take, List.length_drop]
theorem part_right {g : Gd} (hg : ¬ (g.kind < 1 ∨ 2 < g.kind)) {r k i : Nat} (hr : r ≤ 65487) (hi : i < k) : Gr.right (part g r k i) = 0 := by
  refine Gr.right_good hg (fun h => ?_) (fun h => ?_)
  · have : k = 0 ∨ k ≤ i := h
    omega
  · rw [part_len] at h; omega
/-- the parts ahead of part j, as bytes -/
def ahead (g : Gd) (r k j : Nat) : List (List Nat) := (List.range j).map fun i => Gr.bytes (part g r k i)
theorem ahead_zero (g : Gd) (r k : Nat) : ahead g r k 0 = [] := rfl
theorem ahead_succ (g : Gd) (r k j : Nat) : ahead g r k (j + 1) = ahead g r k j ++ [Gr.bytes (part g r k j)] := by unfold ahead; rw [List.range_succ, List.map_append]; rfl
theorem ahead_length (g : Gd) (r k j : Nat) : (ahead g r k j).length = j := by simp [ahead]
theorem ahead_get (g : Gd) (r k : Nat) {j i : Nat} (h : i < (ahead g r k j).length) : (ahead g r k j)[i] = Gr.bytes (part g r k i) := by simp [ahead]
/-- the bodies of the parts ahead of part j -/
theorem body_succ (g : Gd) (r k j : Nat) : g.body.take ((j + 1) * r) = g.body.take (j * r) ++ (part g r k j).body := by
  show _ = _ ++ (g.body.drop (j * r)).take r
  rw [Nat.add_mul, Nat.one_mul, List.take_add]
def split (m : Int) (g : Gd) : List (List Nat) × Nat :=
  if (count m g.body.length).2 = 0 then (if g.kind < 1 ∨ 2 < g.kind then ([], 9) else (ahead g (room m) (count m g.body.length).1 (count m g.body.length).1, 0)) else ([], (count m g.body.length).2)
theorem split_bad {m : Int} {g : Gd} (h : ¬ (count m g.body.length).2 = 0) : split m g = ([], (count m g.body.length).2) := if_neg h
theorem split_kind {m : Int} {g : Gd} (h : (count m g.body.length).2 = 0) (k : g.kind < 1 ∨ 2 < g.kind) : split m g = ([], 9) := by unfold split; rw [if_pos h, if_pos k]
theorem split_good {m : Int} {g : Gd} (h : (count m g.body.length).2 = 0) (k : ¬ (g.kind < 1 ∨ 2 < g.kind)) : split m g = (ahead g (room m) (count m g.body.length).1 (count m g.body.length).1, 0) := by unfold split; rw [if_pos h, if_neg k]
theorem split_byte {m : Int} {g : Gd} (ok : g.Ok) : ∀ l ∈ (split m g).1, ∀ x ∈ l, x < 256 := by
  by_cases h : (count m g.body.length).2 = 0
  · by_cases k : g.kind < 1 ∨ 2 < g.kind
    · rw [split_kind h k]; intro l hl; cases hl
    · rw [split_good h k]
      obtain ⟨h1, h2, h3⟩ := count_ok h
      intro l hl
      simp only [ahead, List.mem_map, List.mem_range] at hl
      obtain ⟨i, hi, rfl⟩ := hl
      exact Gr.bytes_byte (part_ok ok (by omega) hi)
  · rw [split_bad h]; intro l hl; cases hl
theorem split_none {m : Int} {g : Gd} (h : ¬ (split m g).2 = 0) : (split m g).1 = [] := by
  by_cases h1 : (count m g.body.length).2 = 0
  · by_cases k : g.kind < 1 ∨ 2 < g.kind
    · rw [split_kind h1 k]
    · rw [split_good h1 k] at h; exact absurd rfl h
  · rw [split_bad h1]
theorem split_some {m : Int} {g : Gd} (h : (split m g).2 = 0) : ∃ r k : Nat, 0 < k ∧ k ≤ 65535 ∧ (split m g).1 = ahead g r k k ∧ ¬ (g.kind < 1 ∨ 2 < g.kind) ∧ (r : Int) + 20 = m ∧ 0 < r ∧ r ≤ 65487 ∧ g.body.length ≤ k * r := by
  by_cases h1 : (count m g.body.length).2 = 0
  · by_cases k : g.kind < 1 ∨ 2 < g.kind
    · rw [split_kind h1 k] at h; cases h
    · obtain ⟨e1, e2, e3⟩ := count_ok h1
      rw [split_good h1 k]
      refine ⟨room m, (count m g.body.length).1, ?_, ?_, rfl, k, ?_, e1, room_le m, ?_⟩
      · rw [e2]; exact many_pos _ _
      · rw [e2]; exact e3
      · exact (room_mtu (by omega)).2
      · rw [e2]; exact many_all e1 _
  · rw [split_bad h1] at h; exact absurd h h1
end Sp
end Go.Proofs.Ytbhdgfpaoghnbaa
/- Layer 21 as plain mathematics: parts that come in order, and the other way. -/
namespace Go.Proofs.Ytbhdgfpaoghnbaa.Pm
set_option linter.unusedVariables false

/-- the first k parts came, in order -/
def fwd (l : List (List Nat)) (k : Nat) : S := ⟨l.length, (List.range k).map (fun i => (i, l.getD i []))⟩
/-- the last k parts came, the last one first -/
def bwd (l : List (List Nat)) (k : Nat) : S := ⟨l.length, (List.range k).map (fun i => (l.length - 1 - i, l.getD (l.length - 1 - i) []))⟩
section
variable (l : List (List Nat)) (k : Nat)
theorem fwd_len : (fwd l k).l.length = k := by simp [fwd]
theorem bwd_len : (bwd l k).l.length = k := by simp [bwd]
theorem fwd_has (i : Nat) : (fwd l k).has i = decide (i < k) := by
  rw [Bool.eq_iff_iff, S.has_iff]
  simp [S.idx, fwd]
theorem bwd_has (i : Nat) (hk : k ≤ l.length) (hi : i < l.length) : (bwd l k).has i = decide (l.length - k ≤ i) := by
  rw [Bool.eq_iff_iff, S.has_iff]
  simp only [S.idx, bwd, List.map_map, List.mem_map, List.mem_range, Function.comp, decide_eq_true_eq]
  constructor
  · rintro ⟨j, hj, rfl⟩; omega
  · intro h; exact ⟨l.length - 1 - i, by omega, by omega⟩
theorem fwd_err (hk : k < l.length) : (fwd l k).err (k : Int) = 0 := by
  unfold S.err
  rw [if_neg (by show ¬ ((k : Int) < 0 ∨ (l.length : Int) ≤ (k : Int)); omega), if_neg (by rw [Int.toNat_natCast, fwd_has]; simp)]
theorem bwd_err (hk : k < l.length) : (bwd l k).err ((l.length - 1 - k : Nat) : Int) = 0 := by
  unfold S.err
  rw [if_neg (by show ¬ (((l.length - 1 - k : Nat) : Int) < 0 ∨ (l.length : Int) ≤ ((l.length - 1 - k : Nat) : Int)); omega), if_neg (by rw [Int.toNat_natCast, bwd_has l k _ (by omega) (by omega)]; simp; omega)]
theorem fwd_put (hk : k < l.length) : (fwd l k).put (k : Int) (l.getD k []) = fwd l (k + 1) := by
  unfold S.put
  rw [if_pos (fwd_err l k hk), Int.toNat_natCast]
  simp [S.add, fwd, List.range_succ]
theorem bwd_put (hk : k < l.length) : (bwd l k).put ((l.length - 1 - k : Nat) : Int) (l.getD (l.length - 1 - k) []) = bwd l (k + 1) := by
  unfold S.put
  rw [if_pos (bwd_err l k hk), Int.toNat_natCast]
  simp [S.add, bwd, List.range_succ]
theorem fwd_at (hk : k ≤ l.length) : ∀ i, i < k → (fwd l k).at_ i = l.getD i [] := by
  induction k with
  | zero => intro i hi; omega
  | succ k ih =>
    intro i hi
    have e : fwd l (k + 1) = (fwd l k).add k (l.getD k []) := by simp [S.add, fwd, List.range_succ]
    rw [e, S.at_add _ _ _ (by rw [fwd_has]; simp)]
    by_cases h : i = k
    · rw [if_pos h, h]
    · rw [if_neg h]; exact ih (by omega) i (by omega)
theorem bwd_at (hk : k ≤ l.length) : ∀ i, l.length - k ≤ i → i < l.length → (bwd l k).at_ i = l.getD i [] := by
  induction k with
  | zero => intro i hi h2; omega
  | succ k ih =>
    intro i hi h2
    have e : bwd l (k + 1) = (bwd l k).add (l.length - 1 - k) (l.getD (l.length - 1 - k) []) := by simp [S.add, bwd, List.range_succ]
    rw [e, S.at_add _ _ _ (by rw [bwd_has l k _ (by omega) (by omega)]; simp; omega)]
    by_cases h : i = l.length - 1 - k
    · rw [if_pos h, h]
    · rw [if_neg h]; exact ih (by omega) i (by omega) h2
theorem first_flat (s : S) (h : ∀ i, i < l.length → s.at_ i = l.getD i []) : ∀ k, k ≤ l.length → s.first k = (l.take k).flatten := by
  intro k
  induction k with
  | zero => intro _; simp [S.first]
  | succ k ih =>
    intro hk
    rw [S.first_succ, ih (by omega), h k (by omega), List.take_succ_eq_append_getElem (by omega), List.flatten_append]
    simp [List.getD, List.getElem?_eq_getElem (show k < l.length by omega)]
theorem told_flat (s : S) (hc : s.count = l.length) (hl : s.l.length = l.length) (h : ∀ i, i < l.length → s.at_ i = l.getD i []) : s.full = true ∧ (if s.full then s.whole else []) = l.flatten := by
  have hf : s.full = true := by unfold S.full; rw [hl, hc]; simp
  refine ⟨hf, ?_⟩
  rw [hf, if_pos rfl, ← S.first_all, hc, first_flat l s h _ (Nat.le_refl _), List.take_length]
theorem fwd_size (hk : k ≤ l.length) : (fwd l k).size = ((l.take k).flatten).length := by
  induction k with
  | zero => simp [fwd, S.size]
  | succ k ih =>
    have e : fwd l (k + 1) = (fwd l k).add k (l.getD k []) := by simp [S.add, fwd, List.range_succ]
    rw [e, S.size_add, ih (by omega), List.take_succ_eq_append_getElem (by omega), List.flatten_append, List.length_append]
    simp [List.getD, List.getElem?_eq_getElem (show k < l.length by omega)]
theorem bwd_size (m : Nat) (hm : ∀ i, (l.getD i []).length ≤ m) : (bwd l k).size ≤ k * m := by
  induction k with
  | zero => simp [bwd, S.size]
  | succ k ih =>
    have e : bwd l (k + 1) = (bwd l k).add (l.length - 1 - k) (l.getD (l.length - 1 - k) []) := by simp [S.add, bwd, List.range_succ]
    rw [e, S.size_add, Nat.add_mul]
    have := hm (l.length - 1 - k)
    omega
theorem fwd_size_le (m : Nat) (hm : ∀ i, i < k → (l.getD i []).length ≤ m) : (fwd l k).size ≤ k * m := by
  induction k with
  | zero => simp [fwd, S.size]
  | succ k ih =>
    have e : fwd l (k + 1) = (fwd l k).add k (l.getD k []) := by simp [S.add, fwd, List.range_succ]
    rw [e, S.size_add, Nat.add_mul]
    have := hm k (by omega)
    have := ih (fun i hi => hm i (by omega))
    omega
end
end Go.Proofs.Ytbhdgfpaoghnbaa.Pm
/- Layer 23 as plain mathematics: the datagrams of one message that was split, in any order. -/
namespace Go.Proofs.Ytbhdgfpaoghnbaa.Aq
set_option linter.unusedVariables false

structure Msg where
  ver : Nat
  epoch : Nat
  id : Nat
  ps : List (List Nat)
def gd (M : Msg) (i : Nat) : Gd := ⟨1, M.ver, M.epoch, M.id, i, M.ps.length, M.ps.getD i []⟩
def lim : Tm.Lim := ⟨1, 65536, 1⟩
def pm (M : Msg) (S : List Nat) : Pm.S := ⟨M.ps.length, S.map (fun i => (i, M.ps.getD i []))⟩
def one (M : Msg) (S : List Nat) : Tm.One := ⟨7, M.epoch, M.id, M.ps.length, M.ver, 0, pm M S⟩
/-- what there is when those of S were taken -/
def st (M : Msg) (S : List Nat) : An.S :=
  if S.length = M.ps.length then ⟨[], An.upd (fun _ => Sn.zero) 7 (Sn.zero.mark M.epoch M.id)⟩ else ⟨if S = [] then [] else [one M S], fun _ => Sn.zero⟩
structure Msg.Ok (M : Msg) (x : Nat) : Prop where
  some_ : 1 ≤ M.ps.length
  few : ∀ i, (M.ps.getD i []).length ≤ x
  fit : M.ps.length * x ≤ 65536
structure Taken (M : Msg) (S : List Nat) : Prop where
  once : S.Nodup
  lt : ∀ i ∈ S, i < M.ps.length
section
variable {M : Msg} {S : List Nat} {i x : Nat}
theorem pm_idx : (pm M S).idx = S := by simp [pm, Pm.S.idx, Function.comp_def]
theorem pm_has : (pm M S).has i = S.contains i := by unfold Pm.S.has; rw [pm_idx]
theorem pm_add : (pm M S).add i (M.ps.getD i []) = pm M (S ++ [i]) := by simp [pm, Pm.S.add]
theorem pm_size (h : M.Ok x) : ∀ S : List Nat, (pm M S).size ≤ S.length * x
  | [] => by simp [pm, Pm.S.size]
  | a :: S => by
    have h1 := pm_size h S
    have h2 := h.few a
    unfold pm Pm.S.size at *
    dsimp only at h1 ⊢
    rw [List.map_cons, List.map_cons, List.sum_cons, List.length_cons, Nat.add_mul]
    dsimp only
    omega
theorem Taken.len (h : Taken M S) : S.length ≤ M.ps.length := Pm.nodup_le _ _ h.once h.lt
theorem Taken.push (h : Taken M S) (hi : i < M.ps.length) (hn : i ∉ S) : Taken M (S ++ [i]) :=
  ⟨List.nodup_append.2 ⟨h.once, by simp, fun a ha b hb => by
    obtain rfl : b = i := by simpa using hb
    intro e
    exact hn (e ▸ ha)⟩, fun j hj => by
    rcases List.mem_append.1 hj with hj | hj
    · exact h.lt j hj
    · obtain rfl : j = i := by simpa using hj
      exact hi⟩
theorem pm_at (h : Taken M S) (hi : i ∈ S) : (pm M S).at_ i = M.ps.getD i [] := by
  unfold Pm.S.at_ pm
  have : ∀ S : List Nat, i ∈ S → (S.map (fun i => (i, M.ps.getD i []))).find? (fun x => x.1 == i) = some (i, M.ps.getD i []) := by
    intro S
    induction S with
    | nil => intro h; cases h
    | cons a S ih =>
      intro hm
      rw [List.map_cons, List.find?_cons]
      by_cases ha : a = i
      · subst ha; simp
      · have hm' : i ∈ S := by
          rcases List.mem_cons.1 hm with h | h
          · exact absurd h.symm ha
          · exact h
        dsimp only
        rw [show (a == i) = false by simpa using ha]
        exact ih hm'
  simp only [this S hi]
theorem pm_whole (h : Taken M S) (hl : S.length = M.ps.length) : (pm M S).full = true ∧ (pm M S).whole = M.ps.flatten := by
  have := Pm.told_flat (l := M.ps) (pm M S) rfl (by simp [pm, hl]) (fun j hj => pm_at h (Pm.all_there h.once h.lt hl j hj))
  have h2 := this.2
  rw [if_pos this.1] at h2
  exact ⟨this.1, h2⟩
theorem find_st (hS : ¬ S = []) : Tm.find [one M S] (7, M.epoch, M.id) = some 0 := Tm.find_is (by simp) (by simp [one, Tm.One.key]) (fun j hj => by omega)
theorem cur_st : Tm.cur (if S = [] then [] else [one M S]) 7 (gd M i) = one M S := by
  by_cases hS : S = []
  · subst hS
    rw [if_pos rfl, Tm.cur_none rfl]
    rfl
  · rw [if_neg hS]
    obtain ⟨_, h⟩ := Tm.cur_some (l := [one M S]) (sender := 7) (g := gd M i) (find_st hS)
    rw [h]
    rfl
theorem opened_st (o : Tm.One) : Tm.opened lim (if S = [] then [] else [one M S]) (7, M.epoch, M.id) o = [o] := by
  by_cases hS : S = []
  · rw [if_pos hS, Tm.opened_none rfl]
    rfl
  · rw [if_neg hS, Tm.opened_some (find_st hS)]
    rfl
theorem mark_twice (e i : Nat) : (Sn.zero.mark e i).fresh e i = 12 := by
  rw [Sn.mark_new (.inl rfl)]
  exact Sn.fresh_twice (s := ⟨true, e, i, 1⟩) rfl (by simp) (by simp) (by simp [Sn.bit])
/-- one that was taken -/
theorem take_old (hM : M.Ok x) (h : Taken M S) (hi : i ∈ S) : An.take lim (st M S) 7 (gd M i) = ⟨[], false, 12, st M S⟩ := by
  by_cases hl : S.length = M.ps.length
  · unfold An.take
    rw [if_neg (by simp [gd])]
    have hs : st M S = ⟨[], An.upd (fun _ => Sn.zero) 7 (Sn.zero.mark M.epoch M.id)⟩ := if_pos hl
    rw [hs]
    have hf : (An.upd (fun _ => Sn.zero) 7 (Sn.zero.mark M.epoch M.id) 7).fresh (gd M i).epoch (gd M i).id = 12 := by
      unfold An.upd; rw [if_pos rfl]; exact mark_twice _ _
    simp only [hf]
    rw [if_pos (by decide)]
  · have hs : st M S = ⟨if S = [] then [] else [one M S], fun _ => Sn.zero⟩ := if_neg hl
    have hS : ¬ S = [] := fun e => by subst e; cases hi
    have hp : Tm.put lim (if S = [] then [] else [one M S]) 7 (gd M i) = ⟨[], false, 12, if S = [] then [] else [one M S]⟩ := by
      unfold Tm.put
      have hlt := h.lt i hi
      rw [if_neg (by simp only [gd]; omega), cur_st, if_neg (by simp [one, gd]), if_pos (by show (pm M S).has i = true; rw [pm_has]; simpa using hi)]
    unfold An.take
    rw [if_neg (by simp [gd]), hs]
    dsimp only
    rw [if_neg (by rw [Sn.fresh_none rfl]; simp), hp]
    rfl
/-- one that was not taken -/
theorem take_new (hM : M.Ok x) (h : Taken M S) (hi : i < M.ps.length) (hn : i ∉ S) :
    An.take lim (st M S) 7 (gd M i) = ⟨if S.length + 1 = M.ps.length then M.ps.flatten else [], decide (S.length + 1 = M.ps.length), 0, st M (S ++ [i])⟩ := by
  have hT := h.push hi hn
  have hle := hT.len
  rw [List.length_append, List.length_singleton] at hle
  have hl : ¬ S.length = M.ps.length := by omega
  have hs : st M S = ⟨if S = [] then [] else [one M S], fun _ => Sn.zero⟩ := if_neg hl
  have hsz := pm_size hM (S ++ [i])
  rw [List.length_append, List.length_singleton] at hsz
  have hfit := Nat.le_trans hsz (Nat.le_trans (Nat.mul_le_mul_right x hle) hM.fit)
  have hadd : (one M S).plus (gd M i) = one M (S ++ [i]) := by
    unfold Tm.One.plus one
    simp only [gd]
    rw [pm_add]
  have hsz2 : (pm M S).size + (M.ps.getD i []).length = (pm M (S ++ [i])).size := by rw [← pm_add, Pm.S.size_add]
  have hheld : Tm.held [one M (S ++ [i])] ≤ 65536 := by
    unfold Tm.held
    simpa [one] using hfit
  have hp : Tm.put lim (if S = [] then [] else [one M S]) 7 (gd M i) = (if (one M (S ++ [i])).s.full then ⟨(one M (S ++ [i])).s.whole, true, 0, Tm.wo [one M (S ++ [i])] (7, M.epoch, M.id)⟩ else ⟨[], false, 0, [one M (S ++ [i])]⟩) := by
    unfold Tm.put
    rw [if_neg (by simp only [gd]; omega), cur_st, if_neg (by simp [one, gd]), if_neg (by show ¬ (pm M S).has i = true; rw [pm_has]; simpa using hn), if_neg (by show ¬ 65536 < (pm M S).size + (M.ps.getD i []).length; omega), hadd]
    dsimp only
    rw [show ((7 : Nat), (gd M i).epoch, (gd M i).id) = (7, M.epoch, M.id) from rfl, opened_st, Tm.shrink_done (k := (7, M.epoch, M.id)) [one M (S ++ [i])].length lim.by_ hheld]
  unfold An.take
  rw [if_neg (by simp [gd]), hs]
  dsimp only
  rw [if_neg (by rw [Sn.fresh_none rfl]; simp), hp]
  by_cases hf : S.length + 1 = M.ps.length
  · have hw := pm_whole hT (by simpa using hf)
    have hfull : (one M (S ++ [i])).s.full = true := hw.1
    have hwo : Tm.wo [one M (S ++ [i])] (7, M.epoch, M.id) = [] := by
      unfold Tm.wo
      rw [find_st (by simp)]
      rfl
    have hs2 : st M (S ++ [i]) = ⟨[], An.upd (fun _ => Sn.zero) 7 (Sn.zero.mark M.epoch M.id)⟩ := if_pos (by simpa using hf)
    rw [hs2, if_pos hfull, if_pos hf, hwo]
    dsimp only
    rw [show (one M (S ++ [i])).s.whole = M.ps.flatten from hw.2, decide_eq_true hf]
    rfl
  · have hfull : (one M (S ++ [i])).s.full = false := by
      show (pm M (S ++ [i])).full = false
      unfold Pm.S.full pm
      simpa using hf
    have hs2 : st M (S ++ [i]) = ⟨if S ++ [i] = [] then [] else [one M (S ++ [i])], fun _ => Sn.zero⟩ := if_neg (by simpa using hf)
    rw [hs2, if_neg (by rw [hfull]; decide), if_neg hf, decide_eq_false hf, if_neg (by simp : ¬ S ++ [i] = [])]
    rfl
end
end Go.Proofs.Ytbhdgfpaoghnbaa.Aq
/- Layer 23 as plain mathematics: a message that was split, as its parts. -/
namespace Go.Proofs.Ytbhdgfpaoghnbaa.Aq
set_option linter.unusedVariables false

def msgOf (g : Gd) (r k : Nat) : Msg := ⟨g.version, g.epoch, g.id, (List.range k).map (fun i => (Sp.part g r k i).body)⟩
section
variable {g : Gd} {r k i : Nat}
theorem of_len (g : Gd) (r k : Nat) : (msgOf g r k).ps.length = k := by simp [msgOf]
theorem of_get (hi : i < k) : (msgOf g r k).ps.getD i [] = (Sp.part g r k i).body := by simp [msgOf, List.getD_eq_getElem?_getD, hi]
theorem of_gd (hk : g.kind = 1) (hi : i < k) : gd (msgOf g r k) i = Sp.part g r k i := by
  unfold gd
  rw [of_len, of_get hi]
  unfold Sp.part msgOf
  rw [hk]
theorem flat_take (g : Gd) (r k : Nat) : ∀ j, ((List.range j).map (fun i => (Sp.part g r k i).body)).flatten = g.body.take (j * r)
  | 0 => by simp
  | j + 1 => by
    rw [List.range_succ, List.map_append, List.flatten_append, flat_take g r k j, Sp.body_succ g r k j]
    simp
theorem of_flat (h : g.body.length ≤ k * r) : (msgOf g r k).ps.flatten = g.body := by
  show ((List.range k).map _).flatten = _
  rw [flat_take, List.take_of_length_le h]
theorem of_ok (hr : 0 < r) (hn : g.body.length ≤ 1500) : (msgOf g r (Sp.many r g.body.length)).Ok (min r g.body.length) := by
  refine ⟨by rw [of_len]; exact Sp.many_pos _ _, fun i => ?_, ?_⟩
  · rcases Nat.lt_or_ge i (Sp.many r g.body.length) with h | h
    · rw [of_get h, Sp.part_len]; omega
    · rw [List.getD_eq_getElem?_getD, List.getElem?_eq_none (by rw [of_len]; exact h)]
      exact Nat.zero_le _
  · rw [of_len]
    have e := Nat.div_add_mod g.body.length r
    have h3 : r * (g.body.length / r) = g.body.length / r * r := Nat.mul_comm _ _
    have hm : Sp.many r g.body.length ≤ g.body.length / r + 1 := by unfold Sp.many; split <;> omega
    refine Nat.le_trans (Nat.mul_le_mul_right _ hm) ?_
    rcases Nat.lt_or_ge g.body.length r with h | h
    · rw [Nat.div_eq_of_lt h]
      have : min r g.body.length ≤ 1500 := by omega
      omega
    · rw [Nat.min_eq_left h, Nat.add_mul]
      omega
end
end Go.Proofs.Ytbhdgfpaoghnbaa.Aq
