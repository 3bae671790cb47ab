/- Plain mathematics of layer 20: which numbers were delivered. -/
import Derived.Test.YtandkgdlcdoikaaPA
namespace Go.Proofs.Ytandkgdlcdoikaa
set_option linter.unusedVariables false
set_option linter.unusedSimpArgs false
/-- a memory -/
structure Sn where
  any : Bool
  epoch : Nat
  top : Nat
  bits : Nat
deriving DecidableEq
structure Sn.Ok (s : Sn) : Prop where
  epoch : s.epoch < 4294967296
  top : s.top < 4294967296
  bits : s.bits < 18446744073709551616
namespace Sn
def zero : Sn := ⟨false, 0, 0, 0⟩
/-- is the number i, of that epoch, within the window, delivered? -/
def bit (s : Sn) (i : Nat) : Bool := i == s.top || s.bits.testBit (s.top - i)
def fresh (s : Sn) (e i : Nat) : Nat :=
  if s.any = false then 0 else if s.epoch < e then 0 else if e < s.epoch then 11 else if s.top < i then 0 else if 64 ≤ s.top - i then 11 else if s.bit i = true then 12 else 0
theorem fresh_none {s : Sn} {e i : Nat} (h : s.any = false) : s.fresh e i = 0 := by unfold fresh; rw [if_pos h]
theorem fresh_later {s : Sn} {e i : Nat} (h : s.epoch < e) : s.fresh e i = 0 := by unfold fresh; split <;> simp [h]
theorem fresh_old {s : Sn} {e i : Nat} (h : s.any = true) (k : e < s.epoch) : s.fresh e i = 11 := by unfold fresh; rw [if_neg (by rw [h]; simp), if_neg (by omega), if_pos k]
theorem fresh_above {s : Sn} {i : Nat} (k : s.top < i) : s.fresh s.epoch i = 0 := by unfold fresh; split <;> simp [k]
theorem fresh_out {s : Sn} {i : Nat} (h : s.any = true) (k : 64 ≤ s.top - i) : s.fresh s.epoch i = 11 := by unfold fresh; rw [if_neg (by rw [h]; simp), if_neg (by omega), if_neg (by omega), if_neg (by omega), if_pos k]
theorem fresh_twice {s : Sn} {i : Nat} (h : s.any = true) (k : ¬ s.top < i) (m : ¬ 64 ≤ s.top - i) (b : s.bit i = true) : s.fresh s.epoch i = 12 := by
  unfold fresh; rw [if_neg (by rw [h]; simp), if_neg (by omega), if_neg (by omega), if_neg k, if_neg m, if_pos b]
theorem fresh_gap {s : Sn} {i : Nat} (b : s.bit i = false) (k : ¬ s.top < i) (m : ¬ 64 ≤ s.top - i) : s.fresh s.epoch i = 0 := by
  unfold fresh
  split
  · rfl
  · simp [b]
/-- the bits, moved up by d, bit 0 counted as 1 -/
def up (b d : Nat) : Nat := ((b ||| 1) <<< d ||| 1) % 18446744073709551616
/-- the document's own words -/
def mark (s : Sn) (e i : Nat) : Sn :=
  if s.fresh e i = 0 then
    if s.any = false ∨ s.epoch < e then ⟨true, e, i, 1⟩
    else if s.top < i then ⟨true, s.epoch, i, up s.bits (i - s.top)⟩
    else ⟨true, s.epoch, s.top, s.bits ||| 2 ^ (s.top - i)⟩
  else s
theorem mark_stays {s : Sn} {e i : Nat} (h : ¬ s.fresh e i = 0) : s.mark e i = s := by unfold mark; rw [if_neg h]
theorem mark_new {s : Sn} {e i : Nat} (h : s.any = false ∨ s.epoch < e) : s.mark e i = ⟨true, e, i, 1⟩ := by
  unfold mark
  rw [if_pos, if_pos h]
  rcases h with h | h
  · exact fresh_none h
  · exact fresh_later h
theorem mark_up {s : Sn} {i : Nat} (h : s.any = true) (k : s.top < i) : s.mark s.epoch i = ⟨true, s.epoch, i, up s.bits (i - s.top)⟩ := by
  unfold mark
  rw [if_pos (fresh_above k), if_neg (by rw [h]; simp), if_pos k]
theorem mark_gap {s : Sn} {i : Nat} (h : s.any = true) (b : s.bit i = false) (k : ¬ s.top < i) (m : ¬ 64 ≤ s.top - i) : s.mark s.epoch i = ⟨true, s.epoch, s.top, s.bits ||| 2 ^ (s.top - i)⟩ := by
  unfold mark
  rw [if_pos (fresh_gap b k m), if_neg (by rw [h]; simp), if_neg k]
theorem up_bit (b d k : Nat) (hk : k < 64) : (up b d).testBit k = (decide (k = 0) || (decide (d ≤ k) && (decide (k = d) || b.testBit (k - d)))) := by
  unfold up
  rw [show (18446744073709551616 : Nat) = 2 ^ 64 by decide, Nat.testBit_mod_two_pow, Nat.testBit_or, Nat.testBit_shiftLeft, Nat.testBit_or]
  have one : ∀ j, Nat.testBit 1 j = decide (j = 0) := fun j => by
    have := Nat.testBit_two_pow (n := 0) (m := j)
    simp only [Nat.pow_zero] at this
    rw [this]
    exact decide_eq_decide.2 ⟨fun h => h.symm, fun h => h.symm⟩
  rw [one, one]
  simp only [hk, decide_true, Bool.true_and]
  by_cases h0 : k = 0
  · subst h0; simp
  · by_cases hd : d ≤ k
    · have : (k - d = 0) ↔ (k = d) := by omega
      simp [h0, hd, this, Bool.or_comm]
    · simp [h0, hd]
theorem up_lt (b d : Nat) : up b d < 18446744073709551616 := Nat.mod_lt _ (by decide)
theorem or_lt {b k : Nat} (h : b < 18446744073709551616) (hk : k < 64) : b ||| 2 ^ k < 18446744073709551616 := by
  have := Nat.or_lt_two_pow (n := 64) (show b < 2 ^ 64 by simpa using h) (Nat.pow_lt_pow_right (by omega) hk : 2 ^ k < 2 ^ 64)
  simpa using this
theorem mark_ok {s : Sn} (ok : s.Ok) {e i : Nat} (he : e < 4294967296) (hi : i < 4294967296) : (s.mark e i).Ok := by
  unfold mark
  split
  · split
    · exact ⟨he, hi, by simp⟩
    · split
      · exact ⟨ok.epoch, hi, up_lt _ _⟩
      · rename_i h1 h2 h3
        refine ⟨ok.epoch, ok.top, or_lt ok.bits ?_⟩
        rcases Nat.lt_or_ge (s.top - i) 64 with h | h
        · exact h
        · exfalso
          have ha : s.any = true := by cases hs : s.any <;> simp_all
          have : s.epoch = e ∨ e < s.epoch := by omega
          rcases this with he | he
          · subst he
            rw [fresh_out ha h] at h1
            cases h1
          · rw [fresh_old ha he] at h1
            cases h1
  · exact ok
/-- what was marked is not fresh -/
theorem marked (s : Sn) (e i : Nat) : ¬ (s.mark e i).fresh e i = 0 := by
  by_cases h : s.fresh e i = 0
  · by_cases h1 : s.any = false ∨ s.epoch < e
    · rw [mark_new h1]
      have := fresh_twice (s := ⟨true, e, i, 1⟩) (i := i) rfl (by simp) (by simp) (by unfold bit; simp)
      simp only at this
      rw [this]; simp
    · have ha : s.any = true := by cases hs : s.any <;> simp_all
      have he : s.epoch = e := by
        rcases Nat.lt_or_ge e s.epoch with k | k
        · rw [fresh_old ha k] at h; cases h
        · omega
      subst he
      by_cases hk : s.top < i
      · rw [mark_up ha hk]
        have := fresh_twice (s := ⟨true, s.epoch, i, up s.bits (i - s.top)⟩) (i := i) rfl (by simp) (by simp) (by unfold bit; simp)
        simp only at this
        rw [this]; simp
      · by_cases hm : 64 ≤ s.top - i
        · rw [fresh_out ha hm] at h; cases h
        · cases hb : s.bit i
          · rw [mark_gap ha hb hk hm]
            have := fresh_twice (s := ⟨true, s.epoch, s.top, s.bits ||| 2 ^ (s.top - i)⟩) (i := i) rfl (by simpa using hk) (by simpa using hm) (by unfold bit; simp)
            simp only at this
            rw [this]; simp
          · rw [fresh_twice ha hk hm hb] at h; cases h
  · rw [mark_stays h]; exact h
/-- what is not fresh stays so -/
theorem stays (s : Sn) (e i e' i' : Nat) (h : ¬ s.fresh e i = 0) : ¬ (s.mark e' i').fresh e i = 0 := by
  by_cases hf : s.fresh e' i' = 0
  · have ha : s.any = true := by
      cases hs : s.any
      · exact absurd (fresh_none hs) h
      · rfl
    have hle : ¬ s.epoch < e := fun k => h (fresh_later k)
    by_cases h1 : s.any = false ∨ s.epoch < e'
    · rw [mark_new h1]
      have h2 : s.epoch < e' := by
        rcases h1 with h1 | h1
        · rw [ha] at h1; cases h1
        · exact h1
      rw [fresh_old (s := ⟨true, e', i', 1⟩) rfl (show e < e' by omega)]; simp
    · have he : s.epoch = e' := by
        rcases Nat.lt_or_ge e' s.epoch with k | k
        · rw [fresh_old ha k] at hf; cases hf
        · have : ¬ s.epoch < e' := fun k => h1 (.inr k)
          omega
      subst he
      by_cases hk : s.top < i'
      · rw [mark_up ha hk]
        rcases Nat.lt_or_ge e s.epoch with k | k
        · rw [fresh_old (s := ⟨true, s.epoch, i', up s.bits (i' - s.top)⟩) rfl k]; simp
        · have : e = s.epoch := by omega
          subst this
          have hit : ¬ s.top < i := fun k => h (fresh_above k)
          by_cases hm : 64 ≤ i' - i
          · have := fresh_out (s := ⟨true, s.epoch, i', up s.bits (i' - s.top)⟩) (i := i) rfl hm
            simp only at this
            rw [this]; simp
          · have hb : s.bit i = true := by
              cases hb : s.bit i
              · exact absurd (fresh_gap hb hit (by omega)) h
              · rfl
            have hb' : (Sn.mk true s.epoch i' (up s.bits (i' - s.top))).bit i = true := by
              unfold bit at hb ⊢
              simp only
              rw [up_bit _ _ _ (by omega), show i' - i - (i' - s.top) = s.top - i by omega]
              have h3 : decide (i' - s.top ≤ i' - i) = true := by simp; omega
              rw [h3]
              simp only [Bool.or_eq_true, beq_iff_eq] at hb
              rcases hb with hb | hb
              · have : decide (i' - i = i' - s.top) = true := by rw [hb]; simp
                rw [this]; simp
              · rw [hb]; simp
            have := fresh_twice (s := ⟨true, s.epoch, i', up s.bits (i' - s.top)⟩) (i := i) rfl (by simp; omega) (by simpa using hm) hb'
            simp only at this
            rw [this]; simp
      · have hm : ¬ 64 ≤ s.top - i' := fun hm => by rw [fresh_out ha hm] at hf; cases hf
        cases hb : s.bit i'
        · rw [mark_gap ha hb hk hm]
          rcases Nat.lt_or_ge e s.epoch with k | k
          · rw [fresh_old (s := ⟨true, s.epoch, s.top, s.bits ||| 2 ^ (s.top - i')⟩) rfl k]; simp
          · have : e = s.epoch := by omega
            subst this
            have hit : ¬ s.top < i := fun k => h (fresh_above k)
            by_cases hm2 : 64 ≤ s.top - i
            · have := fresh_out (s := ⟨true, s.epoch, s.top, s.bits ||| 2 ^ (s.top - i')⟩) (i := i) rfl hm2
              simp only at this
              rw [this]; simp
            · have hb2 : s.bit i = true := by
                cases hb : s.bit i
                · exact absurd (fresh_gap hb hit hm2) h
                · rfl
              have hb' : (Sn.mk true s.epoch s.top (s.bits ||| 2 ^ (s.top - i'))).bit i = true := by
                unfold bit at hb2 ⊢
                simp only [Nat.testBit_or]
                simp only [Bool.or_eq_true] at hb2 ⊢
                rcases hb2 with hb2 | hb2
                · exact .inl hb2
                · exact .inr (.inl hb2)
              have := fresh_twice (s := ⟨true, s.epoch, s.top, s.bits ||| 2 ^ (s.top - i')⟩) (i := i) rfl hit hm2 hb'
              simp only at this
              rw [this]; simp
        · rw [fresh_twice ha hk hm hb] at hf; cases hf
  · rw [mark_stays hf]; exact h
/-! ### the reference's way -/
/-- is the number i - k delivered, by the reference's round k? -/
def has (s : Sn) (i k : Nat) : Bool := decide (k ≤ i) && decide (i - k ≤ s.top) && decide (s.top - (i - k) < 64) && s.bit (i - k)
def acc (s : Sn) (i : Nat) : Nat → Nat
  | 0 => 1
  | k + 1 => if s.has i (k + 1) = true then acc s i k + 2 ^ (k + 1) else acc s i k
theorem acc_lt (s : Sn) (i : Nat) : ∀ k, acc s i k < 2 ^ (k + 1)
  | 0 => by simp [acc]
  | k + 1 => by
    have := acc_lt s i k
    rw [acc, Nat.pow_succ 2 (k + 1)]
    split <;> omega
theorem acc_bit (s : Sn) (i : Nat) : ∀ n k, (acc s i n).testBit k = (decide (k = 0) || (decide (0 < k) && decide (k ≤ n) && s.has i k))
  | 0, k => by
    have := Nat.testBit_two_pow (n := 0) (m := k)
    simp only [Nat.pow_zero] at this
    rw [acc, this]
    by_cases h : k = 0
    · subst h; simp
    · simp [h, show ¬ 0 = k by omega]
  | n + 1, k => by
    have ih := acc_bit s i n k
    have hlt := acc_lt s i n
    rw [acc]
    split
    · rename_i hh
      rw [Nat.add_comm, show 2 ^ (n + 1) + acc s i n = 2 ^ (n + 1) * 1 + acc s i n by omega, Nat.testBit_two_pow_mul_add 1 hlt]
      by_cases hk : k < n + 1
      · rw [if_pos hk, ih]
        have : decide (k ≤ n + 1) = decide (k ≤ n) := decide_eq_decide.2 (by omega)
        rw [this]
      · rw [if_neg hk]
        have h1 := Nat.testBit_two_pow (n := 0) (m := k - (n + 1))
        simp only [Nat.pow_zero] at h1
        rw [h1]
        by_cases hq : k = n + 1
        · subst hq; simp [hh]
        · simp [show ¬ 0 = k - (n + 1) by omega, show ¬ k = 0 by omega, show ¬ k ≤ n + 1 by omega]
    · rename_i hh
      rw [ih]
      by_cases hq : k = n + 1
      · subst hq
        have : s.has i (n + 1) = false := by simpa using hh
        simp [this]
      · have : decide (k ≤ n + 1) = decide (k ≤ n) := decide_eq_decide.2 (by omega)
        rw [this]
/-- the reference's mark -/
def rmark (s : Sn) (e i : Nat) : Sn :=
  if s.fresh e i = 0 then
    if s.any = false ∨ s.epoch < e then ⟨true, e, i, 1⟩
    else if i < s.top then ⟨true, s.epoch, s.top, s.bits + 2 ^ (s.top - i)⟩
    else ⟨true, e, i, acc s i 63⟩
  else s
/-- no bit below number 0 -/
def Clean (s : Sn) : Prop := ∀ k, s.top < k → s.bits.testBit k = false
theorem up_acc {s : Sn} {i : Nat} (h : s.top < i) (hc : 64 ≤ s.top ∨ s.Clean) : up s.bits (i - s.top) = acc s i 63 := by
  have h2 := up_lt s.bits (i - s.top)
  have h3 := acc_lt s i 63
  apply Nat.eq_of_testBit_eq
  intro k
  rcases Nat.lt_or_ge k 64 with hk | hk
  · rw [up_bit _ _ _ hk, acc_bit]
    by_cases h0 : k = 0
    · subst h0; simp
    · unfold has bit
      have e1 : decide (0 < k) = true := by simp; omega
      have e2 : decide (k ≤ 63) = true := by simp; omega
      rw [e1, e2]
      simp only [h0, decide_false, Bool.false_or, Bool.true_and]
      by_cases hd : i - s.top ≤ k
      · by_cases hki : k ≤ i
        · have a1 : decide (i - s.top ≤ k) = true := by simpa using hd
          have a2 : decide (k ≤ i) = true := by simpa using hki
          have a3 : decide (i - k ≤ s.top) = true := by simp; omega
          have a4 : decide (s.top - (i - k) < 64) = true := by simp; omega
          rw [a1, a2, a3, a4, show s.top - (i - k) = k - (i - s.top) by omega]
          simp only [Bool.true_and]
          congr 1
          rw [Bool.eq_iff_iff]
          simp only [decide_eq_true_eq, beq_iff_eq]
          omega
        · have a2 : decide (k ≤ i) = false := by simpa using hki
          rw [a2]
          simp only [Bool.false_and]
          rcases hc with hc | hc
          · omega
          · have : s.bits.testBit (k - (i - s.top)) = false := hc _ (by omega)
            rw [this]
            simp [show ¬ k = i - s.top by omega]
      · have a1 : decide (i - s.top ≤ k) = false := by simpa using hd
        rw [a1]
        by_cases hki : k ≤ i
        · have a3 : decide (i - k ≤ s.top) = false := by simp; omega
          rw [a3]; simp
        · have a2 : decide (k ≤ i) = false := by simpa using hki
          rw [a2]; simp
  · rw [Nat.testBit_lt_two_pow (Nat.lt_of_lt_of_le (show up s.bits (i - s.top) < 2 ^ 64 by simpa using h2) (Nat.pow_le_pow_right (by omega) hk)),
      Nat.testBit_lt_two_pow (Nat.lt_of_lt_of_le (show acc s i 63 < 2 ^ 64 from h3) (Nat.pow_le_pow_right (by omega) hk))]
theorem or_add {b k : Nat} (h : b.testBit k = false) : b ||| 2 ^ k = b + 2 ^ k := by
  have e : b = 2 ^ (k + 1) * (b / 2 ^ (k + 1)) + b % 2 ^ k := by
    have h1 := Nat.div_add_mod b (2 ^ (k + 1))
    have h2 : b % 2 ^ (k + 1) = b % 2 ^ k := by
      have h3 := Nat.mod_mul (a := 2 ^ k) (b := 2) (x := b)
      rw [← Nat.pow_succ] at h3
      rw [h3]
      have : b / 2 ^ k % 2 = 0 := by
        have := Nat.testBit_eq_decide_div_mod_eq (x := b) (i := k)
        rw [h] at this
        simp at this
        omega
      rw [this]; simp
    rw [h2] at h1
    exact h1.symm
  apply Nat.eq_of_testBit_eq
  intro j
  have hl : b % 2 ^ k < 2 ^ k := Nat.mod_lt _ (Nat.two_pow_pos k)
  have e2 : b + 2 ^ k = 2 ^ (k + 1) * (b / 2 ^ (k + 1)) + (2 ^ k * 1 + b % 2 ^ k) := by omega
  have hl2 : 2 ^ k * 1 + b % 2 ^ k < 2 ^ (k + 1) := by rw [Nat.pow_succ]; omega
  rw [Nat.testBit_or, Nat.testBit_two_pow, e2, Nat.testBit_two_pow_mul_add _ hl2]
  conv => lhs; rw [e, Nat.testBit_two_pow_mul_add _ (show b % 2 ^ k < 2 ^ (k + 1) by rw [Nat.pow_succ]; omega)]
  by_cases h1 : j < k + 1
  · rw [if_pos h1, if_pos h1, Nat.testBit_two_pow_mul_add 1 hl]
    by_cases h2 : j < k
    · rw [if_pos h2]; simp [show ¬ k = j by omega]
    · have : j = k := by omega
      subst this
      rw [if_neg h2, Nat.testBit_lt_two_pow hl]
      simp
  · rw [if_neg h1, if_neg h1]
    simp [show ¬ k = j by omega]
theorem mark_rmark {s : Sn} (e i : Nat) (hc : 64 ≤ s.top ∨ s.Clean) : s.mark e i = s.rmark e i := by
  unfold mark rmark
  by_cases h : s.fresh e i = 0
  · rw [if_pos h, if_pos h]
    by_cases h1 : s.any = false ∨ s.epoch < e
    · rw [if_pos h1, if_pos h1]
    · rw [if_neg h1, if_neg h1]
      have ha : s.any = true := by cases hs : s.any <;> simp_all
      have he : s.epoch = e := by
        rcases Nat.lt_or_ge e s.epoch with k | k
        · rw [fresh_old ha k] at h; cases h
        · have : ¬ s.epoch < e := fun k => h1 (.inr k)
          omega
      subst he
      by_cases hk : s.top < i
      · rw [if_pos hk, if_neg (by omega), up_acc hk hc]
      · have hm : ¬ 64 ≤ s.top - i := fun hm => by rw [fresh_out ha hm] at h; cases h
        cases hb : s.bit i
        · have hne : ¬ i = s.top := fun q => by unfold bit at hb; rw [q] at hb; simp at hb
          rw [if_neg hk, if_pos (by omega), or_add]
          unfold bit at hb
          simp only [Bool.or_eq_false_iff] at hb
          exact hb.2
        · rw [fresh_twice ha hk hm hb] at h; cases h
  · rw [if_neg h, if_neg h]
/-- but for the bits they are always the same -/
theorem mark_like (s : Sn) (e i : Nat) : (s.mark e i).any = (s.rmark e i).any ∧ (s.mark e i).epoch = (s.rmark e i).epoch ∧ (s.mark e i).top = (s.rmark e i).top := by
  unfold mark rmark
  by_cases h : s.fresh e i = 0
  · rw [if_pos h, if_pos h]
    by_cases h1 : s.any = false ∨ s.epoch < e
    · rw [if_pos h1, if_pos h1]; exact ⟨rfl, rfl, rfl⟩
    · rw [if_neg h1, if_neg h1]
      have ha : s.any = true := by cases hs : s.any <;> simp_all
      have he : s.epoch = e := by
        rcases Nat.lt_or_ge e s.epoch with k | k
        · rw [fresh_old ha k] at h; cases h
        · have : ¬ s.epoch < e := fun k => h1 (.inr k)
          omega
      subst he
      by_cases hk : s.top < i
      · rw [if_pos hk, if_neg (by omega)]; exact ⟨rfl, rfl, rfl⟩
      · by_cases hq : i = s.top
        · subst hq
          have := fresh_twice (s := s) (i := s.top) ha (by omega) (by omega) (by unfold bit; simp)
          rw [this] at h; cases h
        · rw [if_neg hk, if_pos (by omega)]; exact ⟨rfl, rfl, rfl⟩
  · rw [if_neg h, if_neg h]; exact ⟨rfl, rfl, rfl⟩
theorem clean_zero : zero.Clean := fun k _ => by simp [zero]
theorem clean_mark {s : Sn} (hc : s.Clean) (e i : Nat) : (s.mark e i).Clean := by
  by_cases h : s.fresh e i = 0
  · by_cases h1 : s.any = false ∨ s.epoch < e
    · rw [mark_new h1]
      intro k hk
      have := Nat.testBit_two_pow (n := 0) (m := k)
      simp only [Nat.pow_zero] at this
      simp only at hk ⊢
      rw [this]
      simp; omega
    · have ha : s.any = true := by cases hs : s.any <;> simp_all
      have he : s.epoch = e := by
        rcases Nat.lt_or_ge e s.epoch with k | k
        · rw [fresh_old ha k] at h; cases h
        · have : ¬ s.epoch < e := fun k => h1 (.inr k)
          omega
      subst he
      by_cases hk : s.top < i
      · rw [mark_up ha hk]
        intro k hk2
        simp only at hk2 ⊢
        rcases Nat.lt_or_ge k 64 with h64 | h64
        · rw [up_bit _ _ _ h64, hc (k - (i - s.top)) (by omega)]
          simp
          omega
        · exact Nat.testBit_lt_two_pow (Nat.lt_of_lt_of_le (show up s.bits (i - s.top) < 2 ^ 64 by simpa using up_lt s.bits (i - s.top)) (Nat.pow_le_pow_right (by omega) h64))
      · have hm : ¬ 64 ≤ s.top - i := fun hm => by rw [fresh_out ha hm] at h; cases h
        cases hb : s.bit i
        · rw [mark_gap ha hb hk hm]
          intro k hk2
          simp only at hk2 ⊢
          rw [Nat.testBit_or, hc k hk2, Nat.testBit_two_pow]
          simp; omega
        · rw [fresh_twice ha hk hm hb] at h; cases h
  · rw [mark_stays h]; exact hc
/-- one above all of the greatest epoch is fresh -/
theorem above (s : Sn) : s.fresh s.epoch (s.top + 1) = 0 := fresh_above (by omega)
end Sn
end Go.Proofs.Ytandkgdlcdoikaa
