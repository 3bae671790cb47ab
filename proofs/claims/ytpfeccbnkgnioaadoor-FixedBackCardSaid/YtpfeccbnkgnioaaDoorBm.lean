/- Plain mathematics for layer 6: numbers in a fixed count of bytes, and what a reader of bytes answers. No program. -/
import Derived.Test.YtpfeccbnkgnioaaDoorUm
namespace Go.Proofs.YtpfeccbnkgnioaaDoor.Bm

/-- the s lowest bytes of n, the greatest first -/
def fix : Nat → Nat → List Nat
  | 0, _ => []
  | s + 1, n => fix s (n / 256) ++ [n % 256]
theorem fix_length : ∀ (s n : Nat), (fix s n).length = s
  | 0, _ => rfl
  | s + 1, n => by simp [fix, fix_length s]
theorem fix_byte : ∀ (s n : Nat), ∀ x ∈ fix s n, x < 256
  | 0, _, x, h => by simp [fix] at h
  | s + 1, n, x, h => by
    simp only [fix, List.mem_append, List.mem_singleton] at h
    rcases h with h | h
    · exact fix_byte s _ x h
    · omega
theorem fix_front : ∀ (s n : Nat), fix (s + 1) n = (n / 256 ^ s % 256) :: fix s n
  | 0, n => by simp [fix]
  | s + 1, n => by
    rw [fix, fix_front s (n / 256), Nat.div_div_eq_div_mul, Nat.pow_succ, Nat.mul_comm (256 ^ s) 256]
    rfl
theorem fix_get : ∀ (s n i : Nat), i < s → (fix s n).getD i 0 = n / 256 ^ (s - 1 - i) % 256
  | 0, _, i, h => by omega
  | s + 1, n, 0, _ => by rw [fix_front]; simp
  | s + 1, n, i + 1, h => by
    rw [fix_front]
    have ih := fix_get s n i (by omega)
    rw [show s + 1 - 1 - (i + 1) = s - 1 - i by omega, ← ih]
    simp [List.getD]
/-- the same for any size: none outside 1 to 8 -/
def fixI (n : Nat) (s : Int) : List Nat := if 1 ≤ s ∧ s ≤ 8 then fix s.toNat n else []
theorem fixI_good {n k : Nat} (h1 : 1 ≤ k) (h8 : k ≤ 8) : fixI n (k : Int) = fix k n := by unfold fixI; rw [if_pos (by omega), Int.toNat_natCast]
theorem fixI_bad {n : Nat} {s : Int} (h : s < 1 ∨ 8 < s) : fixI n s = [] := if_neg (by omega)
theorem fixI_le (n : Nat) (s : Int) : (fixI n s).length ≤ 8 := by
  unfold fixI
  split
  · rw [fix_length]; omega
  · simp
theorem fixI_byte (n : Nat) (s : Int) : ∀ x ∈ fixI n s, x < 256 := by
  unfold fixI
  split
  · exact fix_byte _ _
  · simp
/-- the number that bytes are, the greatest first -/
def be (l : List Nat) : Nat := l.foldl (fun a x => a * 256 + x) 0
theorem be_snoc (l : List Nat) (x : Nat) : be (l ++ [x]) = be l * 256 + x := by simp [be]
theorem be_fix : ∀ (s n : Nat), be (fix s n) = n % 256 ^ s
  | 0, n => by simp [fix, be, Nat.mod_one]
  | s + 1, n => by
    rw [fix, be_snoc, be_fix s, Nat.pow_succ, Nat.mul_comm (256 ^ s) 256, Nat.mod_mul]
    omega
theorem be_take (l : List Nat) (hb : ∀ x ∈ l, x < 256) : ∀ i, i ≤ l.length → be (l.take i) < 256 ^ i
  | 0, _ => by simp [be]
  | i + 1, h => by
    have ih := be_take l hb i (by omega)
    have hx := hb l[i] (List.getElem_mem (by omega))
    rw [List.take_succ_eq_append_getElem (by omega), be_snoc, Nat.pow_succ]
    omega
theorem be_next (l : List Nat) (i : Nat) (h : i < l.length) : be (l.take (i + 1)) = be (l.take i) * 256 + l.getD i 0 := by
  rw [List.take_succ_eq_append_getElem h, be_snoc]
  simp [List.getD, List.getElem?_eq_getElem h]
theorem pow7 {i : Nat} (h : i ≤ 7) : 256 ^ i ≤ 256 ^ 7 := Nat.pow_le_pow_right (by omega) h
theorem pow8 {i : Nat} (h : i ≤ 8) : 256 ^ i ≤ 256 ^ 8 := Nat.pow_le_pow_right (by omega) h

/-! ### what a reader answers: the bytes that are left, the error, then the answer, what is left, the error -/

def take (l : List Nat) (e n : Int) : List Nat × List Nat × Int :=
  if e ≠ 0 then ([], l, e) else if n < 0 then ([], l, 1) else if (l.length : Int) < n then ([], l, 2) else (l.take n.toNat, l.drop n.toNat, 0)
def rfix (l : List Nat) (e s : Int) : Nat × List Nat × Int :=
  if e ≠ 0 then (0, l, e) else if s < 1 ∨ 8 < s then (0, l, 1) else if (l.length : Int) < s then (0, l, 2) else (be (l.take s.toNat), l.drop s.toNat, 0)
def uvar (l : List Nat) (e : Int) (most : Nat) : Nat × List Nat × Int :=
  if e ≠ 0 then (0, l, e) else if (Um.get l).2.2 ≠ 0 then (0, l, ((Um.get l).2.2 : Int)) else if most < (Um.get l).1 then (0, l, 5) else ((Um.get l).1, l.drop (Um.get l).2.1, 0)
def flag (l : List Nat) (e : Int) : Bool × List Nat × Int :=
  if e ≠ 0 then (false, l, e) else if l.length = 0 then (false, l, 2) else if 1 < l.getD 0 0 then (false, l, 3) else (l.getD 0 0 == 1, l.drop 1, 0)
def text (l : List Nat) (e most : Int) : List Nat × List Nat × Int :=
  if e ≠ 0 then ([], l, e) else if (Um.get l).2.2 ≠ 0 then ([], l, ((Um.get l).2.2 : Int)) else if most < ((Um.get l).1 : Int) then ([], l, 5)
  else if l.length - (Um.get l).2.1 < (Um.get l).1 then ([], l, 2) else ((l.drop (Um.get l).2.1).take (Um.get l).1, (l.drop (Um.get l).2.1).drop (Um.get l).1, 0)
def left (l : List Nat) (e : Int) : Nat := if e ≠ 0 then 0 else l.length
def fail (e x : Int) : Int := if e ≠ 0 then e else x
def fin (l : List Nat) (e : Int) : Int := if e ≠ 0 then e else if 0 < l.length then 4 else 0

section
variable {l : List Nat} {e n s most : Int} {m : Nat}
theorem take_err (he : e ≠ 0) : take l e n = ([], l, e) := if_pos he
theorem take_neg (hn : n < 0) : take l 0 n = ([], l, 1) := by simp [take, hn]
theorem take_short (hn : (l.length : Int) < n) : take l 0 n = ([], l, 2) := by
  have : ¬ n < 0 := by omega
  simp [take, hn, this]
theorem take_good {k : Nat} (hk : k ≤ l.length) : take l 0 (k : Int) = (l.take k, l.drop k, 0) := by
  have h1 : ¬ (k : Int) < 0 := by omega
  have h2 : ¬ (l.length : Int) < (k : Int) := by omega
  simp [take, h1, h2]
theorem take_small (l : List Nat) (e n : Int) : (take l e n).1.length ≤ l.length ∧ (take l e n).2.1.length ≤ l.length := by
  unfold take
  split
  · simp
  · split
    · simp
    · split
      · simp
      · simp; omega
theorem rfix_small (l : List Nat) (e n : Int) : (rfix l e n).2.1.length ≤ l.length := by
  unfold rfix
  repeat' split
  all_goals simp
theorem uvar_small (l : List Nat) (e : Int) (m : Nat) : (uvar l e m).2.1.length ≤ l.length := by
  unfold uvar
  repeat' split
  all_goals simp
theorem flag_small (l : List Nat) (e : Int) : (flag l e).2.1.length ≤ l.length := by
  unfold flag
  repeat' split
  all_goals simp
theorem text_small (l : List Nat) (e m : Int) : (text l e m).1.length ≤ l.length ∧ (text l e m).2.1.length ≤ l.length := by
  unfold text
  repeat' split
  all_goals simp
  all_goals omega
theorem rfix_err (he : e ≠ 0) : rfix l e s = (0, l, e) := if_pos he
theorem rfix_arg (hs : s < 1 ∨ 8 < s) : rfix l 0 s = (0, l, 1) := by simp [rfix, hs]
theorem rfix_short {k : Nat} (h1 : 1 ≤ k) (h8 : k ≤ 8) (hl : l.length < k) : rfix l 0 (k : Int) = (0, l, 2) := by
  have h2 : ¬ ((k : Int) < 1 ∨ 8 < (k : Int)) := by omega
  have h3 : (l.length : Int) < (k : Int) := by omega
  simp [rfix, h2, h3]
theorem rfix_good {k : Nat} (h1 : 1 ≤ k) (h8 : k ≤ 8) (hl : k ≤ l.length) : rfix l 0 (k : Int) = (be (l.take k), l.drop k, 0) := by
  have h2 : ¬ ((k : Int) < 1 ∨ 8 < (k : Int)) := by omega
  have h3 : ¬ (l.length : Int) < (k : Int) := by omega
  simp [rfix, h2, h3]
theorem uvar_err (he : e ≠ 0) : uvar l e m = (0, l, e) := if_pos he
theorem uvar_get {q u x : Nat} (hg : Um.get l = (q, u, x)) (hx : x ≠ 0) : uvar l 0 m = (0, l, (x : Int)) := by simp [uvar, hg, hx]
theorem uvar_long {q u : Nat} (hg : Um.get l = (q, u, 0)) (hx : m < q) : uvar l 0 m = (0, l, 5) := by simp [uvar, hg, hx]
theorem uvar_good {q u : Nat} (hg : Um.get l = (q, u, 0)) (hx : ¬ m < q) : uvar l 0 m = (q, l.drop u, 0) := by simp [uvar, hg, hx]
theorem flag_err (he : e ≠ 0) : flag l e = (false, l, e) := if_pos he
theorem flag_short (h : l.length = 0) : flag l 0 = (false, l, 2) := by simp only [flag, h]; rfl
theorem flag_form (h : l.length ≠ 0) (hx : 1 < l.getD 0 0) : flag l 0 = (false, l, 3) := by simp only [flag, h, if_pos hx]; rfl
theorem flag_good (h : l.length ≠ 0) (hx : ¬ 1 < l.getD 0 0) : flag l 0 = (l.getD 0 0 == 1, l.drop 1, 0) := by simp only [flag, h, if_neg hx]; rfl
theorem text_err (he : e ≠ 0) : text l e most = ([], l, e) := if_pos he
theorem text_get {q u x : Nat} (hg : Um.get l = (q, u, x)) (hx : x ≠ 0) : text l 0 most = ([], l, (x : Int)) := by simp [text, hg, hx]
theorem text_long {q u : Nat} (hg : Um.get l = (q, u, 0)) (hx : most < (q : Int)) : text l 0 most = ([], l, 5) := by simp [text, hg, hx]
theorem text_short {q u : Nat} (hg : Um.get l = (q, u, 0)) (hx : ¬ most < (q : Int)) (hs : l.length - u < q) : text l 0 most = ([], l, 2) := by simp [text, hg, hx, hs]
theorem text_good {q u : Nat} (hg : Um.get l = (q, u, 0)) (hx : ¬ most < (q : Int)) (hs : ¬ l.length - u < q) : text l 0 most = ((l.drop u).take q, (l.drop u).drop q, 0) := by
  simp only [text, hg]
  rw [if_neg (by simp), if_neg (by simp), if_neg hx, if_neg hs]
theorem left_err (he : e ≠ 0) : left l e = 0 := if_pos he
theorem left_ok : left l 0 = l.length := rfl
theorem fail_err {x : Int} (he : e ≠ 0) : fail e x = e := if_pos he
theorem fail_ok {x : Int} : fail 0 x = x := rfl
theorem fin_err (he : e ≠ 0) : fin l e = e := if_pos he
theorem fin_more (h : 0 < l.length) : fin l 0 = 4 := by simp [fin, h]
theorem fin_ok (h : l.length = 0) : fin l 0 = 0 := by simp [fin, h]

theorem text_put (p rest : List Nat) (hp : p.length < 18446744073709551616) (h : (p.length : Int) ≤ most) : text (Um.put p.length ++ p ++ rest) 0 most = (p, rest, 0) := by
  have hg := Um.get_put p.length (p ++ rest) hp
  rw [← List.append_assoc] at hg
  have e1 : (Um.put p.length ++ p ++ rest).drop (Um.put p.length).length = p ++ rest := by rw [List.append_assoc]; exact List.drop_left
  rw [text_good hg (by omega) (by simp only [List.length_append]; omega), e1, List.take_left, List.drop_left]
theorem rfix_put (n k : Nat) (rest : List Nat) (h1 : 1 ≤ k) (h8 : k ≤ 8) : rfix (fix k n ++ rest) 0 (k : Int) = (n % 256 ^ k, rest, 0) := by
  rw [rfix_good h1 h8 (by rw [List.length_append, fix_length]; omega), List.take_left' (fix_length k n), List.drop_left' (fix_length k n), be_fix]
/-- two numbers that agree in their i lowest bytes, moved up by one -/
theorem move_up {N M i : Nat} (hi : i ≤ 7) (h : N % 256 ^ i = M % 256 ^ i) : N * 256 % 18446744073709551616 % 256 ^ (i + 1) = M * 256 % 18446744073709551616 % 256 ^ (i + 1) := by
  have hd : 256 ^ (i + 1) ∣ 18446744073709551616 := by
    rw [show (18446744073709551616 : Nat) = 256 ^ 8 by decide]
    exact Nat.pow_dvd_pow 256 (by omega)
  rw [Nat.mod_mod_of_dvd _ hd, Nat.mod_mod_of_dvd _ hd, Nat.pow_succ, Nat.mul_mod_mul_right, Nat.mul_mod_mul_right, h]
/-- what a deed makes of the bytes that are left and of the error -/
def next (k N : Int) (U : Nat) (l : List Nat) (e : Int) : List Nat × Int :=
  if k = 0 then (rfix l e N).2 else if k = 1 then (uvar l e U).2 else if k = 2 then (flag l e).2 else if k = 3 then (take l e N).2 else if k = 4 then (text l e N).2 else if k = 6 then (l, fail e N) else (l, e)
theorem next0 {N : Int} {U : Nat} : next 0 N U l e = (rfix l e N).2 := rfl
theorem next1 {N : Int} {U : Nat} : next 1 N U l e = (uvar l e U).2 := rfl
theorem next2 {N : Int} {U : Nat} : next 2 N U l e = (flag l e).2 := rfl
theorem next3 {N : Int} {U : Nat} : next 3 N U l e = (take l e N).2 := rfl
theorem next4 {N : Int} {U : Nat} : next 4 N U l e = (text l e N).2 := rfl
theorem next6 {N : Int} {U : Nat} : next 6 N U l e = (l, fail e N) := rfl
theorem next5 {k N : Int} {U : Nat} (h : k ≠ 0 ∧ k ≠ 1 ∧ k ≠ 2 ∧ k ≠ 3 ∧ k ≠ 4 ∧ k ≠ 6) : next k N U l e = (l, e) := by
  obtain ⟨h0, h1, h2, h3, h4, h6⟩ := h
  unfold next
  rw [if_neg h0, if_neg h1, if_neg h2, if_neg h3, if_neg h4, if_neg h6]
theorem next_small (k N : Int) (U : Nat) (l : List Nat) (e : Int) : (next k N U l e).1.length ≤ l.length := by
  unfold next
  split
  · exact rfix_small l e N
  · split
    · exact uvar_small l e U
    · split
      · exact flag_small l e
      · split
        · exact (take_small l e N).2
        · split
          · exact (text_small l e N).2
          · split
            · exact Nat.le_refl _
            · exact Nat.le_refl _
end
end Go.Proofs.YtpfeccbnkgnioaaDoor.Bm
