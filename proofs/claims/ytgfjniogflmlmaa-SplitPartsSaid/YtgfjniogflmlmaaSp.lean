/- Plain mathematics of layer 19: a body in parts. -/
import Derived.Test.YtgfjniogflmlmaaPG
namespace Go.Proofs.Ytgfjniogflmlmaa
set_option linter.unusedVariables false
set_option linter.unusedSimpArgs false
namespace Sp
def room (m : Int) : Nat := if 32 ≤ m ∧ m ≤ 65507 then (m - 20).toNat else 0
theorem room_in {m : Int} (h : 32 ≤ m) (k : m ≤ 65507) : room m = (m - 20).toNat := if_pos ⟨h, k⟩
theorem room_out {m : Int} (h : ¬ (32 ≤ m ∧ m ≤ 65507)) : room m = 0 := if_neg h
theorem room_le (m : Int) : room m ≤ 65487 := by unfold room; split <;> omega
theorem room_mtu {m : Int} (h : ¬ room m = 0) : 12 ≤ room m ∧ ((room m : Nat) : Int) + 20 = m := by
  unfold room at h ⊢
  split at h
  · rename_i k; rw [if_pos k]; omega
  · exact absurd rfl h
/-- how many parts of r bytes n bytes make -/
def many (r n : Nat) : Nat := if 0 < n % r ∨ n / r = 0 then n / r + 1 else n / r
theorem many_pos (r n : Nat) : 0 < many r n := by
  unfold many
  split
  · exact Nat.succ_pos _
  · rename_i h
    exact Nat.pos_of_ne_zero (fun e => h (.inr e))
theorem many_all {r : Nat} (hr : 0 < r) (n : Nat) : n ≤ many r n * r := by
  have h := Nat.div_add_mod n r
  have h2 := Nat.mod_lt n hr
  have h3 : r * (n / r) = n / r * r := Nat.mul_comm _ _
  unfold many
  split
  · rw [Nat.add_mul]; omega
  · omega
theorem many_in {r : Nat} (hr : 0 < r) {n i : Nat} (h : i < many r n) : i * r ≤ n := by
  have e := Nat.div_add_mod n r
  have h3 : r * (n / r) = n / r * r := Nat.mul_comm _ _
  have h4 : i ≤ n / r := by
    unfold many at h
    split at h <;> omega
  have h5 := Nat.mul_le_mul_right r h4
  omega
def count (m n : Int) : Nat × Nat := if room m = 0 ∨ n < 0 then (0, 1) else if 65535 < many (room m) n.toNat then (0, 5) else (many (room m) n.toNat, 0)
theorem count_arg {m n : Int} (h : room m = 0 ∨ n < 0) : count m n = (0, 1) := if_pos h
theorem count_long {m n : Int} (h : ¬ (room m = 0 ∨ n < 0)) (k : 65535 < many (room m) n.toNat) : count m n = (0, 5) := by unfold count; rw [if_neg h, if_pos k]
theorem count_good {m n : Int} (h : ¬ (room m = 0 ∨ n < 0)) (k : ¬ 65535 < many (room m) n.toNat) : count m n = (many (room m) n.toNat, 0) := by unfold count; rw [if_neg h, if_neg k]
theorem count_ok {m : Int} {n : Nat} (h : (count m n).2 = 0) : 0 < room m ∧ (count m n).1 = many (room m) n ∧ many (room m) n ≤ 65535 := by
  by_cases h1 : room m = 0 ∨ (n : Int) < 0
  · rw [count_arg h1] at h; cases h
  · by_cases h2 : 65535 < many (room m) (n : Int).toNat
    · rw [count_long h1 h2] at h; cases h
    · rw [count_good h1 h2]
      simp only [Int.toNat_natCast] at h2 ⊢
      exact ⟨by omega, trivial, by omega⟩
/-- part i of k, each of r bytes -/
def part (g : Gd) (r k i : Nat) : Gd := ⟨g.kind, g.version, g.epoch, g.id, i, k, (g.body.drop (i * r)).take r⟩
theorem part_ok {g : Gd} (ok : g.Ok) {r k i : Nat} (hk : k ≤ 65535) (hi : i < k) : (part g r k i).Ok := by
  obtain ⟨h1, h2, h3, h4, h5, h6, h7⟩ := ok
  exact ⟨h1, h2, h3, h4, by show i < _; omega, by show k < _; omega, fun x hx => h7 x (List.mem_of_mem_drop (List.mem_of_mem_take hx))⟩
theorem part_len (g : Gd) (r k i : Nat) : (part g r k i).body.length = min r (g.body.length - i * r) := by
  show ((g.body.drop (i * r)).take r).length = _
  rw [List.length_take, List.length_drop]
theorem part_right {g : Gd} (hg : ¬ (g.kind < 1 ∨ 2 < g.kind)) {r k i : Nat} (hr : r ≤ 65487) (hi : i < k) : Gr.right (part g r k i) = 0 := by
  refine Gr.right_good hg (fun h => ?_) (fun h => ?_)
  · have : k = 0 ∨ k ≤ i := h
    omega
  · rw [part_len] at h; omega
/-- the parts ahead of part j, as bytes -/
def ahead (g : Gd) (r k j : Nat) : List (List Nat) := (List.range j).map fun i => Gr.bytes (part g r k i)
theorem ahead_zero (g : Gd) (r k : Nat) : ahead g r k 0 = [] := rfl
theorem ahead_succ (g : Gd) (r k j : Nat) : ahead g r k (j + 1) = ahead g r k j ++ [Gr.bytes (part g r k j)] := by unfold ahead; rw [List.range_succ, List.map_append]; rfl
theorem ahead_length (g : Gd) (r k j : Nat) : (ahead g r k j).length = j := by simp [ahead]
theorem ahead_get (g : Gd) (r k : Nat) {j i : Nat} (h : i < (ahead g r k j).length) : (ahead g r k j)[i] = Gr.bytes (part g r k i) := by simp [ahead]
/-- the bodies of the parts ahead of part j -/
theorem body_succ (g : Gd) (r k j : Nat) : g.body.take ((j + 1) * r) = g.body.take (j * r) ++ (part g r k j).body := by
  show _ = _ ++ (g.body.drop (j * r)).take r
  rw [Nat.add_mul, Nat.one_mul, List.take_add]
def split (m : Int) (g : Gd) : List (List Nat) × Nat :=
  if (count m g.body.length).2 = 0 then (if g.kind < 1 ∨ 2 < g.kind then ([], 9) else (ahead g (room m) (count m g.body.length).1 (count m g.body.length).1, 0)) else ([], (count m g.body.length).2)
theorem split_bad {m : Int} {g : Gd} (h : ¬ (count m g.body.length).2 = 0) : split m g = ([], (count m g.body.length).2) := if_neg h
theorem split_kind {m : Int} {g : Gd} (h : (count m g.body.length).2 = 0) (k : g.kind < 1 ∨ 2 < g.kind) : split m g = ([], 9) := by unfold split; rw [if_pos h, if_pos k]
theorem split_good {m : Int} {g : Gd} (h : (count m g.body.length).2 = 0) (k : ¬ (g.kind < 1 ∨ 2 < g.kind)) : split m g = (ahead g (room m) (count m g.body.length).1 (count m g.body.length).1, 0) := by unfold split; rw [if_pos h, if_neg k]
theorem split_byte {m : Int} {g : Gd} (ok : g.Ok) : ∀ l ∈ (split m g).1, ∀ x ∈ l, x < 256 := by
  by_cases h : (count m g.body.length).2 = 0
  · by_cases k : g.kind < 1 ∨ 2 < g.kind
    · rw [split_kind h k]; intro l hl; cases hl
    · rw [split_good h k]
      obtain ⟨h1, h2, h3⟩ := count_ok h
      intro l hl
      simp only [ahead, List.mem_map, List.mem_range] at hl
      obtain ⟨i, hi, rfl⟩ := hl
      exact Gr.bytes_byte (part_ok ok (by omega) hi)
  · rw [split_bad h]; intro l hl; cases hl
theorem split_none {m : Int} {g : Gd} (h : ¬ (split m g).2 = 0) : (split m g).1 = [] := by
  by_cases h1 : (count m g.body.length).2 = 0
  · by_cases k : g.kind < 1 ∨ 2 < g.kind
    · rw [split_kind h1 k]
    · rw [split_good h1 k] at h; exact absurd rfl h
  · rw [split_bad h1]
theorem split_some {m : Int} {g : Gd} (h : (split m g).2 = 0) : ∃ r k : Nat, 0 < k ∧ k ≤ 65535 ∧ (split m g).1 = ahead g r k k ∧ ¬ (g.kind < 1 ∨ 2 < g.kind) ∧ (r : Int) + 20 = m ∧ 0 < r ∧ r ≤ 65487 ∧ g.body.length ≤ k * r := by
  by_cases h1 : (count m g.body.length).2 = 0
  · by_cases k : g.kind < 1 ∨ 2 < g.kind
    · rw [split_kind h1 k] at h; cases h
    · obtain ⟨e1, e2, e3⟩ := count_ok h1
      rw [split_good h1 k]
      refine ⟨room m, (count m g.body.length).1, ?_, ?_, rfl, k, ?_, e1, room_le m, ?_⟩
      · rw [e2]; exact many_pos _ _
      · rw [e2]; exact e3
      · exact (room_mtu (by omega)).2
      · rw [e2]; exact many_all e1 _
  · rw [split_bad h1] at h; exact absurd h h1
end Sp
end Go.Proofs.Ytgfjniogflmlmaa
