/- Contracts of uvar.Put, uvar.Get. -/
import Derived.Test.YtpfeccbnkgnioaaDoorZig
import Derived.Test.YtpfeccbnkgnioaaDoorBytes
import Derived.OwnWalk
import Derived.Maps.AppendAt
import Derived.Outline
namespace Go.Proofs.YtpfeccbnkgnioaaDoor
open Go.RowKit
set_option linter.unusedVariables false

/-- what a loop that writes the groups of n behind xs has done, when ys of them stand there -/
structure Puts (base : Nat) (xs : List Nat) (n : Nat) (w : World) (ys : List Nat) (j m : Nat) (v : Value) (wr : World) : Prop where
  len : ys.length = j
  le : j ≤ 9
  fits : Um.fits (9 - j) m
  put : Um.put n = ys ++ Um.enc (9 - j) m
  own : wr.ownsRow base 5 1 v (xs.length + j) (ints .u8 (xs ++ ys))
  below : Below base w wr
  size : base ≤ wr.heap.size

section
variable {base : Nat} {xs : List Nat} {n : Nat} {w : World} {ys : List Nat} {j m : Nat} {v v' : Value} {wr w1 : World} {o : Obj}
theorem Puts.long (h : Puts base xs n w ys j m v wr) : (Um.put n).length = j + (Um.enc (9 - j) m).length := by rw [h.put, List.length_append, h.len]
theorem Puts.start (hn : n < 18446744073709551616) (ho : w.ownsRow base 5 1 v xs.length (ints .u8 xs)) (hb : base ≤ w.heap.size) : Puts base xs n w [] 0 n v w :=
  ⟨rfl, by omega, Um.fits9 hn, rfl, by simpa using ho, Below.refl _ _, hb⟩
theorem Puts.great (h : Puts base xs n w ys j m v wr) (hl : j + 1 < (Um.put n).length) : 128 ≤ m := by
  obtain ⟨_, _, h2⟩ := Um.enc_more (f := 9 - j) (n := m) (by have := h.long; omega)
  exact h2
theorem Puts.small (h : Puts base xs n w ys j m v wr) (hl : (Um.put n).length = j + 1) : m < 128 := (Um.enc_one h.fits (by have := h.long; omega)).1
theorem Puts.next (h : Puts base xs n w ys j m v wr) (hm : 128 ≤ m) {x : Int} (hx : x = (m : Int) % 128 + 128)
    (ho : w1.ownsRow base 5 1 v' (xs.length + j + 1) (ints .u8 (xs ++ ys) ++ [.int .u8 x])) (hg : (wr.alloc o).grownBy w1 v.ownBlock) : Puts base xs n w (ys ++ [m % 128 + 128]) (j + 1) (m / 128) v' w1 := by
  obtain ⟨h1, h2, h3, h4, h5, h6, h7⟩ := h
  have h9 : j < 9 := by
    rcases Nat.lt_or_ge j 9 with h | h
    · exact h
    · have : j = 9 := by omega
      subst this
      unfold Um.fits at h3; omega
  obtain ⟨f, hf⟩ : ∃ f, 9 - j = f + 1 := ⟨8 - j, by omega⟩
  have hf' : 9 - (j + 1) = f := by omega
  rw [hf] at h3 h4
  have ex : x = ((m % 128 + 128 : Nat) : Int) := by omega
  refine ⟨by simp [h1], by omega, ?_, ?_, ?_, ?_, ?_⟩
  · rw [hf']; exact Um.fits_div h3
  · rw [hf', List.append_assoc, h4, Um.enc_great hm]; rfl
  · rw [← List.append_assoc, ints_append]; rw [ex] at ho; exact ho
  · exact (h6.alloc h7 o).grown hg (by simp; omega) (fun k hk => (h5.lt k hk).1)
  · have := hg.size; simp at this; omega
theorem Puts.done (h : Puts base xs n w ys j m v wr) (hl : (Um.put n).length = j + 1) {x : Int} (hx : x = (m : Int))
    (ho : w1.ownsRow base 5 1 v' (xs.length + j + 1) (ints .u8 (xs ++ ys) ++ [.int .u8 x])) (hg : (wr.alloc o).grownBy w1 v.ownBlock) : Made .u8 5 base (xs ++ Um.put n) w (.returned v') w1 := by
  have hone : (Um.enc (9 - j) m).length = 1 := by have := h.long; omega
  obtain ⟨h1, h2, h3, h4, h5, h6, h7⟩ := h
  obtain ⟨_, e⟩ := Um.enc_one h3 hone
  subst hx
  refine ⟨v', rfl, ?_, ?_⟩
  · rw [h4, e, ← List.append_assoc, ints_append, List.length_append, List.length_append, h1]
    exact ho
  · exact (h6.alloc h7 o).grown hg (by simp; omega) (fun k hk => (h5.lt k hk).1)
end

end Go.Proofs.YtpfeccbnkgnioaaDoor
