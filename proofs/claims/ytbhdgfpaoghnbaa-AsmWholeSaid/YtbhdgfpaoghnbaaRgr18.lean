/- Contracts of layer 18's reference: Sum, Right, Bytes, Put, Same. -/
import Derived.Test.YtbhdgfpaoghnbaaGv
import Derived.Test.YtbhdgfpaoghnbaaCrc
import Derived.Test.YtbhdgfpaoghnbaaBuf
import Derived.Test.YtbhdgfpaoghnbaaPA
namespace Go.Proofs.Ytbhdgfpaoghnbaa
open Go.RowKit
set_option linter.unusedVariables false
set_option maxRecDepth 100000
set_option linter.unusedSimpArgs false

namespace Gr
theorem le_snoc : ∀ (k n : Nat), le (k + 1) n = le k n ++ [n / 256 ^ k % 256]
  | 0, n => by simp [le]
  | k + 1, n => by
    rw [le, le_snoc k (n / 256), le, List.cons_append, Nat.div_div_eq_div_mul, Nat.pow_succ, Nat.mul_comm (256 ^ k) 256]
def tails (g : Gd) : List Nat := Bm.fix 4 g.epoch ++ (Bm.fix 4 g.id ++ (Bm.fix 2 g.index ++ (Bm.fix 2 g.count ++ g.body)))
theorem front_eq {g : Gd} (ok : g.Ok) : front g = [167, 78, g.kind, g.version] ++ tails g := by
  unfold front mid tails
  have f1 : ∀ n, n < 256 → Bm.fix 1 n = [n] := fun n h => by simp [Bm.fix, Nat.mod_eq_of_lt h]
  rw [f1 _ ok.kind, f1 _ ok.version]
  rfl
end Gr
/-- what the loop of Sum has done -/
structure Sums (base S : Nat) (w : World) (j s : Nat) (v : Value) (wr : World) : Prop where
  num : s = S / 256 ^ j
  own : wr.ownsRow base 5 1 v j (ints .u8 (Gr.le j S))
  below : Below base w wr
  size : base ≤ wr.heap.size
set_option maxHeartbeats 1000000 in
theorem rsum18_any {w : World} {B : Nat} {v : Value} {l : List Nat} (h : Piece w B v l) (hb : ∀ x ∈ l, x < 256) :
    Calls Try.prog 23 #[v] w (Made .u8 5 w.heap.size (Gr.le 4 (Cm.sum l)) w) := by
  obtain ⟨A, c, rfl, hs, hn, hle, hm⟩ := h
  unfold maxLen at hm
  have C := Lib.hid (refSum_any B A l l.length c w rfl (by omega) hs hb)
  have hlt := Cm.sum_lt l hb
  obtain ⟨S, hS⟩ : ∃ S, Hid (Cm.sum l = S) := ⟨_, Lib.hid rfl⟩
  rw [hS.out] at C hlt ⊢
  obtain ⟨n, hn'⟩ : ∃ n, Hid (l.length = n) := ⟨_, Lib.hid rfl⟩
  rw [hn'.out] at C ⊢
  obtain ⟨base, hbase⟩ : ∃ base, Hid (w.heap.size = base) := ⟨_, Lib.hid rfl⟩
  have H0 : Hid (Sums base S w 0 S (.slice none 0 0) w) := Lib.hid ⟨by simp, World.ownsRow_nil w base 5 1, Below.refl _ _, by rw [hbase.out]; exact Nat.le_refl _⟩
  rw [hbase.out]
  clear hs hb hn hle
  go_enter Try.func23, Try.ntmps23
  go_wp2_with fail
  refine (C.out).mono ?_
  rintro e w1 ⟨rfl, rfl⟩
  go_wp2_with fail
  go_loopw [3, 4, 5] (fun s v i wr => ∃ (j a : Nat), i = .int .i64 j ∧ j ≤ 4 ∧ s = .int .u32 a ∧ a < 4294967296 ∧ Hid (Sums base S w j a v wr)) (fun _ _ i _ => 4 - (intOf i).toNat)
  case atStart => exact ⟨0, S, rfl, by omega, rfl, hlt, H0⟩
  case round =>
    obtain ⟨j, a, rfl, hj, rfl, ha, HP⟩ := hrel
    have hown := HP.out.own
    obtain ⟨Av, cv, rfl⟩ := own_shape hown
    have HO := Lib.hid hown
    have hbz := HP.out.size
    clear hown
    by_cases hlt : j < 4
    · go_wp2_with (at_builtin; refine wpList_append1 byteT _ _ rfl rfl base _ j (ints .u8 (Gr.le j S)) rfl rfl rfl HO.out (by omega) hbz ?_; intro v' w1 ho1 hg1)
      have hb1 : Below base w w1 := (HP.out.below.alloc hbz _).grown hg1 (by simp; omega) (fun k hk => (HO.out.lt k hk).1)
      have hz1 : base ≤ w1.heap.size := by have := hg1.size; simp at this; omega
      have HN : Hid (Sums base S w (j + 1) (a / 256) v' w1) := Lib.hid ⟨by rw [HP.out.num, Nat.pow_succ, Nat.div_div_eq_div_mul], by
        rw [Gr.le_snoc, ints_append, ← HP.out.num]
        have e : ((a : Int) % 256) = ((a % 256 : Nat) : Int) := by omega
        first
          | exact ho1
          | (rw [e] at ho1; exact ho1), hb1, hz1⟩
      clear ho1 hg1 hb1 hz1
      go_roundw
      case rel => exact ⟨j + 1, a / 256, by go_num, by omega, by go_num, by omega, HN⟩
      case measure => simp [intOf]; omega
    · go_wp2_with fail
      go_ret
      have h4 : j = 4 := by omega
      subst h4
      exact ⟨_, rfl, by rw [Gr.le_length]; exact HO.out, HP.out.below⟩

set_option maxHeartbeats 1000000 in
theorem rright18_any {w : World} {B : Nat} {g : Gd} {v : Value} (H : Gv w B g v) :
    Calls Try.prog 27 #[v] w fun e w' => e = .returned (.int .i64 (Gr.right g : Int)) ∧ Below w.heap.size w w' := by
  obtain ⟨b, A, c, w1, rfl, hb, hal, hsz, hx, hb1⟩ := boxedG H
  have HB : Hid (Below w.heap.size w w1) := Lib.hid (by rw [hb]; exact hb1)
  have HBb := Lib.hid hb1
  have ok := H.ok
  obtain ⟨k0, k1, k2, k3, k4, k5, k6⟩ := hx.cells
  have q1 := ok.kind
  have q5 := ok.index
  have q6 := ok.count
  have e9 := Lib.hid (fun h => Gr.right_kind (g := g) h)
  have e1 := Lib.hid (fun h k => Gr.right_arg (g := g) h k)
  have e5 := Lib.hid (fun h k l => Gr.right_long (g := g) h k l)
  have e0 := Lib.hid (fun h k l => Gr.right_good (g := g) h k l)
  obtain ⟨n, hn⟩ : ∃ n, Hid (g.body.length = n) := ⟨_, Lib.hid rfl⟩
  rw [hn.out] at hal k6 e5 e0 ⊢
  clear hx hb1 H hsz ok
  by_cases h1 : g.kind < 1
  · rw [e9.out (.inl h1)]
    go_enter Try.func27, Try.ntmps27
    go_wp2_with fail
    go_ret
    first | exact ⟨rfl, HB.out⟩ | exact ⟨rfl, HBb.out⟩
  by_cases h2 : 2 < g.kind
  · rw [e9.out (.inr h2)]
    go_enter Try.func27, Try.ntmps27
    go_wp2_with fail
    go_ret
    first | exact ⟨rfl, HB.out⟩ | exact ⟨rfl, HBb.out⟩
  have hk : ¬ (g.kind < 1 ∨ 2 < g.kind) := by omega
  by_cases h3 : g.count = 0
  · rw [e1.out hk (.inl h3)]
    rw [h3, show ((0 : Nat) : Int) = 0 from rfl] at hal k5
    go_enter Try.func27, Try.ntmps27
    go_wp2_with fail
    go_ret
    first | exact ⟨rfl, HB.out⟩ | exact ⟨rfl, HBb.out⟩
  have h3' : ((g.count : Int) == 0) = false := by simp; omega
  by_cases h4 : g.count ≤ g.index
  · rw [e1.out hk (.inr h4)]
    go_enter Try.func27, Try.ntmps27
    go_wp2_with fail
    go_ret
    first | exact ⟨rfl, HB.out⟩ | exact ⟨rfl, HBb.out⟩
  have hc : ¬ (g.count = 0 ∨ g.count ≤ g.index) := by omega
  by_cases h5 : 65487 < n
  · rw [e5.out hk hc h5]
    go_enter Try.func27, Try.ntmps27
    go_wp2_with fail
    go_ret
    first | exact ⟨rfl, HB.out⟩ | exact ⟨rfl, HBb.out⟩
  · rw [e0.out hk hc h5]
    go_enter Try.func27, Try.ntmps27
    go_wp2_with fail
    go_ret
    first | exact ⟨rfl, HB.out⟩ | exact ⟨rfl, HBb.out⟩
end Go.Proofs.Ytbhdgfpaoghnbaa
