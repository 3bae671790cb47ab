/- Contract of layer 22's reference: New. -/
import Derived.Test.YtkpmlhhoijijhaaRt22b
namespace Go.Proofs.Ytkpmlhhoijijhaa
open Go.RowKit
set_option linter.unusedVariables false
set_option maxRecDepth 100000
set_option linter.unusedSimpArgs false

theorem rnew22_bad (a b c : Int) (wa : -9223372036854775808 ≤ a ∧ a ≤ 9223372036854775807) (wb : -9223372036854775808 ≤ b ∧ b ≤ 9223372036854775807) (wc : -9223372036854775808 ≤ c ∧ c ≤ 9223372036854775807) (hbad : a < 1 ∨ 16 < a ∨ b < 1 ∨ 65536 < b ∨ c < 1 ∨ 32 < c) (w : World) :
    Calls Try.prog 8 #[.agg #[.int .i64 a, .int .i64 b, .int .i64 c]] w fun e w' => e = .returned (.tuple #[.pointer none, .int .i64 1]) ∧ Below w.heap.size w w' := by
  have HB : Hid (Below w.heap.size w (w.alloc (.cells #[.int .i64 a, .int .i64 b, .int .i64 c] 23))) := Lib.hid ((Below.refl _ _).alloc (Nat.le_refl _) _)
  by_cases h0 : a < 1
  · have f0 : decide (a < 1) = true := decide_eq_true h0
    go_enter Try.func8, Try.ntmps8
    go_wp2_with fail
    go_ret2
    exact ⟨rfl, HB.out⟩
  by_cases h1 : 16 < a
  · have f0 : decide (a < 1) = false := decide_eq_false h0
    have f1 : decide (16 < a) = true := decide_eq_true h1
    go_enter Try.func8, Try.ntmps8
    go_wp2_with fail
    go_ret2
    exact ⟨rfl, HB.out⟩
  by_cases h2 : b < 1
  · have f0 : decide (a < 1) = false := decide_eq_false h0
    have f1 : decide (16 < a) = false := decide_eq_false h1
    have f2 : decide (b < 1) = true := decide_eq_true h2
    go_enter Try.func8, Try.ntmps8
    go_wp2_with fail
    go_ret2
    exact ⟨rfl, HB.out⟩
  by_cases h3 : 65536 < b
  · have f0 : decide (a < 1) = false := decide_eq_false h0
    have f1 : decide (16 < a) = false := decide_eq_false h1
    have f2 : decide (b < 1) = false := decide_eq_false h2
    have f3 : decide (65536 < b) = true := decide_eq_true h3
    go_enter Try.func8, Try.ntmps8
    go_wp2_with fail
    go_ret2
    exact ⟨rfl, HB.out⟩
  by_cases h4 : c < 1
  · have f0 : decide (a < 1) = false := decide_eq_false h0
    have f1 : decide (16 < a) = false := decide_eq_false h1
    have f2 : decide (b < 1) = false := decide_eq_false h2
    have f3 : decide (65536 < b) = false := decide_eq_false h3
    have f4 : decide (c < 1) = true := decide_eq_true h4
    go_enter Try.func8, Try.ntmps8
    go_wp2_with fail
    go_ret2
    exact ⟨rfl, HB.out⟩
  by_cases h5 : 32 < c
  · have f0 : decide (a < 1) = false := decide_eq_false h0
    have f1 : decide (16 < a) = false := decide_eq_false h1
    have f2 : decide (b < 1) = false := decide_eq_false h2
    have f3 : decide (65536 < b) = false := decide_eq_false h3
    have f4 : decide (c < 1) = false := decide_eq_false h4
    have f5 : decide (32 < c) = true := decide_eq_true h5
    go_enter Try.func8, Try.ntmps8
    go_wp2_with fail
    go_ret2
    exact ⟨rfl, HB.out⟩
  omega
theorem rnew22_any (m : Tm.Lim) (hm : m.Ok) (w : World) :
    Calls Try.prog 8 #[.agg #[.int .i64 (m.op : Int), .int .i64 (m.by_ : Int), .int .i64 (m.ex : Int)]] w fun e w' => ∃ h, e = .returned (.tuple #[.pointer (some ⟨h, 0, none⟩), .int .i64 0]) ∧ Rt w' (fun b => w.heap.size ≤ b ∧ b < w'.heap.size) h m [] ∧ Below w.heap.size w w' := by
  obtain ⟨a, ha⟩ : ∃ a, Hid (m.op = a) := ⟨_, Lib.hid rfl⟩
  obtain ⟨b, hb⟩ : ∃ b, Hid (m.by_ = b) := ⟨_, Lib.hid rfl⟩
  obtain ⟨c, hc⟩ : ∃ c, Hid (m.ex = c) := ⟨_, Lib.hid rfl⟩
  obtain ⟨k1, k2, k3, k4, k5, k6⟩ := hm
  obtain ⟨W, hW⟩ : ∃ W, w.alloc (.cells #[.int .i64 (m.op : Int), .int .i64 (m.by_ : Int), .int .i64 (m.ex : Int)] 23) = W := ⟨_, rfl⟩
  have hz : W.heap.size = w.heap.size + 1 := by rw [← hW]; simp
  have HB : Hid (Below w.heap.size w W) := Lib.hid (by rw [← hW]; exact (Below.refl _ _).alloc (Nat.le_refl _) _)
  have HX : Hid (Whole (W.alloc (.cells #[.int .i64 (m.op : Int), .int .i64 (m.by_ : Int), .int .i64 (m.ex : Int), .slice none 0 0] 48)) W.heap.size 48 #[.int .i64 (m.op : Int), .int .i64 (m.by_ : Int), .int .i64 (m.ex : Int), .slice none 0 0]) := Lib.hid (Whole.made _ _ _)
  have HF : Hid (Rt (W.alloc (.cells #[.int .i64 (m.op : Int), .int .i64 (m.by_ : Int), .int .i64 (m.ex : Int), .slice none 0 0] 48)) (fun b => w.heap.size ≤ b ∧ b < (W.alloc (.cells #[.int .i64 (m.op : Int), .int .i64 (m.by_ : Int), .int .i64 (m.ex : Int), .slice none 0 0] 48)).heap.size) W.heap.size m []) := Lib.hid
    ⟨_, [], fun _ _ => False, rfl, HX.out, by simpa [rowsOf] using World.ownsRow_nil _ 0 64 7, ⟨by omega, by simp⟩, fun b hb => by simp [Value.ownBlock] at hb, ⟨(fun x hx => by cases hx), (fun x hx => by cases hx), by simp⟩, (fun x hx => by cases hx), fun b hb => hb.2⟩
  have HB2 : Hid (Below w.heap.size w (W.alloc (.cells #[.int .i64 (m.op : Int), .int .i64 (m.by_ : Int), .int .i64 (m.ex : Int), .slice none 0 0] 48))) := Lib.hid (HB.out.alloc HB.out.size _)
  have hWc : Whole W w.heap.size 23 #[.int .i64 (m.op : Int), .int .i64 (m.by_ : Int), .int .i64 (m.ex : Int)] := by rw [← hW]; exact Whole.made _ _ _
  have c0 := hWc.at_ 0
  have c1 := hWc.at_ 1
  have c2 := hWc.at_ 2
  clear hWc hz
  rw [ha.out] at k1 k2 hW HF HB2 c0 ⊢
  rw [hb.out] at k3 k4 hW HF HB2 c1 ⊢
  rw [hc.out] at k5 k6 hW HF HB2 c2 ⊢
  have f0 : decide ((a : Int) < 1) = false := decide_eq_false (by omega)
  have f1 : decide ((16 : Int) < (a : Int)) = false := decide_eq_false (by omega)
  have f2 : decide ((b : Int) < 1) = false := decide_eq_false (by omega)
  have f3 : decide ((65536 : Int) < (b : Int)) = false := decide_eq_false (by omega)
  have f4 : decide ((c : Int) < 1) = false := decide_eq_false (by omega)
  have f5 : decide ((32 : Int) < (c : Int)) = false := decide_eq_false (by omega)
  go_enter Try.func8, Try.ntmps8
  go_wp2_with fail
  go_ret2
  exact ⟨_, rfl, HF.out, HB2.out⟩
end Go.Proofs.Ytkpmlhhoijijhaa
