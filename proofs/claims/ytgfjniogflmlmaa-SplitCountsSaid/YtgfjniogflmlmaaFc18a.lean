/- Contracts of layer 18's code: Right, Same. -/
import Derived.Test.YtgfjniogflmlmaaRev18
import Derived.Test.YtgfjniogflmlmaaRgs18
namespace Go.Proofs.Ytgfjniogflmlmaa
open Go.RowKit
set_option linter.unusedVariables false
set_option maxRecDepth 100000
set_option linter.unusedSimpArgs false

set_option maxHeartbeats 1000000 in
theorem gright18_any {w : World} {B : Nat} {g : Gd} {v : Value} (H : Gv w B g v) :
    Calls Try.prog 22 #[v] w fun e w' => e = .returned (.int .i64 (Gr.right g : Int)) ∧ Below w.heap.size w w' := by
  obtain ⟨b, A, c, w1, rfl, hb, hal, hsz, hx, hb1⟩ := boxedG H
  have HB : Hid (Below w.heap.size w w1) := Lib.hid (by rw [hb]; exact hb1)
  have HBb := Lib.hid hb1
  have ok := H.ok
  obtain ⟨k0, k1, k2, k3, k4, k5, k6⟩ := hx.cells
  have q1 := ok.kind
  have q5 := ok.index
  have q6 := ok.count
  have e9 := Lib.hid (fun h => Gr.right_kind (g := g) h)
  have e1 := Lib.hid (fun h k => Gr.right_arg (g := g) h k)
  have e5 := Lib.hid (fun h k l => Gr.right_long (g := g) h k l)
  have e0 := Lib.hid (fun h k l => Gr.right_good (g := g) h k l)
  obtain ⟨n, hn⟩ : ∃ n, Hid (g.body.length = n) := ⟨_, Lib.hid rfl⟩
  rw [hn.out] at hal k6 e5 e0 ⊢
  clear hx hb1 H hsz ok
  by_cases h1 : g.kind < 1 ∨ 2 < g.kind
  · rw [e9.out h1]
    have n1 : ((g.kind : Int) != 1) = true := by simp; omega
    have n2 : ((g.kind : Int) != 2) = true := by simp; omega
    clear h1
    go_enter Try.func22, Try.ntmps22
    go_wp2_with fail
    go_ret
    first | exact ⟨rfl, HB.out⟩ | exact ⟨rfl, HBb.out⟩
  obtain ⟨p1, hp1⟩ : ∃ p, Hid (((g.kind : Int) != 1) = p) := ⟨_, Lib.hid rfl⟩
  have hkk : (((g.kind : Int) != 1) = false) ∨ (((g.kind : Int) != 1) = true ∧ ((g.kind : Int) != 2) = false) := by
    by_cases h : g.kind = 1
    · left; simp; omega
    · right; refine ⟨?_, ?_⟩
      · simp; omega
      · simp; omega
  by_cases h4 : g.count ≤ g.index
  · rw [e1.out h1 (.inr h4)]
    rcases hkk with n1 | ⟨n1, n2⟩
    all_goals
      clear h1
      go_enter Try.func22, Try.ntmps22
      go_wp2_with fail
      go_ret
      first | exact ⟨rfl, HB.out⟩ | exact ⟨rfl, HBb.out⟩
  have hc : ¬ (g.count = 0 ∨ g.count ≤ g.index) := by omega
  by_cases h5 : 65487 < n
  · rw [e5.out h1 hc h5]
    rcases hkk with n1 | ⟨n1, n2⟩
    all_goals
      clear h1 hc
      go_enter Try.func22, Try.ntmps22
      go_wp2_with fail
      go_ret
      first | exact ⟨rfl, HB.out⟩ | exact ⟨rfl, HBb.out⟩
  · rw [e0.out h1 hc h5]
    rcases hkk with n1 | ⟨n1, n2⟩
    all_goals
      clear h1 hc
      go_enter Try.func22, Try.ntmps22
      go_wp2_with fail
      go_ret
      first | exact ⟨rfl, HB.out⟩ | exact ⟨rfl, HBb.out⟩
theorem eqf18 {a b : Nat} (h : ¬ a = b) : ((a : Int) == (b : Int)) = false := by simp; omega
theorem eqt18 {a b : Nat} (h : a = b) : ((a : Int) == (b : Int)) = true := by subst h; simp
end Go.Proofs.Ytgfjniogflmlmaa
