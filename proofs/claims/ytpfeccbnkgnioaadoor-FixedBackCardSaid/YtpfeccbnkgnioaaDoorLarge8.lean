/- Contract of the law's Large. -/
import Derived.Test.YtpfeccbnkgnioaaDoorEq8
namespace Go.Proofs.YtpfeccbnkgnioaaDoor
open Go.RowKit
set_option linter.unusedVariables false
set_option maxRecDepth 100000
open Gm

def big1 (p : ByteArray × ByteArray) : Bool := decide (300 < p.1.size) || decide (700 < p.2.size)
/-- the law's bound on a message -/
def large (m : Ms) : Bool := (decide (300 < m.key.size) || decide (700 < m.val.size) || decide (40 < m.peers.length) || decide (20 < m.pairs.length)) || m.pairs.any big1
theorem large_off {m : Ms} (h : large m = false) : m.key.size ≤ 300 ∧ m.val.size ≤ 700 ∧ m.peers.length ≤ 40 ∧ m.pairs.length ≤ 20 ∧ ∀ p ∈ m.pairs, p.1.size ≤ 300 ∧ p.2.size ≤ 700 := by
  unfold large big1 at h
  simp at h
  obtain ⟨⟨⟨⟨h1, h2⟩, h3⟩, h4⟩, h5⟩ := h
  exact ⟨by omega, by omega, by omega, by omega, fun p hp => h5 p.1 p.2 hp⟩

set_option maxRecDepth 100000 in
set_option maxHeartbeats 1000000 in
theorem large_any {w : World} {B : Nat} {m : Ms} {v : Value} (H : Mv w B m v) :
    Calls Tryd.prog 6 #[v] w fun e w' => e = .returned (.bool (large m)) ∧ Below w.heap.size w w' := by
  obtain ⟨b, vp, vq, w0, rfl, hb, hal, hsz, hx, hb0⟩ := boxed H
  obtain ⟨Ap, cp, rfl, _, hp1, hp2, _⟩ := hx.peers.ex
  obtain ⟨Aq, cq, rfl, hq0, hq1, hq2, _⟩ := hx.pairs.ex
  obtain ⟨c0, c1, c2, c3, c4, c5, c6, c7, c8, c9, c10⟩ := hx.cells
  have hv := hx.ok.val
  have hke := hx.ok.key
  have OKp := Lib.hid hx.ok.pairs
  have TQ := Lib.hid hq0
  unfold maxLen at hp2 hq2 hv hke
  have HB := Lib.hid hb0
  have HR : Hid (large m = ((decide (300 < m.key.size) || decide (700 < m.val.size) || decide (40 < m.peers.length) || decide (20 < m.pairs.length)) || m.pairs.any big1)) := rfl
  obtain ⟨r, hr⟩ : ∃ r, Hid (large m = r) := ⟨_, rfl⟩
  rw [hr.out] at HR ⊢
  clear hx hb0 H hq0 c0 c1 c2 c3 c4 c7 c8
  by_cases h1 : 300 < m.key.size
  · have e : r = true := by rw [HR.out]; simp [h1]
    subst e
    go_enter Tryd.func6, Tryd.ntmps6
    go_wp2_with fail
    go_ret
    exact ⟨rfl, by first | exact HB.out | (rw [hb]; exact HB.out)⟩
  by_cases h2 : 700 < m.val.size
  · have e : r = true := by rw [HR.out]; simp [h2]
    subst e
    go_enter Tryd.func6, Tryd.ntmps6
    go_wp2_with fail
    go_ret
    exact ⟨rfl, by first | exact HB.out | (rw [hb]; exact HB.out)⟩
  by_cases h3 : 40 < m.peers.length
  · have e : r = true := by rw [HR.out]; simp [h3]
    subst e
    go_enter Tryd.func6, Tryd.ntmps6
    go_wp2_with fail
    go_ret
    exact ⟨rfl, by first | exact HB.out | (rw [hb]; exact HB.out)⟩
  by_cases h4 : 20 < m.pairs.length
  · have e : r = true := by rw [HR.out]; simp [h4]
    subst e
    go_enter Tryd.func6, Tryd.ntmps6
    go_wp2_with fail
    go_ret
    exact ⟨rfl, by first | exact HB.out | (rw [hb]; exact HB.out)⟩
  have e : Hid (r = m.pairs.any big1) := Lib.hid (by rw [HR.out]; simp [h1, h2, h3, h4])
  obtain ⟨n, hn⟩ : ∃ n, Hid (m.pairs.length = n) := ⟨_, rfl⟩
  rw [hn.out] at hq1 h4 c10 hal ⊢
  go_enter Tryd.func6, Tryd.ntmps6
  go_wp2_with fail
  go_loopw [3] (fun v wr => ∃ (i : Nat), i ≤ n ∧ v = .int .i64 i ∧ wr = w0 ∧ Hid (∀ j, j < i → ∀ (ha : j < m.pairs.length), big1 m.pairs[j] = false)) (fun v _ => n - (intOf v).toNat)
  case atStart => exact ⟨0, by omega, rfl, rfl, Lib.hid (fun j hj => by omega)⟩
  case round =>
    obtain ⟨i, hi, rfl, rfl, HI⟩ := hrel
    by_cases hlt : i < n
    · have hia : i < m.pairs.length := by rw [hn.out]; exact hlt
      obtain ⟨b1, o1, rfl, _, d0, d1⟩ := TQ.out.at_ hia
      have HN : Hid (big1 m.pairs[i] = true → m.pairs.any big1 = true) := Lib.hid (fun h => List.any_eq_true.2 ⟨_, List.getElem_mem hia, h⟩)
      have HS : Hid (big1 m.pairs[i] = false → ∀ j, j < i + 1 → ∀ (ha : j < m.pairs.length), big1 m.pairs[j] = false) := Lib.hid (fun h j hj ha => by
        by_cases e : j = i
        · subst e; exact h
        · exact HI.out j (by omega) ha)
      have OK1 := OKp.out _ (List.getElem_mem hia)
      obtain ⟨p, hp⟩ : ∃ p : ByteArray × ByteArray, Hid (m.pairs[i] = p) := ⟨m.pairs[i], Lib.hid rfl⟩
      obtain ⟨p1, p2⟩ := p
      rw [hp.out] at d0 d1 HN HS OK1
      simp only [fPair] at d0 d1
      simp only [maxLen] at OK1
      obtain ⟨OK1, OK2⟩ := OK1
      by_cases h5 : 300 < p1.size
      · have HN' := Lib.hid (HN.out (by unfold big1; simp [h5]))
        clear HS HN HI
        go_wp2_with fail
        go_ret
        exact ⟨ret_bool (by rw [e.out, HN'.out]), by first | exact HB.out | (rw [hb]; exact HB.out)⟩
      by_cases h6 : 700 < p2.size
      · have HN' := Lib.hid (HN.out (by unfold big1; simp [h6]))
        clear HS HN HI
        go_wp2_with fail
        go_ret
        exact ⟨ret_bool (by rw [e.out, HN'.out]), by first | exact HB.out | (rw [hb]; exact HB.out)⟩
      have HS' := Lib.hid (HS.out (by unfold big1; simp [h5, h6]))
      clear HS HN HI
      go_wp2_with fail
      go_roundw
      case rel => exact ⟨i + 1, by omega, by go_num, trivial, HS'⟩
      case measure => simp [intOf]; omega
    · have HE : Hid (m.pairs.any big1 = false) := Lib.hid (by
        rw [List.any_eq_false]
        intro x hx
        obtain ⟨j, hj, rfl⟩ := List.getElem_of_mem hx
        rw [HI.out j (by have := hn.out; omega) hj]
        simp)
      go_wp2_with fail
      go_ret
      exact ⟨ret_bool (by rw [e.out, HE.out]), by first | exact HB.out | (rw [hb]; exact HB.out)⟩
end Go.Proofs.YtpfeccbnkgnioaaDoor
