/- Contract of layer 15's reference: Same. -/
import Derived.Test.YtgfjniogflmlmaaPG
import Derived.Test.YtgfjniogflmlmaaPA
namespace Go.Proofs.Ytgfjniogflmlmaa
open Go.RowKit
set_option linter.unusedVariables false
set_option maxRecDepth 100000
set_option linter.unusedSimpArgs false

theorem Bl.fix {w : World} {B : Nat} {A : Option Addr} {n c : Nat} {ls : List (List Nat)} (h : Bl w B (.slice A n c) ls) {i : Nat} (hi : i < ls.length) : ∃ b off Au cu, A = some ⟨b, off, none⟩ ∧ b < B ∧ ∀ W, Below B w W → W.cell? ⟨b, off + i, none⟩ = some (.slice Au ls[i].length cu) ∧ Piece W B (.slice Au ls[i].length cu) ls[i] := by
  obtain ⟨b, off, u, e, hb, hc, hp⟩ := h.at_ hi
  have hp0 := hp
  obtain ⟨Au, cu, rfl, _⟩ := hp
  exact ⟨b, off, Au, cu, e, hb, fun W hW => ⟨(hW.cell hb).trans hc, hp0.below hW⟩⟩
theorem take_same {a b : List (List Nat)} {j : Nat} (h1 : j < a.length) (h2 : j < b.length) : (a.take (j + 1) = b.take (j + 1)) ↔ (a.take j = b.take j ∧ a[j] = b[j]) := by
  rw [List.take_succ_eq_append_getElem h1, List.take_succ_eq_append_getElem h2]
  constructor
  · intro h
    have := List.append_inj h (by rw [List.length_take, List.length_take]; omega)
    exact ⟨this.1, by simpa using this.2⟩
  · rintro ⟨h, k⟩; rw [h, k]
set_option maxHeartbeats 1000000 in
theorem rsame15_any {w : World} {B1 B2 : Nat} {v1 v2 : Value} {ls1 ls2 : List (List Nat)} (H1 : Bl w B1 v1 ls1) (H2 : Bl w B2 v2 ls2) (hB1 : B1 ≤ w.heap.size) (hB2 : B2 ≤ w.heap.size) (hb1 : ∀ l ∈ ls1, ∀ x ∈ l, x < 256) (hb2 : ∀ l ∈ ls2, ∀ x ∈ l, x < 256) :
    Calls Try.prog 13 #[v1, v2] w fun e w' => e = .returned (.bool (decide (ls1 = ls2))) ∧ Below w.heap.size w w' := by
  obtain ⟨A1, c1, rfl, hl1, hm1, hn1⟩ := H1.shape
  obtain ⟨A2, c2, rfl, hl2, hm2, hn2⟩ := H2.shape
  unfold maxLen at hm1 hm2
  have K1 := Lib.hid (fun i (h : i < ls1.length) => H1.fix h)
  have K2 := Lib.hid (fun i (h : i < ls2.length) => H2.fix h)
  have Q1 := Lib.hid (fun i (h : i < ls1.length) => hb1 _ (List.getElem_mem h))
  have Q2 := Lib.hid (fun i (h : i < ls2.length) => hb2 _ (List.getElem_mem h))
  by_cases hlen : ls1.length = ls2.length
  · obtain ⟨n, hn⟩ : ∃ n, Hid (ls1.length = n) := ⟨_, Lib.hid rfl⟩
    have hn' : Hid (ls2.length = n) := Lib.hid (hlen.symm.trans hn.out)
    rw [hn.out] at hl1 ⊢
    rw [hn'.out] at hl2 ⊢
    clear hlen hn1 hn2 H1 H2 hb1 hb2
    obtain ⟨R, hR⟩ : ∃ R, Hid (decide (ls1 = ls2) = R) := ⟨_, Lib.hid rfl⟩
    rw [hR.out]
    go_enter Try.func13, Try.ntmps13
    go_wp2_with fail
    go_loopw [5] (fun i wr => ∃ j : Nat, i = .int .i64 j ∧ j ≤ n ∧ Hid (ls1.take j = ls2.take j) ∧ Hid (Below w.heap.size w wr)) (fun i _ => n - (intOf i).toNat)
    case atStart => exact ⟨0, rfl, by omega, Lib.hid rfl, Lib.hid (Below.refl _ _)⟩
    case round =>
      obtain ⟨j, rfl, hj, HT, HB⟩ := hrel
      by_cases hlt : j < n
      · have h1 : j < ls1.length := by rw [hn.out]; exact hlt
        have h2 : j < ls2.length := by rw [hn'.out]; exact hlt
        have HTS := Lib.hid (take_same h1 h2)
        obtain ⟨b1, o1, Au, cu, rfl, _, F1⟩ := K1.out j h1
        obtain ⟨b2, o2, Av, cv, rfl, _, F2⟩ := K2.out j h2
        have e1 := strOf_ne (Q1.out j h1) (Q2.out j h2)
        obtain ⟨x, hx⟩ : ∃ x, Hid (ls1[j] = x) := ⟨_, Lib.hid rfl⟩
        obtain ⟨y, hy⟩ : ∃ y, Hid (ls2[j] = y) := ⟨_, Lib.hid rfl⟩
        rw [hx.out] at F1 e1 HTS
        rw [hy.out] at F2 e1 HTS
        have G1 := Lib.hid F1
        have G2 := Lib.hid F2
        have HR0 : Hid (¬ x = y → R = false) := Lib.hid (fun h => by
          rw [← hR.out]
          simp only [decide_eq_false_iff_not]
          intro e
          subst e
          exact h (hx.out.symm.trans hy.out))
        have hj0 : (0 : Int) ≤ (j : Int) := by omega
        have hj1 : (j : Int) < (n : Int) := by omega
        obtain ⟨q, hq⟩ : ∃ q, Hid (decide (x = y) = q) := ⟨_, Lib.hid rfl⟩
        rw [hq.out] at e1
        clear F1 F2
        go_wp2_with fail
        refine wp_region_plan (S := fun W => Below w.heap.size w W) [(0, true), (1, true), (2, true), (3, true), (4, true), (5, true), (6, true), (7, true), (8, true), (9, true), (10, true)] (by kernel_rfl) (by kernel_rfl) rfl (by kernel_rfl) (fun _ _ _ _ _ h => h) HB.out.drew ?_
        iterate 10
          refine along_take (v := ?_) rfl (by rfl) ?_ ?_
          rotate_left
          · intro W hW; obtain ⟨k1, p1⟩ := G1.out W (hW.mono hB1); obtain ⟨k2, p2⟩ := G2.out W (hW.mono hB2); have r1 := p1.conv; have r2 := p2.conv; clear p1 p2 hW; go_simp; try with_reducible rfl
          simp only [Act.put, List.setIfInBounds_toArray, List.set_cons_zero, List.set_cons_succ]
        refine along_take (v := .bool (!q)) rfl (by rfl) ?_ ?_
        · intro W hW; clear hW; go_simp
        simp only [Act.put, List.setIfInBounds_toArray, List.set_cons_zero, List.set_cons_succ]
        refine along_done ?_
        cases q
        · go_wp2_with fail
          go_ret
          exact ⟨ret_bool (HR0.out (by simpa using hq.out)).symm, HB.out.drew⟩
        · go_wp2_with fail
          go_roundw
          case rel => exact ⟨j + 1, by go_num, by omega, Lib.hid (HTS.out.2 ⟨HT.out, by simpa using hq.out⟩), Lib.hid HB.out.drew⟩
          case measure => simp [intOf]; omega
      · go_wp2_with fail
        go_ret
        refine ⟨ret_bool ?_, HB.out⟩
        rw [← hR.out]
        have h := HT.out
        rw [List.take_of_length_le (by rw [hn.out]; omega), List.take_of_length_le (by rw [hn'.out]; omega)] at h
        simp [h]
  · have hR : decide (ls1 = ls2) = false := by simpa using fun e : ls1 = ls2 => hlen (by rw [e])
    rw [hR]
    obtain ⟨n, hn⟩ : ∃ n, Hid (ls1.length = n) := ⟨_, Lib.hid rfl⟩
    obtain ⟨m, hm⟩ : ∃ m, Hid (ls2.length = m) := ⟨_, Lib.hid rfl⟩
    rw [hn.out] at hl1 hlen ⊢
    rw [hm.out] at hl2 hlen ⊢
    have q1 : ((n : Int) != (m : Int)) = true := by simp; omega
    clear H1 H2 hn1 hn2
    go_enter Try.func13, Try.ntmps13
    go_wp2_with fail
    go_ret
    exact ⟨rfl, Below.refl _ _⟩
end Go.Proofs.Ytgfjniogflmlmaa
