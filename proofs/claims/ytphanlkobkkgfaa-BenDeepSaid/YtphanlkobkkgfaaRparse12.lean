/- Contracts of the reference's value, list and Parse of layer 12. -/
import Derived.Test.YtphanlkobkkgfaaPc12
namespace Go.Proofs.Ytphanlkobkkgfaa
open Go.RowKit
set_option linter.unusedVariables false
set_option maxRecDepth 100000
set_option linter.unusedSimpArgs false

theorem rvalue12_any {s : ByteArray} {l : List Nat} (T : Txt s l) (hl : l.length ≤ 1000000000) (k : Nat) : ∀ (m : Nat), m + k = 8 → ∀ (a : Nat) (w : World), a ≤ l.length →
    Calls Try.prog 21 #[.string s, .int .i64 (a : Int), .int .i64 (m : Int)] w fun e w' => ∃ v, e = .returned v ∧ Bn.ValR l a w.heap.size (Bn.value k (l.drop a)) v w' ∧ Below w.heap.size w w' := by
  induction k with
  | zero => exact fun m hm a w ha => rvalue12 T hl 0 m hm (fun k' e => by omega) a ha w
  | succ k ih =>
    exact fun m hm a w ha => rvalue12 T hl (k + 1) m hm (fun k' e a d w ha => by
      obtain rfl : k = k' := by omega
      cases d with
      | false => exact rlist12_plain T hl k m hm (fun a w ha => ih (m + 1) (by omega) a w ha) a ha w
      | true => exact rlist12_dict T hl k m hm (fun a w ha => ih (m + 1) (by omega) a w ha) a ha w) a ha w

set_option maxHeartbeats 4000000 in
theorem rparse12_any {w : World} {B : Nat} {v : Value} {l : List Nat} (h : Pc w B v l) (hB : B ≤ w.heap.size) (hb : ∀ x ∈ l, x < 256) (hl : l.length ≤ 1000000000) :
    Calls Try.prog 12 #[v] w (ParsePost l w) := by
  obtain ⟨A, c, rfl, hsee, hnull, hle, hmx⟩ := h
  obtain ⟨g, w1, hg, hal1, hG1, hb1, hs1⟩ := var_tree w
  have hwg : w.heap.size ≤ g := by omega
  have hb1s : Below w.heap.size w w1 := hb1.mono hwg
  have hcv : (convert 28 9 (.slice A l.length c)).run Try.prog w1 = .ok (.string (strOf l)) w1 := conv_sees Try.underlying28 Try.underlying5 Try.underlying9 l.length c rfl (hsee.below (hb1s.mono hB))
  have C1 := Lib.hid (rvalue12_any (Txt.of hb) hl 8 0 rfl 0 w1 (by omega))
  rw [List.drop_zero] at C1
  have HB1 := Lib.hid hb1s
  have HG1 := Lib.hid hG1
  have hz1 : g < w1.heap.size := hG1.lt
  have HPB := Lib.hid (fun e (h : Bn.value 8 l = .bad e) => And.intro (Bn.parse_bad h) (Bn.value_bad 8 l e h))
  have HPM := Lib.hid (fun t r' (h : Bn.value 8 l = .ok t r') hr => Bn.parse_more h hr)
  have HPD := Lib.hid (fun t (h : Bn.value 8 l = .ok t []) => Bn.parse_done h)
  obtain ⟨R, hR⟩ : ∃ R, Hid (Bn.value 8 l = R) := ⟨_, rfl⟩
  rw [hR.out] at C1 HPB HPM HPD
  unfold ParsePost
  obtain ⟨Pr, hP⟩ : ∃ X, Hid (Bn.parse l = X) := ⟨_, rfl⟩
  rw [hP.out] at HPB HPM HPD ⊢
  obtain ⟨sx, hsx⟩ : ∃ s, Hid (strOf l = s) := ⟨_, rfl⟩
  rw [hsx.out] at hcv C1
  obtain ⟨n, hn⟩ : ∃ n, Hid (l.length = n) := ⟨_, rfl⟩
  rw [hn.out] at hcv hl hle ⊢
  clear hG1 hb1 hb1s hs1 hsee hnull hb
  unfold maxLen at hmx
  go_enter Try.func12, Try.ntmps12
  go_wp2_with fail
  clear hg hal1 hcv
  refine (C1.out).mono ?_
  rintro e w5 ⟨v, rfl, hv, hb5⟩
  obtain ⟨u, w6, hu, hal6, hU6, hb6, hs6⟩ := var_tree w5
  have hsz5 := hb5.size
  have hb6s : Below w5.heap.size w5 w6 := by rw [hu]; exact hb6
  rcases hv with ⟨e, rfl, rfl⟩ | ⟨t, r', kk, xk, xq, rfl, rfl, hk1, hk2, hk3, hx⟩
  · obtain ⟨hpe, he⟩ := HPB.out e rfl
    subst hpe
    have q1 : ((e : Int) != 0) = true := by simp; omega
    have q2 : ((e : Int) == 0) = false := by simp; omega
    have he9 : e ≤ 6 := by omega
    clear he
    obtain ⟨w7, hst7⟩ : ∃ w7, w6.setRow u #[.int .i64 0, .int .i64 0, .string ⟨#[]⟩, .slice none 0 0, .slice none 0 0] = w7 := ⟨_, rfl⟩
    have hb57 : Below w5.heap.size w5 w7 := by rw [← hst7]; exact below_row hb6s (by omega) _
    have HG7 := Lib.hid ((HG1.out.below hb5 (by omega)).below hb57 (by omega))
    have HB7 : Hid (Below w.heap.size w w7) := Lib.hid ((HB1.out.trans (hb5.mono HB1.out.size)).trans (hb57.mono (by have := HB1.out.size; omega)))
    have HU6 := Lib.hid hU6
    clear hb5 hb6 hs6 hU6 hb6s hb57 hsz5
    go_upto_region 2 with (refine wpList_store_whole rfl rfl rfl rfl rfl HU6.out (treeI rfl) rfl (by simp [Value.oneCell']) ?_; rw [hst7])
    clear hu hal6 hst7
    go_wp2_with (refine wpList_store_whole rfl rfl rfl rfl rfl HG7.out (treeI rfl) rfl (by simp [Value.oneCell']) ?_)
    refine bodyPost_ret (v := .tuple #[.agg #[.int .i64 0, .int .i64 0, .string ⟨#[]⟩, .slice none 0 0, .slice none 0 0], .int .i64 (e : Int)]) ?_ rfl ⟨_, _, rfl, Tp.leaf _ _ (by omega) (by omega) (by show (0 : Nat) ≤ maxLen; omega), below_row HB7.out hwg _⟩
    exact results_tree2 rfl rfl rfl (HG7.out.row _) rfl
  · obtain ⟨Ak, ck, rfl, _⟩ := hx.tv.keys
    obtain ⟨Aq, cq, rfl, _⟩ := hx.tv.kids
    obtain ⟨w7, hst7⟩ : ∃ w7, w6.setRow u #[.int .i64 t.kind, .int .i64 t.n, .string t.s, .slice Ak t.keys.length ck, .slice Aq t.kids.length cq] = w7 := ⟨_, rfl⟩
    have hU7 : Whole w7 u 25 #[.int .i64 t.kind, .int .i64 t.n, .string t.s, .slice Ak t.keys.length ck, .slice Aq t.kids.length cq] := by rw [← hst7]; exact hU6.row _
    have hb57 : Below w5.heap.size w5 w7 := by rw [← hst7]; exact below_row hb6s (by omega) _
    have HG7 := Lib.hid ((HG1.out.below hb5 (by omega)).below hb57 (by omega))
    have HB7 : Hid (Below w.heap.size w w7) := Lib.hid ((HB1.out.trans (hb5.mono HB1.out.size)).trans (hb57.mono (by have := HB1.out.size; omega)))
    have HXr : Hid (∀ cs, Tp (w7.setRow g cs) (fun b => w.heap.size ≤ b) t (.slice Ak t.keys.length ck) (.slice Aq t.kids.length cq)) := Lib.hid (fun cs => hx.keep (fun b p q => ⟨Nat.le_trans HB1.out.size p, (setRow_other w7 g b cs (by have : w1.heap.size ≤ b := p; omega)).trans (hb57.block b q)⟩))
    have HU6 := Lib.hid hU6
    have u0 := hU7.at_ 0
    have u1 := hU7.at_ 1
    have u2 := hU7.at_ 2
    have u3 := hU7.at_ 3
    have u4 := hU7.at_ 4
    simp at u0 u1 u2 u3 u4
    have HK1 := Lib.hid hk1
    rw [hn.out] at hk2
    unfold tval
    clear hb5 hb6 hs6 hU6 hU7 hb6s hb57 hsz5 hx hk1
    go_upto_region 2 with (refine wpList_store_whole rfl rfl rfl rfl rfl HU6.out (treeI rfl) rfl (by simp [Value.oneCell']) ?_; rw [hst7])
    clear hu hal6 hst7
    by_cases hkn : kk < n
    · have hr : ¬ r' = [] := fun e => by
        have := congrArg List.length HK1.out
        rw [List.length_drop, hn.out, e] at this
        simp at this
        omega
      have hpm := HPM.out t _ rfl hr
      subst hpm
      go_wp2_with (refine wpList_store_whole rfl rfl rfl rfl rfl HG7.out (treeI rfl) rfl (by simp [Value.oneCell']) ?_)
      refine bodyPost_ret (v := .tuple #[.agg #[.int .i64 0, .int .i64 0, .string ⟨#[]⟩, .slice none 0 0, .slice none 0 0], .int .i64 4]) ?_ rfl ⟨_, _, rfl, Tp.leaf _ _ (by omega) (by omega) (by show (0 : Nat) ≤ maxLen; omega), below_row HB7.out hwg _⟩
      exact results_tree2 rfl rfl rfl (HG7.out.row _) rfl
    · have hr : r' = [] := by rw [← HK1.out]; exact List.drop_eq_nil_of_le (by rw [hn.out]; omega)
      have hpd := HPD.out t (by rw [hr])
      subst hpd
      clear hr
      go_wp2_with (refine wpList_store_whole rfl rfl rfl rfl rfl HG7.out (treeI rfl) rfl (by simp [Value.oneCell']) ?_)
      refine bodyPost_ret (v := .tuple #[.agg #[.int .i64 t.kind, .int .i64 t.n, .string t.s, .slice Ak t.keys.length ck, .slice Aq t.kids.length cq], .int .i64 0]) ?_ rfl ⟨_, _, rfl, HXr.out _, below_row HB7.out hwg _⟩
      exact results_tree2 rfl rfl rfl (HG7.out.row _) rfl
end Go.Proofs.Ytphanlkobkkgfaa
