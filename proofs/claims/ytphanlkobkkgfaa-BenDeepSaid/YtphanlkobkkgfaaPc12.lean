/- Contract of Parse of layer 12, the program's. -/
import Derived.Test.YtphanlkobkkgfaaVc12
import Derived.Test.YtphanlkobkkgfaaRprint12
import Derived.Deep.CutRange
namespace Go.Proofs.Ytphanlkobkkgfaa
open Go.RowKit
set_option linter.unusedVariables false
set_option maxRecDepth 100000
set_option linter.unusedSimpArgs false

/-! ### Parse -/
/-- what Parse answers: the tree lies in blocks from lo on -/
def ParsePost (l : List Nat) (w : World) (e : Ending) (w' : World) : Prop :=
  ∃ vk vq, e = .returned (.tuple #[tval (Bn.parse l).1 vk vq, .int .i64 ((Bn.parse l).2 : Int)]) ∧ Tp w' (fun b => w.heap.size ≤ b) (Bn.parse l).1 vk vq ∧ Below w.heap.size w w'
namespace Bn
theorem parse_bad {l : List Nat} {e : Nat} (h : value 8 l = .bad e) : parse l = (.mk 0 0 ⟨#[]⟩ [] [], e) := by unfold parse; rw [h]
theorem parse_more {l r : List Nat} {t : Tn} (h : value 8 l = .ok t r) (hr : ¬ r = []) : parse l = (.mk 0 0 ⟨#[]⟩ [] [], 4) := by
  unfold parse
  rw [h]
  simp only []
  rw [if_neg hr]
theorem parse_done {l : List Nat} {t : Tn} (h : value 8 l = .ok t []) : parse l = (t, 0) := by
  unfold parse
  rw [h]
  simp
end Bn
theorem readerI {cs : Array Value} (h : cs.size = 1) : (Try.prog.info? 44).map (·.size) = some cs.size := by rw [h]; kernel_rfl
set_option maxHeartbeats 4000000 in
theorem parse12_any {w : World} {B : Nat} {v : Value} {l : List Nat} (h : Pc w B v l) (hB : B ≤ w.heap.size) (hb : ∀ x ∈ l, x < 256) (hl : l.length ≤ 1000000000) :
    Calls Try.prog 11 #[v] w (ParsePost l w) := by
  obtain ⟨A, c, rfl, hsee, hnull, hle, hmx⟩ := h
  obtain ⟨g, w1, hg, hal1, hG1, hb1, hs1⟩ := var_tree w
  obtain ⟨r, w2, hr, hal2, hR2, hb2, hs2⟩ : ∃ r w2, w1.heap.size = r ∧ w1.alloc (.cells #[.slice none 0 0] 44) = w2 ∧ Whole w2 r 44 #[.slice none 0 0] ∧ Below r w1 w2 ∧ w2.heap.size = r + 1 := ⟨_, _, rfl, rfl, Whole.made _ _ _, (Below.refl _ _).alloc (Nat.le_refl _) _, by simp⟩
  have hgr : g < r := by omega
  have hwg : w.heap.size ≤ g := by omega
  obtain ⟨w3, hst⟩ : ∃ w3, w2.setRow r #[.slice A l.length c] = w3 := ⟨_, rfl⟩
  have hR3 : Whole w3 r 44 #[.slice A l.length c] := by rw [← hst]; exact hR2.row _
  have hG3 : Whole w3 g 25 #[.int .i64 0, .int .i64 0, .string ⟨#[]⟩, .slice none 0 0, .slice none 0 0] := by rw [← hst]; exact (hG1.below hb2 (by omega)).rowOther (by omega) _
  have hB3 : Below w.heap.size w w3 := by rw [← hst]; exact below_row ((hb1.mono hwg).trans (hb2.mono (by omega))) (by omega) _
  have HRb : Hid (Rb w3 r l) := Lib.hid ⟨A, c, hR3, (hsee.below (hB3.mono hB)).more (by omega), hb, hle, hmx, hnull⟩
  have C1 := Lib.hid (value12_any 8 1 rfl w3 r l HRb.out hl)
  have HB3 := Lib.hid hB3
  have HG3 := Lib.hid hG3
  have HR2 := Lib.hid hR2
  have hz3 : r < w3.heap.size := hR3.lt
  have HPB := Lib.hid (fun e (h : Bn.value 8 l = .bad e) => And.intro (Bn.parse_bad h) (Bn.value_bad 8 l e h))
  have HPM := Lib.hid (fun t r' (h : Bn.value 8 l = .ok t r') hr => Bn.parse_more h hr)
  have HPD := Lib.hid (fun t (h : Bn.value 8 l = .ok t []) => Bn.parse_done h)
  obtain ⟨R, hR⟩ : ∃ R, Hid (Bn.value 8 l = R) := ⟨_, rfl⟩
  rw [hR.out] at C1 HPB HPM HPD
  unfold ParsePost
  obtain ⟨Pr, hP⟩ : ∃ X, Hid (Bn.parse l = X) := ⟨_, rfl⟩
  rw [hP.out] at HPB HPM HPD ⊢
  clear hR3 hG3 hB3 hG1 hb1 hs1 hR2 hb2 hs2 hsee hnull hle hmx hb
  go_enter Try.func11, Try.ntmps11
  go_upto_region 2 with (refine wpList_store_whole rfl rfl rfl rfl rfl HR2.out (readerI rfl) rfl (by simp [Value.oneCell']) ?_; rw [hst])
  clear hg hal1 hr hal2 hst
  go_wp2_with fail
  refine (C1.out).mono ?_
  rintro e w4 ⟨v, rfl, hv, ho4⟩
  have HG4 := Lib.hid (HG3.out.only ho4 (by omega))
  have HB4 : Hid (Below w.heap.size w w4) := Lib.hid (HB3.out.trans (ho4.below (by omega) HB3.out.size))
  have hz4 : r < w4.heap.size := by have := ho4.size; omega
  clear ho4
  rcases hv with ⟨e, rfl, rfl⟩ | ⟨t, r', rfl, hrb, hat⟩
  · obtain ⟨hpe, he⟩ := HPB.out e rfl
    subst hpe
    have q1 : ((e : Int) != 0) = true := by simp; omega
    have q2 : ((e : Int) == 0) = false := by simp; omega
    have he9 : e ≤ 6 := by omega
    have CT := Lib.hid (treeof_bad e w4)
    clear he
    go_wp2_with fail
    refine (CT.out).mono ?_
    rintro e' w5 ⟨rfl, hb5⟩
    obtain ⟨u, w6, hu, hal6, hU6, hb6, hs6⟩ := var_tree w5
    have hsz5 := hb5.size
    have hb6s : Below w5.heap.size w5 w6 := by rw [hu]; exact hb6
    obtain ⟨w7, hst7⟩ : ∃ w7, w6.setRow u #[.int .i64 0, .int .i64 0, .string ⟨#[]⟩, .slice none 0 0, .slice none 0 0] = w7 := ⟨_, rfl⟩
    have hb57 : Below w5.heap.size w5 w7 := by rw [← hst7]; exact below_row hb6s (by omega) _
    have HG7 := Lib.hid ((HG4.out.below hb5 (by omega)).below hb57 (by omega))
    have HB7 : Hid (Below w.heap.size w w7) := Lib.hid ((HB4.out.trans (hb5.mono HB4.out.size)).trans (hb57.mono (by have := HB4.out.size; omega)))
    have HU6 := Lib.hid hU6
    clear hb5 hb6 hs6 hU6 hb6s hb57 hsz5
    go_upto_region 3 with (refine wpList_store_whole rfl rfl rfl rfl rfl HU6.out (treeI rfl) rfl (by simp [Value.oneCell']) ?_; rw [hst7])
    clear hu hal6 hst7
    go_wp2_with (refine wpList_store_whole rfl rfl rfl rfl rfl HG7.out (treeI rfl) rfl (by simp [Value.oneCell']) ?_)
    refine bodyPost_ret (v := .tuple #[.agg #[.int .i64 0, .int .i64 0, .string ⟨#[]⟩, .slice none 0 0, .slice none 0 0], .int .i64 (e : Int)]) ?_ rfl ⟨_, _, rfl, Tp.leaf _ _ (by omega) (by omega) (by show (0 : Nat) ≤ maxLen; omega), below_row HB7.out hwg _⟩
    exact results_tree2 rfl rfl rfl (HG7.out.row _) rfl
  · have CT := Lib.hid (treeof_any hat)
    have HRb4 := Lib.hid hrb
    clear hat hrb
    go_wp2_with fail
    refine (CT.out).mono ?_
    rintro e' w5 ⟨xk, xq, rfl, hx, hb5⟩
    obtain ⟨u, w6, hu, hal6, hU6, hb6, hs6⟩ := var_tree w5
    obtain ⟨Ak, ck, rfl, _⟩ := hx.tv.keys
    obtain ⟨Aq, cq, rfl, _⟩ := hx.tv.kids
    have hsz5 := hb5.size
    have hb6s : Below w5.heap.size w5 w6 := by rw [hu]; exact hb6
    obtain ⟨w7, hst7⟩ : ∃ w7, w6.setRow u #[.int .i64 t.kind, .int .i64 t.n, .string t.s, .slice Ak t.keys.length ck, .slice Aq t.kids.length cq] = w7 := ⟨_, rfl⟩
    have hU7 : Whole w7 u 25 #[.int .i64 t.kind, .int .i64 t.n, .string t.s, .slice Ak t.keys.length ck, .slice Aq t.kids.length cq] := by rw [← hst7]; exact hU6.row _
    have hb57 : Below w5.heap.size w5 w7 := by rw [← hst7]; exact below_row hb6s (by omega) _
    have HG7 := Lib.hid ((HG4.out.below hb5 (by omega)).below hb57 (by omega))
    have HB7 : Hid (Below w.heap.size w w7) := Lib.hid ((HB4.out.trans (hb5.mono HB4.out.size)).trans (hb57.mono (by have := HB4.out.size; omega)))
    have HRb7 := Lib.hid ((HRb4.out.behind hb5).behind hb57)
    have HX : Hid (Tp w7 (fun b => w.heap.size ≤ b) t (.slice Ak t.keys.length ck) (.slice Aq t.kids.length cq)) := Lib.hid (hx.keep (fun b p q => ⟨Nat.le_trans HB3.out.size p, hb57.block b q⟩))
    have HXg : Hid (∀ b, w3.heap.size ≤ b → b ≠ g) := Lib.hid (fun b hb => by omega)
    have HXr : Hid (∀ cs, Tp (w7.setRow g cs) (fun b => w.heap.size ≤ b) t (.slice Ak t.keys.length ck) (.slice Aq t.kids.length cq)) := Lib.hid (fun cs => hx.keep (fun b p q => ⟨Nat.le_trans HB3.out.size p, (setRow_other w7 g b cs (by have : w3.heap.size ≤ b := p; omega)).trans (hb57.block b q)⟩))
    have HU6 := Lib.hid hU6
    have u0 := hU7.at_ 0
    have u1 := hU7.at_ 1
    have u2 := hU7.at_ 2
    have u3 := hU7.at_ 3
    have u4 := hU7.at_ 4
    simp at u0 u1 u2 u3 u4
    obtain ⟨A7, c7, h7⟩ := HRb7.out
    have d0 := h7.rest
    have hle7 := h7.le
    have hm7 := h7.max
    unfold maxLen at hm7
    unfold tval
    clear hb5 hb6 hs6 hU6 hU7 hb6s hb57 hsz5 hx h7
    go_upto_region 3 with (refine wpList_store_whole rfl rfl rfl rfl rfl HU6.out (treeI rfl) rfl (by simp [Value.oneCell']) ?_; rw [hst7])
    clear hu hal6 hst7
    cases r' with
    | nil =>
      have hpd := HPD.out t rfl
      subst hpd
      simp only [List.length_nil] at d0
      go_wp2_with (refine wpList_store_whole rfl rfl rfl rfl rfl HG7.out (treeI rfl) rfl (by simp [Value.oneCell']) ?_)
      refine bodyPost_ret (v := .tuple #[.agg #[.int .i64 t.kind, .int .i64 t.n, .string t.s, .slice Ak t.keys.length ck, .slice Aq t.kids.length cq], .int .i64 0]) ?_ rfl ⟨_, _, rfl, HXr.out _, below_row HB7.out hwg _⟩
      exact results_tree2 rfl rfl rfl (HG7.out.row _) rfl
    | cons x r' =>
      have hpm := HPM.out t _ rfl (by simp)
      subst hpm
      simp only [List.length_cons] at d0 hle7
      obtain ⟨nn, hnn⟩ : ∃ n, Hid (r'.length = n) := ⟨_, rfl⟩
      rw [hnn.out] at d0 hle7
      go_wp2_with (refine wpList_store_whole rfl rfl rfl rfl rfl HG7.out (treeI rfl) rfl (by simp [Value.oneCell']) ?_)
      refine bodyPost_ret (v := .tuple #[.agg #[.int .i64 0, .int .i64 0, .string ⟨#[]⟩, .slice none 0 0, .slice none 0 0], .int .i64 4]) ?_ rfl ⟨_, _, rfl, Tp.leaf _ _ (by omega) (by omega) (by show (0 : Nat) ≤ maxLen; omega), below_row HB7.out hwg _⟩
      exact results_tree2 rfl rfl rfl (HG7.out.row _) rfl
end Go.Proofs.Ytphanlkobkkgfaa
