/- The walk of the law GramBack. -/
import Derived.Test.YtkakeojigndnnaaAwake18
namespace Go.Proofs.Ytkakeojigndnnaa
open Go.RowKit
set_option linter.unusedVariables false
set_option maxRecDepth 100000
set_option linter.unusedSimpArgs false

set_option maxHeartbeats 4000000 in
theorem gramBack_walk (g : Gd) (v : Value) (a1 : Option Addr) (len1 cap1 : Nat) (l1 : List Nat) (w : World) (H : Gv w w.heap.size g v) (R1 : Row .u8 w a1 len1 cap1 l1) :
    Calls Try.prog 5 #[v, .slice a1 len1 cap1] w fun e w' => e = .returned (.bool true) ∧ Below w.heap.size w w' := by
  obtain ⟨hP1, hlen1, hby1⟩ := row_piece R1
  have hm1 := R1.max
  have hc1 := R1.le
  unfold maxLen at hm1
  clear R1
  have CP := Lib.hid (fun W (K : Gv W W.heap.size g v) => gput18_any K)
  obtain ⟨b, A, c, w1, rfl, hb, hal, hsz, hx, hb1⟩ := boxedG H
  have HB1 : Hid (Below w.heap.size w w1) := Lib.hid (by rw [hb]; exact hb1)
  have HX := Lib.hid (fun W (h : Below w1.heap.size w1 W) => (hx.kept h))
  have HP1 := Lib.hid (fun W (h : Below w1.heap.size w1 W) => (hP1.kept (HB1.out.trans (h.mono HB1.out.size)) : Piece W W.heap.size (.slice a1 len1 cap1) l1))
  obtain ⟨k0, k1, k2, k3, k4, k5, k6⟩ := hx.cells
  have hok := Lib.hid hx.ok
  have Hgv := Lib.hid (show Gv w1 w1.heap.size g _ from hx.gv.more (by have := hx.lt; omega))
  obtain ⟨n, hn⟩ : ∃ n, Hid (g.body.length = n) := ⟨_, Lib.hid rfl⟩
  rw [hn.out] at hal k6 CP Hgv ⊢
  clear hx hb1 H hsz hP1
  by_cases hbig : 1500 < n ∨ 1500 < len1
  · have hd : (∃ _ : 1500 < n, True) ∨ (∃ _ : ¬ 1500 < n, 1500 < len1) := by
      by_cases h : 1500 < n
      · exact .inl ⟨h, trivial⟩
      · exact .inr ⟨h, by omega⟩
    clear hbig
    rcases hd with ⟨h1, _⟩ | ⟨h1, h2⟩
    all_goals
      go_enter Try.func5, Try.ntmps5
      go_wp2_with fail
      refine (awake18 _).mono ?_
      rintro e w2 ⟨rfl, hb2⟩
      have HB := Lib.hid (HB1.out.trans (hb2.mono HB1.out.size))
      go_wp2_with fail
      go_ret
      exact ⟨rfl, HB.out⟩
  have h1 : ¬ 1500 < n := by omega
  have h2 : ¬ 1500 < len1 := by omega
  clear hbig
  have CP1 := Lib.hid (CP.out w1 Hgv.out)
  have HL1 := Lib.hid hlen1
  have HY1 := Lib.hid hby1
  -- the second half
  have CG1 := Lib.hid (fun W (h : Below w1.heap.size w1 W) => gget18_any (HP1.out W h) (Nat.le_refl _) HY1.out (by omega))
  have HPG := Lib.hid (Gr.put_get HY1.out)
  have HOK := Lib.hid (Gr.get_ok HY1.out)
  obtain ⟨G, hG⟩ : ∃ G, Gr.get l1 = G := ⟨_, rfl⟩
  rw [hG] at CG1 HPG HOK
  obtain ⟨yd, hr⟩ := G
  have HT := Lib.hid (fun (hz : hr = 0) => (HPG.out hz).1)
  unfold GgetPost at CG1
  have CQ := Lib.hid (fun W B u (K : Gv W B yd u) => gput18_any K)
  clear hlen1 hby1 hG HPG CP
  have CX := Lib.hid (fun W (B : Nat) v (l : List Nat) (h : Piece W B v l) (hB : B ≤ W.heap.size) hb hl => gget18_any h hB (l := l) hb hl)
  unfold GgetPost at CX
  -- the first half
  obtain ⟨pr, hpr⟩ : ∃ pr, Hid (Gr.put g = pr) := ⟨_, Lib.hid rfl⟩
  have HF : Hid ((¬ pr.2 = 0 ∧ pr.1.length ≤ 1520 ∧ ∀ x ∈ pr.1, x < 256) ∨ (pr.2 = 0 ∧ pr.1.length ≤ 1520 ∧ (∀ x ∈ pr.1, x < 256) ∧ Gr.get pr.1 = (g, 0))) := by
    refine Lib.hid ?_
    rw [← hpr.out]
    by_cases hr : Gr.right g = 0
    · rw [Gr.put_good hr]
      exact .inr ⟨rfl, by show (Gr.bytes g).length ≤ _; rw [Gr.bytes_length, hn.out]; omega, Gr.bytes_byte hok.out, Gr.get_put hok.out hr⟩
    · rw [Gr.put_bad hr]
      exact .inl ⟨hr, by simp, fun x hx => by cases hx⟩
  rw [hpr.out] at CP1
  obtain ⟨bs, er⟩ := pr
  unfold GputPost at CP1
  obtain ⟨nb, hnb⟩ : ∃ k, Hid (bs.length = k) := ⟨_, Lib.hid rfl⟩
  rcases HF.out with ⟨he, hl, hy⟩ | ⟨he, hl, hy, hgt⟩
  · have CX2 := Lib.hid (fun W (B : Nat) v (h : Piece W B v bs) (hB : B ≤ W.heap.size) => CX.out W B v bs h hB hy (Nat.le_trans hl (by omega)))
    have he0 : ¬ er = 0 := he
    have he1 : ¬ (er : Int) = 0 := by omega
    obtain ⟨gx, hgx⟩ : ∃ gx, Hid (Gr.get bs = gx) := ⟨_, Lib.hid rfl⟩
    rw [hgx.out] at CX2
    obtain ⟨gd2, ef⟩ := gx
    clear he
    have hnb2 : nb ≤ 1520 := by have h : bs.length ≤ 1520 := hl; have := hnb.out; omega
    clear hl hy
    by_cases hz : hr = 0
    · subst hz
      go_enter Try.func5, Try.ntmps5
      go_wp2_with fail
      refine (CP1.out).mono ?_
      rintro e w2 ⟨v2, rfl, ho2, hb2⟩
      have HB2 : Hid (Below w1.heap.size w1 w2) := Lib.hid hb2
      have CX3 := Lib.hid (CX2.out w2 w2.heap.size v2 (own_piece ho2) (Nat.le_refl _))
      obtain ⟨A2, c2, rfl, _⟩ := own_look ho2
      rw [hnb.out] at CX3
      rw [hnb.out]
      clear ho2 hb2
      go_wp2_with fail
      refine (CX3.out).mono ?_
      rintro e w3 ⟨v3, rfl, hg3, hb3⟩
      obtain ⟨g3, A3, c3, p3, q3, rfl, hgz3, hal3, hW3, hst3, hx3, hc3, hlt3⟩ := var_gv hg3.gv
      have HW3 := Lib.hid hW3
      have hk3 := hb3.trans (hc3.mono hb3.size)
      have HB3 := Lib.hid (HB2.out.trans (hk3.mono HB2.out.size))
      clear hg3 hb3 hW3 hx3 hc3 hk3
      go_wp2_with (refine wpList_store_whole rfl rfl rfl rfl rfl HW3.out (gramI rfl) rfl (by simp [Value.oneCell']) ?_; rw [hst3])
      refine (CG1.out q3 HB3.out).mono ?_
      rintro e w5 ⟨v5, rfl, hg5, hb5⟩
      obtain ⟨g5, A5, c5, p5, q5, rfl, hgz5, hal5, hW5, hst5, hx5, hc5, hlt5⟩ := var_gv hg5.gv
      have HW5 := Lib.hid hW5
      have hk5 := hb5.trans (hc5.mono hb5.size)
      have HB5 := Lib.hid (HB3.out.trans (hk5.mono HB3.out.size))
      obtain ⟨n0, n1, n2, n3, n4, n5, n6⟩ := hx5.cells
      have CQ5 := Lib.hid (CQ.out q5 g5 _ hx5.gv)
      clear hg5 hb5 hW5 hx5 hc5 hk5
      rw [HT.out (by trivial)] at CQ5
      unfold GputPost at CQ5
      go_wp2_with (refine wpList_store_whole rfl rfl rfl rfl rfl HW5.out (gramI rfl) rfl (by simp [Value.oneCell']) ?_; rw [hst5])
      refine (CQ5.out).mono ?_
      rintro e w6 ⟨v6, rfl, ho6, hb6⟩
      have HB6 := Lib.hid (HB5.out.trans (hb6.mono HB5.out.size))
      have x6 := (own_piece ho6).conv
      have x1 := (HP1.out w6 HB6.out).conv
      have hself : ((strOf l1).toList == (strOf l1).toList) = true := by simp
      obtain ⟨s1, hs1⟩ : ∃ s, Hid (strOf l1 = s) := ⟨_, Lib.hid rfl⟩
      rw [hs1.out] at x6 x1 hself
      obtain ⟨A6, c6, rfl, _⟩ := own_look ho6
      rw [HL1.out] at x6
      rw [HL1.out]
      clear hb6 ho6
      go_wp2_with fail
      refine (awake18 _).mono ?_
      rintro e w7 ⟨rfl, hb7⟩
      have HB7 := Lib.hid (HB6.out.trans (hb7.mono HB6.out.size))
      have HB := Lib.hid (HB1.out.trans (HB7.out.mono HB1.out.size))
      go_wp2_with fail
      go_ret
      exact ⟨rfl, HB.out⟩
    · have hz2 : ¬ (hr : Int) = 0 := by omega
      go_enter Try.func5, Try.ntmps5
      go_wp2_with fail
      refine (CP1.out).mono ?_
      rintro e w2 ⟨v2, rfl, ho2, hb2⟩
      have HB2 : Hid (Below w1.heap.size w1 w2) := Lib.hid hb2
      have CX3 := Lib.hid (CX2.out w2 w2.heap.size v2 (own_piece ho2) (Nat.le_refl _))
      obtain ⟨A2, c2, rfl, _⟩ := own_look ho2
      rw [hnb.out] at CX3
      rw [hnb.out]
      clear ho2 hb2
      go_wp2_with fail
      refine (CX3.out).mono ?_
      rintro e w3 ⟨v3, rfl, hg3, hb3⟩
      obtain ⟨g3, A3, c3, p3, q3, rfl, hgz3, hal3, hW3, hst3, hx3, hc3, hlt3⟩ := var_gv hg3.gv
      have HW3 := Lib.hid hW3
      have hk3 := hb3.trans (hc3.mono hb3.size)
      have HB3 := Lib.hid (HB2.out.trans (hk3.mono HB2.out.size))
      clear hg3 hb3 hW3 hx3 hc3 hk3
      go_wp2_with (refine wpList_store_whole rfl rfl rfl rfl rfl HW3.out (gramI rfl) rfl (by simp [Value.oneCell']) ?_; rw [hst3])
      refine (CG1.out q3 HB3.out).mono ?_
      rintro e w5 ⟨v5, rfl, hg5, hb5⟩
      obtain ⟨g5, A5, c5, p5, q5, rfl, hgz5, hal5, hW5, hst5, hx5, hc5, hlt5⟩ := var_gv hg5.gv
      have HW5 := Lib.hid hW5
      have hk5 := hb5.trans (hc5.mono hb5.size)
      have HB5 := Lib.hid (HB3.out.trans (hk5.mono HB3.out.size))
      obtain ⟨n0, n1, n2, n3, n4, n5, n6⟩ := hx5.cells
      have CQ5 := Lib.hid (CQ.out q5 g5 _ hx5.gv)
      clear hg5 hb5 hW5 hx5 hc5 hk5
      obtain ⟨pr5, hpr5⟩ : ∃ pr, Hid (Gr.put yd = pr) := ⟨_, Lib.hid rfl⟩
      rw [hpr5.out] at CQ5
      obtain ⟨bs5, er5⟩ := pr5
      unfold GputPost at CQ5
      go_wp2_with (refine wpList_store_whole rfl rfl rfl rfl rfl HW5.out (gramI rfl) rfl (by simp [Value.oneCell']) ?_; rw [hst5])
      refine (CQ5.out).mono ?_
      rintro e w6 ⟨v6, rfl, ho6, hb6⟩
      have HB6 := Lib.hid (HB5.out.trans (hb6.mono HB5.out.size))
      obtain ⟨A6, c6, rfl, _⟩ := own_look ho6
      clear hb6 ho6
      go_wp2_with fail
      refine (awake18 _).mono ?_
      rintro e w7 ⟨rfl, hb7⟩
      have HB7 := Lib.hid (HB6.out.trans (hb7.mono HB6.out.size))
      have HB := Lib.hid (HB1.out.trans (HB7.out.mono HB1.out.size))
      go_wp2_with fail
      go_ret
      exact ⟨rfl, HB.out⟩
  · have CX2 := Lib.hid (fun W (B : Nat) v (h : Piece W B v bs) (hB : B ≤ W.heap.size) => CX.out W B v bs h hB hy (Nat.le_trans hl (by omega)))
    rw [hgt] at CX2
    have he0 : er = 0 := he
    subst he0
    clear hgt he
    have hnb2 : nb ≤ 1520 := by have h : bs.length ≤ 1520 := hl; have := hnb.out; omega
    clear hl hy
    by_cases hz : hr = 0
    · subst hz
      go_enter Try.func5, Try.ntmps5
      go_wp2_with fail
      refine (CP1.out).mono ?_
      rintro e w2 ⟨v2, rfl, ho2, hb2⟩
      have HB2 : Hid (Below w1.heap.size w1 w2) := Lib.hid hb2
      have CX3 := Lib.hid (CX2.out w2 w2.heap.size v2 (own_piece ho2) (Nat.le_refl _))
      obtain ⟨A2, c2, rfl, _⟩ := own_look ho2
      rw [hnb.out] at CX3
      rw [hnb.out]
      clear ho2 hb2
      go_wp2_with fail
      refine (CX3.out).mono ?_
      rintro e w3 ⟨v3, rfl, hg3, hb3⟩
      obtain ⟨g3, A3, c3, p3, q3, rfl, hgz3, hal3, hW3, hst3, hx3, hc3, hlt3⟩ := var_gv hg3.gv
      have HW3 := Lib.hid hW3
      have hk3 := hb3.trans (hc3.mono hb3.size)
      have HB3 := Lib.hid (HB2.out.trans (hk3.mono HB2.out.size))
      have hy1 := HX.out q3 HB3.out
      obtain ⟨m0, m1, m2, m3, m4, m5, m6⟩ := hx3.cells
      obtain ⟨o0, o1, o2, o3, o4, o5, o6⟩ := hy1.cells
      have SM := Lib.hid (rgsame18_any hx3.gv hy1.gv)
      rw [show decide (g = g) = true from by simp, hn.out] at SM
      rw [hn.out] at m6 o6 hst3 ⊢
      clear hy1
      clear hg3 hb3 hW3 hx3 hc3 hk3
      go_wp2_with (refine wpList_store_whole rfl rfl rfl rfl rfl HW3.out (gramI rfl) rfl (by simp [Value.oneCell']) ?_; rw [hst3])
      refine (SM.out).mono ?_
      rintro e w4 ⟨rfl, hb4⟩
      have HB4 := Lib.hid (HB3.out.trans (hb4.mono HB3.out.size))
      clear hb4
      go_wp2_with fail
      refine (CG1.out w4 HB4.out).mono ?_
      rintro e w5 ⟨v5, rfl, hg5, hb5⟩
      obtain ⟨g5, A5, c5, p5, q5, rfl, hgz5, hal5, hW5, hst5, hx5, hc5, hlt5⟩ := var_gv hg5.gv
      have HW5 := Lib.hid hW5
      have hk5 := hb5.trans (hc5.mono hb5.size)
      have HB5 := Lib.hid (HB4.out.trans (hk5.mono HB4.out.size))
      obtain ⟨n0, n1, n2, n3, n4, n5, n6⟩ := hx5.cells
      have CQ5 := Lib.hid (CQ.out q5 g5 _ hx5.gv)
      clear hg5 hb5 hW5 hx5 hc5 hk5
      rw [HT.out (by trivial)] at CQ5
      unfold GputPost at CQ5
      go_wp2_with (refine wpList_store_whole rfl rfl rfl rfl rfl HW5.out (gramI rfl) rfl (by simp [Value.oneCell']) ?_; rw [hst5])
      refine (CQ5.out).mono ?_
      rintro e w6 ⟨v6, rfl, ho6, hb6⟩
      have HB6 := Lib.hid (HB5.out.trans (hb6.mono HB5.out.size))
      have x6 := (own_piece ho6).conv
      have x1 := (HP1.out w6 HB6.out).conv
      have hself : ((strOf l1).toList == (strOf l1).toList) = true := by simp
      obtain ⟨s1, hs1⟩ : ∃ s, Hid (strOf l1 = s) := ⟨_, Lib.hid rfl⟩
      rw [hs1.out] at x6 x1 hself
      obtain ⟨A6, c6, rfl, _⟩ := own_look ho6
      rw [HL1.out] at x6
      rw [HL1.out]
      clear hb6 ho6
      go_wp2_with fail
      refine (awake18 _).mono ?_
      rintro e w7 ⟨rfl, hb7⟩
      have HB7 := Lib.hid (HB6.out.trans (hb7.mono HB6.out.size))
      have HB := Lib.hid (HB1.out.trans (HB7.out.mono HB1.out.size))
      go_wp2_with fail
      go_ret
      exact ⟨rfl, HB.out⟩
    · have hz2 : ¬ (hr : Int) = 0 := by omega
      go_enter Try.func5, Try.ntmps5
      go_wp2_with fail
      refine (CP1.out).mono ?_
      rintro e w2 ⟨v2, rfl, ho2, hb2⟩
      have HB2 : Hid (Below w1.heap.size w1 w2) := Lib.hid hb2
      have CX3 := Lib.hid (CX2.out w2 w2.heap.size v2 (own_piece ho2) (Nat.le_refl _))
      obtain ⟨A2, c2, rfl, _⟩ := own_look ho2
      rw [hnb.out] at CX3
      rw [hnb.out]
      clear ho2 hb2
      go_wp2_with fail
      refine (CX3.out).mono ?_
      rintro e w3 ⟨v3, rfl, hg3, hb3⟩
      obtain ⟨g3, A3, c3, p3, q3, rfl, hgz3, hal3, hW3, hst3, hx3, hc3, hlt3⟩ := var_gv hg3.gv
      have HW3 := Lib.hid hW3
      have hk3 := hb3.trans (hc3.mono hb3.size)
      have HB3 := Lib.hid (HB2.out.trans (hk3.mono HB2.out.size))
      have hy1 := HX.out q3 HB3.out
      obtain ⟨m0, m1, m2, m3, m4, m5, m6⟩ := hx3.cells
      obtain ⟨o0, o1, o2, o3, o4, o5, o6⟩ := hy1.cells
      have SM := Lib.hid (rgsame18_any hx3.gv hy1.gv)
      rw [show decide (g = g) = true from by simp, hn.out] at SM
      rw [hn.out] at m6 o6 hst3 ⊢
      clear hy1
      clear hg3 hb3 hW3 hx3 hc3 hk3
      go_wp2_with (refine wpList_store_whole rfl rfl rfl rfl rfl HW3.out (gramI rfl) rfl (by simp [Value.oneCell']) ?_; rw [hst3])
      refine (SM.out).mono ?_
      rintro e w4 ⟨rfl, hb4⟩
      have HB4 := Lib.hid (HB3.out.trans (hb4.mono HB3.out.size))
      clear hb4
      go_wp2_with fail
      refine (CG1.out w4 HB4.out).mono ?_
      rintro e w5 ⟨v5, rfl, hg5, hb5⟩
      obtain ⟨g5, A5, c5, p5, q5, rfl, hgz5, hal5, hW5, hst5, hx5, hc5, hlt5⟩ := var_gv hg5.gv
      have HW5 := Lib.hid hW5
      have hk5 := hb5.trans (hc5.mono hb5.size)
      have HB5 := Lib.hid (HB4.out.trans (hk5.mono HB4.out.size))
      obtain ⟨n0, n1, n2, n3, n4, n5, n6⟩ := hx5.cells
      have CQ5 := Lib.hid (CQ.out q5 g5 _ hx5.gv)
      clear hg5 hb5 hW5 hx5 hc5 hk5
      obtain ⟨pr5, hpr5⟩ : ∃ pr, Hid (Gr.put yd = pr) := ⟨_, Lib.hid rfl⟩
      rw [hpr5.out] at CQ5
      obtain ⟨bs5, er5⟩ := pr5
      unfold GputPost at CQ5
      go_wp2_with (refine wpList_store_whole rfl rfl rfl rfl rfl HW5.out (gramI rfl) rfl (by simp [Value.oneCell']) ?_; rw [hst5])
      refine (CQ5.out).mono ?_
      rintro e w6 ⟨v6, rfl, ho6, hb6⟩
      have HB6 := Lib.hid (HB5.out.trans (hb6.mono HB5.out.size))
      obtain ⟨A6, c6, rfl, _⟩ := own_look ho6
      clear hb6 ho6
      go_wp2_with fail
      refine (awake18 _).mono ?_
      rintro e w7 ⟨rfl, hb7⟩
      have HB7 := Lib.hid (HB6.out.trans (hb7.mono HB6.out.size))
      have HB := Lib.hid (HB1.out.trans (HB7.out.mono HB1.out.size))
      go_wp2_with fail
      go_ret
      exact ⟨rfl, HB.out⟩
end Go.Proofs.Ytkakeojigndnnaa
