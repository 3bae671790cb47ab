/- The walk of the law SplitBack. -/
import Derived.Test.YtgfjniogflmlmaaAwake19
import Derived.Test.YtgfjniogflmlmaaRsa15
import Derived.Test.YtgfjniogflmlmaaRgg18
namespace Go.Proofs.Ytgfjniogflmlmaa
open Go.RowKit
set_option linter.unusedVariables false
set_option maxRecDepth 100000
set_option linter.unusedSimpArgs false

set_option maxHeartbeats 4000000 in
theorem splitBack_walk (m : Int) (g : Gd) (v : Value) (w : World) (w0 : (Lit.int .i64 m).wf = true) (H : Gv w w.heap.size g v) :
    Calls Try.prog 5 #[.int .i64 m, v] w fun e w' => e = .returned (.bool true) ∧ Below w.heap.size w w' := by
  obtain ⟨a1, a2⟩ := bounds_i64 w0
  have a1' : -9223372036854775808 ≤ m := by omega
  have a2' : m ≤ 9223372036854775807 := by omega
  obtain ⟨b, A, c, w1, rfl, hb, hal, hsz, hx, hb1⟩ := boxedG H
  have HB1 : Hid (Below w.heap.size w w1) := Lib.hid (by rw [hb]; exact hb1)
  obtain ⟨k0, k1, k2, k3, k4, k5, k6⟩ := hx.cells
  have HX := Lib.hid (fun W (h : Below w1.heap.size w1 W) => hx.kept h)
  have HGX := Lib.hid (fun W (q : Below w1.heap.size w1 W) => (HX.out W q).gv)
  have HPX := Lib.hid (fun W (q : Below w1.heap.size w1 W) => (HX.out W q).piece.conv)
  have HCX := Lib.hid (fun W (q : Below w1.heap.size w1 W) => (HX.out W q).cells)
  have hok := hx.ok
  obtain ⟨n, hn⟩ : ∃ n, Hid (g.body.length = n) := ⟨_, Lib.hid rfl⟩
  obtain ⟨gk, hgk⟩ : ∃ q, Hid (g.kind = q) := ⟨_, Lib.hid rfl⟩
  obtain ⟨gv, hgv⟩ : ∃ q, Hid (g.version = q) := ⟨_, Lib.hid rfl⟩
  obtain ⟨ge, hge⟩ : ∃ q, Hid (g.epoch = q) := ⟨_, Lib.hid rfl⟩
  obtain ⟨gi, hgi⟩ : ∃ q, Hid (g.id = q) := ⟨_, Lib.hid rfl⟩
  rw [hn.out] at hal HGX HCX HPX ⊢
  rw [hgk.out, hgv.out, hge.out, hgi.out] at hal HGX HCX ⊢
  clear hx hb1 H hsz w0 a1 a2 k0 k1 k2 k3 k4 k5 k6
  obtain ⟨k0, k1, k2, k3, k4, k5, k6⟩ := HCX.out w1 (Below.refl _ _)
  by_cases hbig : 1500 < n
  · go_enter Try.func5, Try.ntmps5
    go_wp2_with fail
    refine (awake19 _).mono ?_
    rintro e w2 ⟨rfl, hb2⟩
    have HB2 := Lib.hid (HB1.out.trans (hb2.mono HB1.out.size))
    clear hb2
    go_wp2_with fail
    go_ret
    exact ⟨rfl, HB2.out⟩
  · have CS := Lib.hid (fun W (q : Below w1.heap.size w1 W) => csplit19_any (HGX.out W q) (by rw [hn.out]; omega) a1' a2')
    have HNo := Lib.hid (Sp.split_none (m := m) (g := g))
    have HSo := Lib.hid (Sp.split_some (m := m) (g := g))
    obtain ⟨S, hS⟩ : ∃ S, Hid (Sp.split m g = S) := ⟨_, Lib.hid rfl⟩
    rw [hS.out] at CS HNo HSo
    obtain ⟨ls, x⟩ := S
    unfold SplitPost at CS
    simp only at CS HNo HSo
    by_cases hx0 : x = 0
    case neg =>
      have hne : ((x : Int) != 0) = true := by simp; omega
      obtain rfl := HNo.out hx0
      clear HSo HNo
      go_enter Try.func5, Try.ntmps5
      go_wp2_with fail
      refine (CS.out _ (Below.refl _ _)).mono ?_
      rintro e w2 ⟨v2, rfl, ho2, hb2⟩
      have H2 := Lib.hid hb2
      obtain ⟨A2, c2, rfl, _⟩ := ho2.bl.shape
      simp only [List.length_nil]
      clear ho2 hb2
      go_wp2_with fail
      refine (awake19 _).mono ?_
      rintro e w5 ⟨rfl, hb5⟩
      have H5 := Lib.hid (HB1.out.trans ((H2.out.trans (hb5.mono H2.out.size)).mono HB1.out.size))
      clear hb5
      go_wp2_with fail
      go_ret
      exact ⟨rfl, H5.out⟩
    subst hx0
    obtain ⟨r, k, hk0, hk65, rfl, hkind, hrm, hr0, hrl, hnk⟩ := HSo.out rfl
    have HK := Lib.hid hkind
    have HOk := Lib.hid hok
    have HNk := Lib.hid hnk
    clear HNo HSo hkind hok hnk hS
    go_enter Try.func5, Try.ntmps5
    go_wp2_with fail
    refine (CS.out _ (Below.refl _ _)).mono ?_
    rintro e w2 ⟨v2, rfl, ho2, hb2⟩
    have H2 := Lib.hid hb2
    have HBl := Lib.hid ho2.bl
    obtain ⟨A2, c2, rfl, hk2, _⟩ := ho2.bl.shape
    have HF : Hid (∀ i, i < k → ∃ b off Au cu, A2 = some ⟨b, off, none⟩ ∧ b < w2.heap.size ∧ ∀ W, Below w2.heap.size w2 W → W.cell? ⟨b, off + i, none⟩ = some (.slice Au (Gr.bytes (Sp.part g r k i)).length cu) ∧ Piece W w2.heap.size (.slice Au (Gr.bytes (Sp.part g r k i)).length cu) (Gr.bytes (Sp.part g r k i))) := Lib.hid (fun i h => by
      have h' := Bl.fix HBl.out (i := i) (by rw [Sp.ahead_length]; exact h)
      rw [Sp.ahead_get] at h'
      exact h')
    rw [Sp.ahead_length] at hk2 ⊢
    clear ho2 hb2 CS
    go_wp2_with fail
    go_loopw [7, 8] (fun y x wr => ∃ j : Nat, j ≤ k ∧ x = .int .i64 (j : Int) ∧ Hid (wr.ownsRow w2.heap.size 5 1 y (g.body.take (j * r)).length (ints .u8 (g.body.take (j * r)))) ∧ Hid (Below w2.heap.size w2 wr)) (fun _ x _ => k - (intOf x).toNat)
    case atStart => exact ⟨0, by omega, rfl, Lib.hid (by rw [Nat.zero_mul]; exact World.ownsRow_nil _ _ 5 1), Lib.hid (Below.refl _ _)⟩
    case round =>
      obtain ⟨j, hj, rfl, HO, HB⟩ := hrel
      by_cases hlt : j < k
      · obtain ⟨bb, off, Au, cu, rfl, hbb, hfx⟩ := HF.out j hlt
        have HFx := Lib.hid (fun W (q : Below w2.heap.size w2 W) => hfx W q)
        have HPok := Lib.hid (Sp.part_ok (r := r) HOk.out hk65 hlt)
        have HPr := Lib.hid (Sp.part_right HK.out hrl hlt)
        have HPl := Sp.part_len g r k j
        have HBs := Lib.hid (Sp.body_succ g r k j)
        have HGe := Lib.hid (Gr.get_put HPok.out HPr.out)
        have HBy := Lib.hid (Gr.bytes_byte HPok.out)
        have HBl2 := Gr.bytes_length (Sp.part g r k j)
        have E0 : Hid ((Sp.part g r k j).kind = gk) := Lib.hid hgk.out
        have E1 : Hid ((Sp.part g r k j).version = gv) := Lib.hid hgv.out
        have E2 : Hid ((Sp.part g r k j).epoch = ge) := Lib.hid hge.out
        have E3 : Hid ((Sp.part g r k j).id = gi) := Lib.hid hgi.out
        have E4 : Hid ((Sp.part g r k j).index = j) := Lib.hid rfl
        have E5 : Hid ((Sp.part g r k j).count = k) := Lib.hid rfl
        obtain ⟨bs, hbs⟩ : ∃ l, Hid (Gr.bytes (Sp.part g r k j) = l) := ⟨_, Lib.hid rfl⟩
        rw [hbs.out] at HGe HBy HBl2 HFx
        obtain ⟨P, hP⟩ : ∃ P, Hid (Sp.part g r k j = P) := ⟨_, Lib.hid rfl⟩
        rw [hP.out] at HPl HBs HGe HBl2 E0 E1 E2 E3 E4 E5
        obtain ⟨q, hq⟩ : ∃ q, Hid (P.body.length = q) := ⟨_, Lib.hid rfl⟩
        obtain ⟨lb, hlb⟩ : ∃ lb, Hid (bs.length = lb) := ⟨_, Lib.hid rfl⟩
        rw [hlb.out, hq.out] at HBl2
        rw [hq.out] at HPl
        have hqr : q ≤ r := by omega
        have hlm : (lb : Int) ≤ m := by omega
        have hlm' : ¬ m < (lb : Int) := by omega
        have CG := Lib.hid (fun W (h : Below w2.heap.size w2 W) => rgget18_any (HFx.out W h).2 h.size HBy.out (by rw [hlb.out]; omega))
        rw [HGe.out] at CG
        rw [hlb.out] at CG HFx
        unfold GgetPost at CG
        have d := (HFx.out wr HB.out).1
        have hHB := HB.out.size
        have hcj : IntKind.i64.wrap (j : Int) = (j : Int) := by rw [IntKind.wrap_i64]; omega
        have hck : IntKind.i64.wrap (k : Int) = (k : Int) := by rw [IntKind.wrap_i64]; omega
        have n0 : ((gk : Int) != (gk : Int)) = false := by simp
        have n1 : ((gv : Int) != (gv : Int)) = false := by simp
        have n2 : ((ge : Int) != (ge : Int)) = false := by simp
        have n3 : ((gi : Int) != (gi : Int)) = false := by simp
        have n4 : ((j : Int) != (j : Int)) = false := by simp
        have n5 : ((k : Int) != (k : Int)) = false := by simp
        obtain ⟨T, hT⟩ : ∃ T, Hid (g.body.take (j * r) = T) := ⟨_, Lib.hid rfl⟩
        rw [hT.out] at HO HBs
        have hTl : T.length ≤ n := by rw [← hT.out, List.length_take, hn.out]; omega
        obtain ⟨tl, htl⟩ : ∃ tl, Hid (T.length = tl) := ⟨_, Lib.hid rfl⟩
        rw [htl.out] at HO hTl
        obtain ⟨Ay, cy, rfl, _⟩ := own_look HO.out
        skip
        clear hfx HBl2 HPl k0 k1 k2 k3 k4 k5 k6
        go_wp2_with fail
        refine (CG.out wr HB.out).mono ?_
        rintro e w3 ⟨v3, rfl, hg3, hb3⟩
        obtain ⟨g3, A3, c3, p3, q3, rfl, hgz3, hal3, hW3, hst3, hx3, hc3, hlt3⟩ := var_gv hg3.gv
        have HW3 := Lib.hid hW3
        have hk3 : Below wr.heap.size wr q3 := hb3.trans (hc3.mono hb3.size)
        have HB3 := Lib.hid hk3
        have HB23 := Lib.hid (HB.out.trans (hk3.mono hHB))
        have hc := hx3.cells
        rw [E0.out, E1.out, E2.out, E3.out, E4.out, E5.out, hq.out] at hc
        obtain ⟨m0, m1, m2, m3, m4, m5, m6⟩ := hc
        obtain ⟨k0, k1, k2, k3, k4, k5, k6⟩ := HCX.out q3 (H2.out.trans (HB23.out.mono H2.out.size))
        have d3 := (HFx.out q3 HB23.out).1
        obtain ⟨A', c', he, hse, hnu, hle3, hmx3⟩ := hx3.piece
        cases he
        unfold maxLen at hmx3
        rw [hq.out] at hle3
        have HSe := Lib.hid hse
        have HNu := Lib.hid hnu
        have HO3 := Lib.hid (own_below HO.out hk3)
        have hq3 : w2.heap.size ≤ q3.heap.size := HB23.out.size
        clear hg3 hb3 hW3 hx3 hc3 hk3 d hse hnu
        rw [hq.out] at hst3 ⊢
        go_wp2_with (first | (refine wpList_store_whole rfl rfl rfl rfl rfl HW3.out (gramI rfl) rfl (by simp [Value.oneCell']) ?_; rw [hst3]) | (at_builtin; refine wpList_append_row byteT _ _ rfl rfl w2.heap.size _ tl _ rfl HO3.out q c3 rfl hq.out HNu.out HSe.out (by omega) hq3 ?_; intro v4 w4 ho4 hg4))
        refine ⟨⟨j + 1, by omega, by simp, ?_, ?_⟩, by simp [intOf]; omega⟩
        · rw [← ints_append] at ho4
          rw [HBs.out, List.length_append, htl.out, hq.out]
          exact Lib.hid ho4
        · exact Lib.hid (HB23.out.grown hg4 hq3 (fun z hz => (HO3.out.lt z hz).1))
      · obtain rfl : j = k := by omega
        have hbody : g.body.take (j * r) = g.body := List.take_of_length_le HNk.out
        rw [hbody] at HO
        have x6 := (own_piece HO.out).conv
        rw [hn.out] at HO
        have HBw := Lib.hid (H2.out.trans (HB.out.mono H2.out.size))
        have x1 := HPX.out wr HBw.out
        have hself : ((strOf g.body).toList == (strOf g.body).toList) = true := by simp
        obtain ⟨s1, hs1⟩ : ∃ s, Hid (strOf g.body = s) := ⟨_, Lib.hid rfl⟩
        rw [hs1.out] at x6 x1 hself
        obtain ⟨Ay, cy, rfl, _⟩ := own_look HO.out
        obtain ⟨q0, q1, q2, q3, q4, q5, q6⟩ := HCX.out wr HBw.out
        clear k0 k1 k2 k3 k4 k5 k6
        go_wp2_with fail
        refine (awake19 _).mono ?_
        rintro e w5 ⟨rfl, hb5⟩
        have H5 := Lib.hid (HB1.out.trans ((HBw.out.trans (hb5.mono HBw.out.size)).mono HB1.out.size))
        clear hb5
        go_wp2_with fail
        go_ret
        exact ⟨rfl, H5.out⟩
end Go.Proofs.Ytgfjniogflmlmaa
