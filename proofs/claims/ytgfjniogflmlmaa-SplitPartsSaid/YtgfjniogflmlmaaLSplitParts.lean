/- The walk of the law SplitParts. -/
import Derived.Test.YtgfjniogflmlmaaAwake19
import Derived.Test.YtgfjniogflmlmaaRsa15
namespace Go.Proofs.Ytgfjniogflmlmaa
open Go.RowKit
set_option linter.unusedVariables false
set_option maxRecDepth 100000
set_option linter.unusedSimpArgs false

set_option maxHeartbeats 2000000 in
theorem splitParts_walk (m : Int) (g : Gd) (v : Value) (w : World) (w0 : (Lit.int .i64 m).wf = true) (H : Gv w w.heap.size g v) :
    Calls Try.prog 4 #[.int .i64 m, v] w fun e w' => e = .returned (.bool true) ∧ Below w.heap.size w w' := by
  obtain ⟨a1, a2⟩ := bounds_i64 w0
  have a1' : -9223372036854775808 ≤ m := by omega
  have a2' : m ≤ 9223372036854775807 := by omega
  obtain ⟨b, A, c, w1, rfl, hb, hal, hsz, hx, hb1⟩ := boxedG H
  have HB1 : Hid (Below w.heap.size w w1) := Lib.hid (by rw [hb]; exact hb1)
  obtain ⟨k0, k1, k2, k3, k4, k5, k6⟩ := hx.cells
  have HX := Lib.hid (fun W (h : Below w1.heap.size w1 W) => hx.kept h)
  have HGX := Lib.hid (fun W (q : Below w1.heap.size w1 W) => (HX.out W q).gv)
  have HCX := Lib.hid (fun W (q : Below w1.heap.size w1 W) => (HX.out W q).cells)
  have hok := hx.ok
  obtain ⟨n, hn⟩ : ∃ n, Hid (g.body.length = n) := ⟨_, Lib.hid rfl⟩
  rw [hn.out] at hal k6 HGX HCX ⊢
  clear hx hb1 H hsz w0 a1 a2
  by_cases hbig : 1500 < n
  · go_enter Try.func4, Try.ntmps4
    go_wp2_with fail
    refine (awake19 _).mono ?_
    rintro e w2 ⟨rfl, hb2⟩
    have HB2 := Lib.hid (HB1.out.trans (hb2.mono HB1.out.size))
    clear hb2
    go_wp2_with fail
    go_ret
    exact ⟨rfl, HB2.out⟩
  · have CS := Lib.hid (fun W (q : Below w1.heap.size w1 W) => csplit19_any (HGX.out W q) (by rw [hn.out]; omega) a1' a2')
    have RS := Lib.hid (fun W (q : Below w1.heap.size w1 W) => rsplit19_any (HGX.out W q) (by rw [hn.out]; omega) a1' a2')
    have HBy := Lib.hid (Sp.split_byte (m := m) hok)
    obtain ⟨S, hS⟩ : ∃ S, Hid (Sp.split m g = S) := ⟨_, Lib.hid rfl⟩
    rw [hS.out] at CS RS HBy
    obtain ⟨ls, x⟩ := S
    unfold SplitPost at CS RS
    simp only at CS RS HBy
    have e2 : ((x : Int) == (x : Int)) = true := by simp
    clear hok
    go_enter Try.func4, Try.ntmps4
    go_wp2_with fail
    refine (CS.out _ (Below.refl _ _)).mono ?_
    rintro e w2 ⟨v2, rfl, ho2, hb2⟩
    have H2 := Lib.hid hb2
    have HL2 := Lib.hid (fun W (h : Below w2.heap.size w2 W) => (ho2.below h).bl)
    obtain ⟨A2, c2, rfl, _⟩ := ho2.bl.shape
    obtain ⟨j0, j1, j2, j3, j4, j5, j6⟩ := HCX.out w2 hb2
    clear ho2 hb2 k0 k1 k2 k3 k4 k5 k6
    go_wp2_with fail
    refine (RS.out _ H2.out).mono ?_
    rintro e w3 ⟨v3, rfl, ho3, hb3⟩
    have H3 := Lib.hid (H2.out.trans (hb3.mono H2.out.size))
    have L2 := Lib.hid (HL2.out w3 hb3)
    have L3 := Lib.hid ho3.bl
    have SA := Lib.hid (rsame15_any L2.out L3.out (Nat.le_refl _) (Nat.le_refl _) HBy.out HBy.out)
    rw [decide_eq_true (rfl : ls = ls)] at SA
    obtain ⟨A3, c3, rfl, _⟩ := ho3.bl.shape
    clear ho3 hb3
    go_wp2_with fail
    refine (SA.out).mono ?_
    rintro e w4 ⟨rfl, hb4⟩
    have H4 := Lib.hid (H3.out.trans (hb4.mono H3.out.size))
    clear hb4
    go_wp2_with fail
    refine (awake19 _).mono ?_
    rintro e w5 ⟨rfl, hb5⟩
    have H5 := Lib.hid (HB1.out.trans ((H4.out.trans (hb5.mono H4.out.size)).mono HB1.out.size))
    clear hb5
    go_wp2_with fail
    go_ret
    exact ⟨rfl, H5.out⟩
end Go.Proofs.Ytgfjniogflmlmaa
