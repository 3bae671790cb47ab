/- Contract of layer 18's code: Put. -/
import Derived.Test.YtgfjniogflmlmaaFc18a
import Derived.Test.YtgfjniogflmlmaaRgb18
namespace Go.Proofs.Ytgfjniogflmlmaa
open Go.RowKit
set_option linter.unusedVariables false
set_option maxRecDepth 100000
set_option linter.unusedSimpArgs false

/-- a goal that the walk leaves alone -/
def HoldP18 (p : Prop) : Prop := p
theorem holdP18 {p : Prop} (h : HoldP18 p) : p := h
set_option maxHeartbeats 2000000 in
theorem gput18_any {w : World} {B : Nat} {g : Gd} {v : Value} (H : Gv w B g v) :
    Calls Try.prog 15 #[v] w (GputPost (Gr.put g) w) := by
  obtain ⟨b, A, c, w1, rfl, hb, hal, hsz, hx, hb1⟩ := boxedG H
  have HB1 : Hid (Below w.heap.size w w1) := Lib.hid (by rw [hb]; exact hb1)
  have ok := H.ok
  obtain ⟨k0, k1, k2, k3, k4, k5, k6⟩ := hx.cells
  have CR := Lib.hid (gright18_any hx.gv)
  have HD := Lib.hid (fun h => Gr.put_bad (g := g) h)
  have HG := Lib.hid (fun h => Gr.put_good (g := g) h)
  have HLen := Lib.hid (fun h => Gr.right_len (g := g) h)
  have HFb := Lib.hid (Gr.front_byte ok)
  have hwz : w.heap.size ≤ w1.heap.size := by omega
  obtain ⟨base, hbase⟩ : ∃ base, Hid (w1.heap.size = base) := ⟨_, Lib.hid rfl⟩
  have HC : Hid (∀ W, Below base w1 W → W.cell? ⟨b, 0, none⟩ = some (.int .u8 (g.kind : Int)) ∧ W.cell? ⟨b, 1, none⟩ = some (.int .u8 (g.version : Int)) ∧ W.cell? ⟨b, 2, none⟩ = some (.int .u32 (g.epoch : Int)) ∧ W.cell? ⟨b, 3, none⟩ = some (.int .u32 (g.id : Int)) ∧ W.cell? ⟨b, 4, none⟩ = some (.int .u16 (g.index : Int)) ∧ W.cell? ⟨b, 5, none⟩ = some (.int .u16 (g.count : Int)) ∧ W.cell? ⟨b, 6, none⟩ = some (.slice A g.body.length c)) := Lib.hid (fun W h => (hx.below h (by have := hbase.out; omega)).cells)
  have HPc := Lib.hid (fun W (h : Below base w1 W) => (hx.piece.below (h.mono (by have := hbase.out; omega)) : Piece W b (.slice A g.body.length c) g.body))
  have q0 := ok.kind
  have q1 := ok.version
  have q2 := ok.epoch
  have q3 := ok.id
  have q4 := ok.index
  have q5 := ok.count
  obtain ⟨r, hr⟩ : ∃ r, Hid (Gr.right g = r) := ⟨_, Lib.hid rfl⟩
  rw [hr.out] at CR HG HD HLen
  rw [hbase.out] at CR
  obtain ⟨n, hn⟩ : ∃ n, Hid (g.body.length = n) := ⟨_, Lib.hid rfl⟩
  rw [hn.out] at hal k6 CR HC HPc HLen ⊢
  have hcc : n ≤ c ∧ c ≤ 9223372036854775807 ∧ (A = none → c = 0) := by
    obtain ⟨A', c', e, _, k1, k2, k3⟩ := HPc.out w1 (Below.refl _ _)
    injection e with e1 _ e2
    subst e1 e2
    unfold maxLen at k3
    rw [hn.out] at k2
    exact ⟨k2, by omega, k1⟩
  have hcn := Lib.hid hcc.2.2
  have hc1 := hcc.1
  have hc2 := hcc.2.1
  have HSee := Lib.hid (fun W (h : Below base w1 W) => (by
    obtain ⟨A', c', e, k0, _⟩ := HPc.out W h
    injection e with e1 _ _
    subst e1
    exact k0 : Sees .u8 W b A g.body))
  clear hx hb1 H hsz ok hcc
  by_cases h0 : r = 0
  case neg =>
    rw [HD.out h0]
    have hne : ((r : Int) != 0) = true := by simp; omega
    clear h0
    go_enter Try.func15, Try.ntmps15
    go_wp2_with fail
    refine (CR.out).mono ?_
    rintro e w2 ⟨rfl, hb2⟩
    have HB2 := Lib.hid (HB1.out.trans (hb2.mono (by have := hbase.out; omega)))
    clear hb2
    go_wp2_with fail
    go_ret2
    exact ⟨_, rfl, World.ownsRow_nil _ _ 5 1, HB2.out⟩
  subst h0
  rw [HG.out rfl]
  have hl := HLen.out rfl
  obtain ⟨m, hm⟩ : ∃ m, Hid (20 + n = m) := ⟨_, Lib.hid rfl⟩
  have hm20 : (20 : Int) + (n : Int) = (m : Int) := by have := hm.out; omega
  have hml : m ≤ 65507 := by have := hm.out; omega
  clear HG HD HLen
  go_enter Try.func15, Try.ntmps15
  go_wp2_with fail
  refine (CR.out).mono ?_
  rintro e w2 ⟨rfl, hb2⟩
  have HP2 := Lib.hid hb2
  obtain ⟨c0, c1, c2, c3, c4, c5, c6⟩ := HC.out w2 hb2
  obtain ⟨i0, hi, hz0, hz1, hz2⟩ := info_parts byteT.info
  have hw2z : base ≤ w2.heap.size := by have := hb2.size; have := hbase.out; omega
  obtain ⟨p0, hmk, ho0, hg0⟩ := run_make_own (P := Try.prog) (w := w2) base 30 5 i0 _ 1 byteT.under hi hz0 hz1 .i64 .i64 m (by rw [hz2]; omega) (by unfold maxLen; omega) hw2z
  have HO0 := Lib.hid ho0
  have HP0 : Hid (Below base w1 p0) := Lib.hid (hb2.grown hg0 hw2z (fun k hk => by cases hk))
  obtain ⟨v0, hv0⟩ : ∃ v, Hid ((Value.slice (some ⟨w2.heap.size, 0, none⟩) 0 m) = v) := ⟨_, Lib.hid rfl⟩
  clear ho0 hg0 hi hz0 hz1 hz2 hb2 CR
  go_wp2_with fail
  rw [hv0.out] at HO0
  rw [hv0.out]
  clear hmk
  have hpz0 : base ≤ p0.heap.size := by have := HP0.out.size; have := hbase.out; omega
  obtain ⟨x0, hx0⟩ : ∃ x, Hid (([] : List Nat) = x) := ⟨_, Lib.hid rfl⟩
  have hxl0 : Hid (x0.length = 0) := Lib.hid (by rw [← hx0.out]; rfl)
  replace HO0 : Hid (p0.ownsRow base 5 1 v0 0 (ints .u8 x0)) := Lib.hid (by rw [← hx0.out]; exact HO0.out)
  have F0 := Lib.hid (fix_any base v0 x0 42830 (2 : Int) p0 (by omega) (by omega) (by omega) (by rw [hxl0.out]; exact HO0.out) hpz0 (by rw [hxl0.out]; omega))
  rw [show Bm.fixI 42830 (2 : Int) = Bm.fix 2 42830 from Bm.fixI_good (k := 2) (by omega) (by omega)] at F0
  obtain ⟨x1, hx1⟩ : ∃ x, Hid (x0 ++ Bm.fix 2 42830 = x) := ⟨_, Lib.hid rfl⟩
  have hxl1 : Hid (x1.length = 2) := Lib.hid (by rw [← hx1.out, List.length_append, hxl0.out, Bm.fix_length])
  rw [hx1.out] at F0
  refine (F0.out).mono ?_
  rintro e p1 ⟨v1, rfl, ho1, hbq1⟩
  have HP1 : Hid (Below base w1 p1) := Lib.hid (HP0.out.trans hbq1)
  rw [hxl1.out] at ho1
  have HO1 := Lib.hid ho1
  have hpz1 : base ≤ p1.heap.size := by have := HP1.out.size; have := hbase.out; omega
  clear ho1 hbq1 F0 hpz0
  clear c0 c1 c2 c3 c4 c5 c6
  obtain ⟨c0, c1, c2, c3, c4, c5, c6⟩ := HC.out p1 HP1.out
  go_wp2_with fail
  have F1 := Lib.hid (fix_any base v1 x1 g.kind (1 : Int) p1 (by omega) (by omega) (by omega) (by rw [hxl1.out]; exact HO1.out) hpz1 (by rw [hxl1.out]; omega))
  rw [show Bm.fixI g.kind (1 : Int) = Bm.fix 1 g.kind from Bm.fixI_good (k := 1) (by omega) (by omega)] at F1
  obtain ⟨x2, hx2⟩ : ∃ x, Hid (x1 ++ Bm.fix 1 g.kind = x) := ⟨_, Lib.hid rfl⟩
  have hxl2 : Hid (x2.length = 3) := Lib.hid (by rw [← hx2.out, List.length_append, hxl1.out, Bm.fix_length])
  rw [hx2.out] at F1
  refine (F1.out).mono ?_
  rintro e p2 ⟨v2, rfl, ho2, hbq2⟩
  have HP2 : Hid (Below base w1 p2) := Lib.hid (HP1.out.trans hbq2)
  rw [hxl2.out] at ho2
  have HO2 := Lib.hid ho2
  have hpz2 : base ≤ p2.heap.size := by have := HP2.out.size; have := hbase.out; omega
  clear ho2 hbq2 F1 hpz1
  clear c0 c1 c2 c3 c4 c5 c6
  obtain ⟨c0, c1, c2, c3, c4, c5, c6⟩ := HC.out p2 HP2.out
  go_wp2_with fail
  have F2 := Lib.hid (fix_any base v2 x2 g.version (1 : Int) p2 (by omega) (by omega) (by omega) (by rw [hxl2.out]; exact HO2.out) hpz2 (by rw [hxl2.out]; omega))
  rw [show Bm.fixI g.version (1 : Int) = Bm.fix 1 g.version from Bm.fixI_good (k := 1) (by omega) (by omega)] at F2
  obtain ⟨x3, hx3⟩ : ∃ x, Hid (x2 ++ Bm.fix 1 g.version = x) := ⟨_, Lib.hid rfl⟩
  have hxl3 : Hid (x3.length = 4) := Lib.hid (by rw [← hx3.out, List.length_append, hxl2.out, Bm.fix_length])
  rw [hx3.out] at F2
  refine (F2.out).mono ?_
  rintro e p3 ⟨v3, rfl, ho3, hbq3⟩
  have HP3 : Hid (Below base w1 p3) := Lib.hid (HP2.out.trans hbq3)
  rw [hxl3.out] at ho3
  have HO3 := Lib.hid ho3
  have hpz3 : base ≤ p3.heap.size := by have := HP3.out.size; have := hbase.out; omega
  clear ho3 hbq3 F2 hpz2
  clear c0 c1 c2 c3 c4 c5 c6
  obtain ⟨c0, c1, c2, c3, c4, c5, c6⟩ := HC.out p3 HP3.out
  go_wp2_with fail
  have F3 := Lib.hid (fix_any base v3 x3 g.epoch (4 : Int) p3 (by omega) (by omega) (by omega) (by rw [hxl3.out]; exact HO3.out) hpz3 (by rw [hxl3.out]; omega))
  rw [show Bm.fixI g.epoch (4 : Int) = Bm.fix 4 g.epoch from Bm.fixI_good (k := 4) (by omega) (by omega)] at F3
  obtain ⟨x4, hx4⟩ : ∃ x, Hid (x3 ++ Bm.fix 4 g.epoch = x) := ⟨_, Lib.hid rfl⟩
  have hxl4 : Hid (x4.length = 8) := Lib.hid (by rw [← hx4.out, List.length_append, hxl3.out, Bm.fix_length])
  rw [hx4.out] at F3
  refine (F3.out).mono ?_
  rintro e p4 ⟨v4, rfl, ho4, hbq4⟩
  have HP4 : Hid (Below base w1 p4) := Lib.hid (HP3.out.trans hbq4)
  rw [hxl4.out] at ho4
  have HO4 := Lib.hid ho4
  have hpz4 : base ≤ p4.heap.size := by have := HP4.out.size; have := hbase.out; omega
  clear ho4 hbq4 F3 hpz3
  clear c0 c1 c2 c3 c4 c5 c6
  obtain ⟨c0, c1, c2, c3, c4, c5, c6⟩ := HC.out p4 HP4.out
  go_wp2_with fail
  have F4 := Lib.hid (fix_any base v4 x4 g.id (4 : Int) p4 (by omega) (by omega) (by omega) (by rw [hxl4.out]; exact HO4.out) hpz4 (by rw [hxl4.out]; omega))
  rw [show Bm.fixI g.id (4 : Int) = Bm.fix 4 g.id from Bm.fixI_good (k := 4) (by omega) (by omega)] at F4
  obtain ⟨x5, hx5⟩ : ∃ x, Hid (x4 ++ Bm.fix 4 g.id = x) := ⟨_, Lib.hid rfl⟩
  have hxl5 : Hid (x5.length = 12) := Lib.hid (by rw [← hx5.out, List.length_append, hxl4.out, Bm.fix_length])
  rw [hx5.out] at F4
  refine (F4.out).mono ?_
  rintro e p5 ⟨v5, rfl, ho5, hbq5⟩
  have HP5 : Hid (Below base w1 p5) := Lib.hid (HP4.out.trans hbq5)
  rw [hxl5.out] at ho5
  have HO5 := Lib.hid ho5
  have hpz5 : base ≤ p5.heap.size := by have := HP5.out.size; have := hbase.out; omega
  clear ho5 hbq5 F4 hpz4
  clear c0 c1 c2 c3 c4 c5 c6
  obtain ⟨c0, c1, c2, c3, c4, c5, c6⟩ := HC.out p5 HP5.out
  go_wp2_with fail
  have F5 := Lib.hid (fix_any base v5 x5 g.index (2 : Int) p5 (by omega) (by omega) (by omega) (by rw [hxl5.out]; exact HO5.out) hpz5 (by rw [hxl5.out]; omega))
  rw [show Bm.fixI g.index (2 : Int) = Bm.fix 2 g.index from Bm.fixI_good (k := 2) (by omega) (by omega)] at F5
  obtain ⟨x6, hx6⟩ : ∃ x, Hid (x5 ++ Bm.fix 2 g.index = x) := ⟨_, Lib.hid rfl⟩
  have hxl6 : Hid (x6.length = 14) := Lib.hid (by rw [← hx6.out, List.length_append, hxl5.out, Bm.fix_length])
  rw [hx6.out] at F5
  refine (F5.out).mono ?_
  rintro e p6 ⟨v6, rfl, ho6, hbq6⟩
  have HP6 : Hid (Below base w1 p6) := Lib.hid (HP5.out.trans hbq6)
  rw [hxl6.out] at ho6
  have HO6 := Lib.hid ho6
  have hpz6 : base ≤ p6.heap.size := by have := HP6.out.size; have := hbase.out; omega
  clear ho6 hbq6 F5 hpz5
  clear c0 c1 c2 c3 c4 c5 c6
  obtain ⟨c0, c1, c2, c3, c4, c5, c6⟩ := HC.out p6 HP6.out
  go_wp2_with fail
  have F6 := Lib.hid (fix_any base v6 x6 g.count (2 : Int) p6 (by omega) (by omega) (by omega) (by rw [hxl6.out]; exact HO6.out) hpz6 (by rw [hxl6.out]; omega))
  rw [show Bm.fixI g.count (2 : Int) = Bm.fix 2 g.count from Bm.fixI_good (k := 2) (by omega) (by omega)] at F6
  obtain ⟨x7, hx7⟩ : ∃ x, Hid (x6 ++ Bm.fix 2 g.count = x) := ⟨_, Lib.hid rfl⟩
  have hxl7 : Hid (x7.length = 16) := Lib.hid (by rw [← hx7.out, List.length_append, hxl6.out, Bm.fix_length])
  rw [hx7.out] at F6
  refine (F6.out).mono ?_
  rintro e p7 ⟨v7, rfl, ho7, hbq7⟩
  have HP7 : Hid (Below base w1 p7) := Lib.hid (HP6.out.trans hbq7)
  rw [hxl7.out] at ho7
  have HO7 := Lib.hid ho7
  have hpz7 : base ≤ p7.heap.size := by have := HP7.out.size; have := hbase.out; omega
  clear ho7 hbq7 F6 hpz6
  clear c0 c1 c2 c3 c4 c5 c6
  obtain ⟨c0, c1, c2, c3, c4, c5, c6⟩ := HC.out p7 HP7.out
  go_wp2_with (at_builtin; refine wpList_append_row byteT _ _ rfl rfl base v7 16 (ints .u8 x7) rfl HO7.out n c rfl hn.out hcn.out (HSee.out p7 HP7.out) (by omega) hpz7 ?_; intro v8 p8 hv8 hg8; refine holdP18 ?_)
  rw [← ints_append] at hv8
  have HP8 : Hid (Below base w1 p8) := Lib.hid (HP7.out.grown hg8 hpz7 (fun q hq => (HO7.out.lt q hq).1))
  have hfr : Hid (x7 ++ g.body = Gr.front g) := Lib.hid (by
    rw [← hx7.out, ← hx6.out, ← hx5.out, ← hx4.out, ← hx3.out, ← hx2.out, ← hx1.out, ← hx0.out]
    unfold Gr.front Gr.mid
    simp only [List.append_assoc, List.nil_append]
    rw [show Bm.fix 2 42830 = [167, 78] from by decide]
    rfl)
  have hfl := Gr.front_length g
  rw [hn.out] at hfl
  have hbq : Hid (Gr.bytes g = Gr.front g ++ Gr.le 4 (Cm.sum (Gr.front g))) := Lib.hid rfl
  rw [hfr.out] at hv8
  obtain ⟨f, hf⟩ : ∃ f, Hid (Gr.front g = f) := ⟨_, Lib.hid rfl⟩
  rw [hf.out] at hv8 hfl HFb
  obtain ⟨k, hk⟩ : ∃ k, Hid (f.length = k) := ⟨_, Lib.hid rfl⟩
  have HO8 : Hid (p8.ownsRow base 5 1 v8 k (ints .u8 f)) := Lib.hid (by rw [← hk.out, hfl, Nat.add_comm]; exact hv8)
  rw [hk.out] at hfl
  have hp8z : base ≤ p8.heap.size := by have := HP8.out.size; have := hbase.out; omega
  have CS := Lib.hid (seal18_any (own_piece (show p8.ownsRow base 5 1 v8 f.length (ints .u8 f) by rw [hk.out]; exact HO8.out)) HFb.out)
  obtain ⟨z, hz⟩ : ∃ z, Hid (Gr.le 4 (Cm.sum f) = z) := ⟨_, Lib.hid rfl⟩
  have hzl : Hid (z.length = 4) := Lib.hid (by rw [← hz.out, Gr.le_length])
  rw [hz.out] at CS
  clear hv8 hg8
  unfold HoldP18
  go_wp2_with fail
  refine (CS.out).mono ?_
  rintro e r5 ⟨t5, rfl, hr5, hrb5⟩
  have hbr5 : Below base w1 r5 := HP8.out.trans (hrb5.mono hp8z)
  obtain ⟨At5, ct5, rfl, hts5, htn5, htc5, _⟩ := own_piece hr5
  have HR5 := Lib.hid hts5
  have HTN5 := Lib.hid htn5
  rw [hzl.out] at htc5
  have hoo5 : Hid (r5.ownsRow base 5 1 v8 k (ints .u8 f)) := Lib.hid (own_below HO8.out hrb5)
  have hrz5 : base ≤ r5.heap.size := by have := hbr5.size; have := hbase.out; omega
  have HBR5 := Lib.hid hbr5
  clear hr5 hrb5 hbr5 htn5 hts5
  go_wp2_with (at_builtin; refine wpList_append_row byteT _ _ rfl rfl base v8 k (ints .u8 f) rfl hoo5.out z.length ct5 rfl rfl HTN5.out HR5.out (by rw [hzl.out]; omega) hrz5 ?_; intro v9 p9 hv9 hg9; refine holdP18 ?_)
  rw [← ints_append] at hv9
  have HP9 : Hid (Below base w1 p9) := Lib.hid (HBR5.out.grown hg9 hrz5 (fun q hq => (hoo5.out.lt q hq).1))
  have HO9 : Hid (p9.ownsRow base 5 1 v9 (f ++ z).length (ints .u8 (f ++ z))) := Lib.hid (by rw [List.length_append, hk.out]; exact hv9)
  have hwb : w.heap.size ≤ base := by have := hbase.out; omega
  have HO10 : Hid (p9.ownsRow w.heap.size 5 1 v9 (Gr.bytes g).length (ints .u8 (Gr.bytes g))) := Lib.hid (by rw [hbq.out, hf.out, hz.out]; exact own_lower1 HO9.out hwb)
  have HB10 : Hid (Below w.heap.size w p9) := Lib.hid (HB1.out.trans (HP9.out.mono hwb))
  clear hv9 hg9 hwb
  unfold HoldP18
  go_wp2_with fail
  go_ret2
  exact ⟨v9, rfl, HO10.out, HB10.out⟩

end Go.Proofs.Ytgfjniogflmlmaa
