/- Contracts of layer 18's reference: Bytes, Put, Same. -/
import Derived.Test.YtbhdgfpaoghnbaaRgr18
namespace Go.Proofs.Ytbhdgfpaoghnbaa
open Go.RowKit
set_option linter.unusedVariables false
set_option maxRecDepth 100000
set_option linter.unusedSimpArgs false

/-- a goal that the walk leaves alone -/
def HoldP (p : Prop) : Prop := p
theorem holdP {p : Prop} (h : HoldP p) : p := h
set_option maxHeartbeats 2000000 in
theorem rbytes18_any {w : World} {B : Nat} {g : Gd} {v : Value} (H : Gv w B g v) (hl : g.body.length ≤ 100000) :
    Calls Try.prog 22 #[v] w (Made .u8 5 w.heap.size (Gr.bytes g) w) := by
  obtain ⟨b, A, c, w1, rfl, hb, hal, hsz, hx, hb1⟩ := boxedG H
  have HB1 : Hid (Below w.heap.size w w1) := Lib.hid (by rw [hb]; exact hb1)
  have ok := H.ok
  have HX := Lib.hid hx
  have HF := Lib.hid (Gr.front_eq ok)
  have HFb := Lib.hid (Gr.front_byte ok)
  have hwz : w.heap.size ≤ w1.heap.size := by omega
  obtain ⟨base, hbase⟩ : ∃ base, Hid (w1.heap.size = base) := ⟨_, Lib.hid rfl⟩
  have HC : Hid (∀ W, Below base w1 W → W.cell? ⟨b, 0, none⟩ = some (.int .u8 (g.kind : Int)) ∧ W.cell? ⟨b, 1, none⟩ = some (.int .u8 (g.version : Int)) ∧ W.cell? ⟨b, 2, none⟩ = some (.int .u32 (g.epoch : Int)) ∧ W.cell? ⟨b, 3, none⟩ = some (.int .u32 (g.id : Int)) ∧ W.cell? ⟨b, 4, none⟩ = some (.int .u16 (g.index : Int)) ∧ W.cell? ⟨b, 5, none⟩ = some (.int .u16 (g.count : Int)) ∧ W.cell? ⟨b, 6, none⟩ = some (.slice A g.body.length c)) := Lib.hid (fun W h => (hx.below h (by have := hbase.out; omega)).cells)
  have q2 := ok.epoch
  have q3 := ok.id
  have q4 := ok.index
  have q5 := ok.count
  have HPc := Lib.hid (fun W (h : Below base w1 W) => (hx.piece.below (h.mono (by have := hbase.out; omega)) : Piece W b (.slice A g.body.length c) g.body))
  have F0 := Lib.hid (fun W => fixr_any g.epoch (4 : Int) W (by omega) (by omega) (by omega))
  rw [show Bm.fixI g.epoch (4 : Int) = Bm.fix 4 g.epoch from Bm.fixI_good (k := 4) (by omega) (by omega)] at F0
  obtain ⟨y0, hy0⟩ : ∃ y, Hid (Bm.fix 4 g.epoch = y) := ⟨_, Lib.hid rfl⟩
  have hyl0 : Hid (y0.length = 4) := Lib.hid (by rw [← hy0.out, Bm.fix_length])
  rw [hy0.out] at F0
  have F1 := Lib.hid (fun W => fixr_any g.id (4 : Int) W (by omega) (by omega) (by omega))
  rw [show Bm.fixI g.id (4 : Int) = Bm.fix 4 g.id from Bm.fixI_good (k := 4) (by omega) (by omega)] at F1
  obtain ⟨y1, hy1⟩ : ∃ y, Hid (Bm.fix 4 g.id = y) := ⟨_, Lib.hid rfl⟩
  have hyl1 : Hid (y1.length = 4) := Lib.hid (by rw [← hy1.out, Bm.fix_length])
  rw [hy1.out] at F1
  have F2 := Lib.hid (fun W => fixr_any g.index (2 : Int) W (by omega) (by omega) (by omega))
  rw [show Bm.fixI g.index (2 : Int) = Bm.fix 2 g.index from Bm.fixI_good (k := 2) (by omega) (by omega)] at F2
  obtain ⟨y2, hy2⟩ : ∃ y, Hid (Bm.fix 2 g.index = y) := ⟨_, Lib.hid rfl⟩
  have hyl2 : Hid (y2.length = 2) := Lib.hid (by rw [← hy2.out, Bm.fix_length])
  rw [hy2.out] at F2
  have F3 := Lib.hid (fun W => fixr_any g.count (2 : Int) W (by omega) (by omega) (by omega))
  rw [show Bm.fixI g.count (2 : Int) = Bm.fix 2 g.count from Bm.fixI_good (k := 2) (by omega) (by omega)] at F3
  obtain ⟨y3, hy3⟩ : ∃ y, Hid (Bm.fix 2 g.count = y) := ⟨_, Lib.hid rfl⟩
  have hyl3 : Hid (y3.length = 2) := Lib.hid (by rw [← hy3.out, Bm.fix_length])
  rw [hy3.out] at F3
  obtain ⟨n, hn⟩ : ∃ n, Hid (g.body.length = n) := ⟨_, Lib.hid rfl⟩
  obtain ⟨c0, c1, c2, c3, c4, c5, c6⟩ := HC.out w1 (Below.refl _ _)
  rw [hn.out] at hal hl HC HPc c6 ⊢
  have hcc : n ≤ c ∧ c ≤ 9223372036854775807 ∧ (A = none → c = 0) := by
    obtain ⟨A', c', e, _, k1, k2, k3⟩ := HPc.out w1 (Below.refl _ _)
    injection e with e1 _ e2
    subst e1 e2
    unfold maxLen at k3
    rw [hn.out] at k2
    exact ⟨k2, by omega, k1⟩
  have hcn := Lib.hid hcc.2.2
  have hc1 := hcc.1
  have hc2 := hcc.2.1
  have HSee := Lib.hid (fun W (h : Below base w1 W) => (by
    obtain ⟨A', c', e, k0, _⟩ := HPc.out W h
    injection e with e1 _ _
    subst e1
    exact k0 : Sees .u8 W b A g.body))
  have ho0 : Hid ((w1.alloc (.cells #[.int .u8 167, .int .u8 78, .int .u8 (g.kind : Int), .int .u8 (g.version : Int)] 5)).ownsRow base 5 1 (.slice (some ⟨w1.heap.size, 0, none⟩) 4 4) 4 (ints .u8 [167, 78, g.kind, g.version])) := Lib.hid (World.ownsRow_lit w1 #[.int .u8 167, .int .u8 78, .int .u8 (g.kind : Int), .int .u8 (g.version : Int)] 4 (by rw [hbase.out]; exact Nat.le_refl _) (by decide) rfl)
  have hbx : Hid (Below base w1 (w1.alloc (.cells #[.int .u8 167, .int .u8 78, .int .u8 (g.kind : Int), .int .u8 (g.version : Int)] 5))) := Lib.hid ((Below.refl _ _).alloc (by rw [hbase.out]; exact Nat.le_refl _) _)
  obtain ⟨d0, d1, d2, d3, d4, d5, d6⟩ := HC.out _ hbx.out
  clear hx hb1 H ok hcc hsz
  go_enter Try.func22, Try.ntmps22
  go_wp2_with fail
  obtain ⟨x0, hx0⟩ : ∃ x, Hid ([167, 78, g.kind, g.version] = x) := ⟨_, Lib.hid rfl⟩
  obtain ⟨wa, hwa⟩ : ∃ W, Hid ((w1.alloc (.cells #[.int .u8 167, .int .u8 78, .int .u8 (g.kind : Int), .int .u8 (g.version : Int)] 5)) = W) := ⟨_, Lib.hid rfl⟩
  rw [hx0.out] at ho0 HF
  rw [hwa.out] at ho0 hbx ⊢
  clear c0 c1 c2 c3 c4 c5 c6 d0 d1 d2 d3 d4 d5 d6
  refine (F0.out _).mono ?_
  rintro e r0 ⟨t0, rfl, hr0, hrb0⟩
  have hbr0 : Below base w1 r0 := hbx.out.trans (hrb0.mono (by have := hbx.out.size; have := hbase.out; omega))
  obtain ⟨At0, ct0, rfl, hts0, htn0, htc0, _⟩ := own_piece hr0
  have HR0 := Lib.hid hts0
  have HTN0 := Lib.hid htn0
  rw [hyl0.out] at htc0
  have hoo0 : Hid (r0.ownsRow base 5 1 (.slice (some ⟨w1.heap.size, 0, none⟩) 4 4) 4 (ints .u8 x0)) := Lib.hid (own_below ho0.out hrb0)
  have hrz0 : base ≤ r0.heap.size := by have := hbr0.size; have := hbase.out; omega
  have HBR0 := Lib.hid hbr0
  clear hr0 hrb0 hbr0 htn0 hts0
  go_wp2_with (at_builtin; refine wpList_append_row byteT _ _ rfl rfl base (.slice (some ⟨w1.heap.size, 0, none⟩) 4 4) 4 (ints .u8 x0) rfl hoo0.out y0.length ct0 rfl rfl HTN0.out HR0.out (by rw [hyl0.out]; omega) hrz0 ?_; intro v0 p0 hv0 hg0; refine holdP ?_)
  rw [hyl0.out, ← ints_append] at hv0
  have HP0 : Hid (Below base w1 p0) := Lib.hid (HBR0.out.grown hg0 hrz0 (fun q hq => (hoo0.out.lt q hq).1))
  obtain ⟨x1, hx1⟩ : ∃ x, Hid (x0 ++ y0 = x) := ⟨_, Lib.hid rfl⟩
  rw [hx1.out] at hv0
  have HO0 : Hid (p0.ownsRow base 5 1 v0 8 (ints .u8 x1)) := Lib.hid hv0
  clear hv0 hg0
  obtain ⟨c0, c1, c2, c3, c4, c5, c6⟩ := HC.out p0 HP0.out
  unfold HoldP
  go_wp2_with fail
  refine (F1.out _).mono ?_
  rintro e r1 ⟨t1, rfl, hr1, hrb1⟩
  have hbr1 : Below base w1 r1 := HP0.out.trans (hrb1.mono (by have := HP0.out.size; have := hbase.out; omega))
  obtain ⟨At1, ct1, rfl, hts1, htn1, htc1, _⟩ := own_piece hr1
  have HR1 := Lib.hid hts1
  have HTN1 := Lib.hid htn1
  rw [hyl1.out] at htc1
  have hoo1 : Hid (r1.ownsRow base 5 1 v0 8 (ints .u8 x1)) := Lib.hid (own_below HO0.out hrb1)
  have hrz1 : base ≤ r1.heap.size := by have := hbr1.size; have := hbase.out; omega
  have HBR1 := Lib.hid hbr1
  clear hr1 hrb1 hbr1 htn1 hts1
  go_wp2_with (at_builtin; refine wpList_append_row byteT _ _ rfl rfl base v0 8 (ints .u8 x1) rfl hoo1.out y1.length ct1 rfl rfl HTN1.out HR1.out (by rw [hyl1.out]; omega) hrz1 ?_; intro v1 p1 hv1 hg1; refine holdP ?_)
  rw [hyl1.out, ← ints_append] at hv1
  have HP1 : Hid (Below base w1 p1) := Lib.hid (HBR1.out.grown hg1 hrz1 (fun q hq => (hoo1.out.lt q hq).1))
  obtain ⟨x2, hx2⟩ : ∃ x, Hid (x1 ++ y1 = x) := ⟨_, Lib.hid rfl⟩
  rw [hx2.out] at hv1
  have HO1 : Hid (p1.ownsRow base 5 1 v1 12 (ints .u8 x2)) := Lib.hid hv1
  clear hv1 hg1
  obtain ⟨c0, c1, c2, c3, c4, c5, c6⟩ := HC.out p1 HP1.out
  unfold HoldP
  go_wp2_with fail
  refine (F2.out _).mono ?_
  rintro e r2 ⟨t2, rfl, hr2, hrb2⟩
  have hbr2 : Below base w1 r2 := HP1.out.trans (hrb2.mono (by have := HP1.out.size; have := hbase.out; omega))
  obtain ⟨At2, ct2, rfl, hts2, htn2, htc2, _⟩ := own_piece hr2
  have HR2 := Lib.hid hts2
  have HTN2 := Lib.hid htn2
  rw [hyl2.out] at htc2
  have hoo2 : Hid (r2.ownsRow base 5 1 v1 12 (ints .u8 x2)) := Lib.hid (own_below HO1.out hrb2)
  have hrz2 : base ≤ r2.heap.size := by have := hbr2.size; have := hbase.out; omega
  have HBR2 := Lib.hid hbr2
  clear hr2 hrb2 hbr2 htn2 hts2
  go_wp2_with (at_builtin; refine wpList_append_row byteT _ _ rfl rfl base v1 12 (ints .u8 x2) rfl hoo2.out y2.length ct2 rfl rfl HTN2.out HR2.out (by rw [hyl2.out]; omega) hrz2 ?_; intro v2 p2 hv2 hg2; refine holdP ?_)
  rw [hyl2.out, ← ints_append] at hv2
  have HP2 : Hid (Below base w1 p2) := Lib.hid (HBR2.out.grown hg2 hrz2 (fun q hq => (hoo2.out.lt q hq).1))
  obtain ⟨x3, hx3⟩ : ∃ x, Hid (x2 ++ y2 = x) := ⟨_, Lib.hid rfl⟩
  rw [hx3.out] at hv2
  have HO2 : Hid (p2.ownsRow base 5 1 v2 14 (ints .u8 x3)) := Lib.hid hv2
  clear hv2 hg2
  obtain ⟨c0, c1, c2, c3, c4, c5, c6⟩ := HC.out p2 HP2.out
  unfold HoldP
  go_wp2_with fail
  refine (F3.out _).mono ?_
  rintro e r3 ⟨t3, rfl, hr3, hrb3⟩
  have hbr3 : Below base w1 r3 := HP2.out.trans (hrb3.mono (by have := HP2.out.size; have := hbase.out; omega))
  obtain ⟨At3, ct3, rfl, hts3, htn3, htc3, _⟩ := own_piece hr3
  have HR3 := Lib.hid hts3
  have HTN3 := Lib.hid htn3
  rw [hyl3.out] at htc3
  have hoo3 : Hid (r3.ownsRow base 5 1 v2 14 (ints .u8 x3)) := Lib.hid (own_below HO2.out hrb3)
  have hrz3 : base ≤ r3.heap.size := by have := hbr3.size; have := hbase.out; omega
  have HBR3 := Lib.hid hbr3
  clear hr3 hrb3 hbr3 htn3 hts3
  go_wp2_with (at_builtin; refine wpList_append_row byteT _ _ rfl rfl base v2 14 (ints .u8 x3) rfl hoo3.out y3.length ct3 rfl rfl HTN3.out HR3.out (by rw [hyl3.out]; omega) hrz3 ?_; intro v3 p3 hv3 hg3; refine holdP ?_)
  rw [hyl3.out, ← ints_append] at hv3
  have HP3 : Hid (Below base w1 p3) := Lib.hid (HBR3.out.grown hg3 hrz3 (fun q hq => (hoo3.out.lt q hq).1))
  obtain ⟨x4, hx4⟩ : ∃ x, Hid (x3 ++ y3 = x) := ⟨_, Lib.hid rfl⟩
  rw [hx4.out] at hv3
  have HO3 : Hid (p3.ownsRow base 5 1 v3 16 (ints .u8 x4)) := Lib.hid hv3
  clear hv3 hg3
  obtain ⟨c0, c1, c2, c3, c4, c5, c6⟩ := HC.out p3 HP3.out
  unfold HoldP
  have hpz : base ≤ p3.heap.size := by have := HP3.out.size; have := hbase.out; omega
  go_wp2_with (at_builtin; refine wpList_append_row byteT _ _ rfl rfl base v3 16 (ints .u8 x4) rfl HO3.out n c rfl hn.out hcn.out (HSee.out p3 HP3.out) (by omega) hpz ?_; intro v4 p4 hv4 hg4; refine holdP ?_)
  rw [← ints_append] at hv4
  have HP4 : Hid (Below base w1 p4) := Lib.hid (HP3.out.grown hg4 hpz (fun q hq => (HO3.out.lt q hq).1))
  have hfr : Hid (x4 ++ g.body = Gr.front g) := Lib.hid (by
    rw [← hx4.out, ← hx3.out, ← hx2.out, ← hx1.out, HF.out]
    unfold Gr.tails
    rw [hy0.out, hy1.out, hy2.out, hy3.out]
    simp only [List.append_assoc])
  have hfl := Gr.front_length g
  rw [hn.out] at hfl
  have hbq : Hid (Gr.bytes g = Gr.front g ++ Gr.le 4 (Cm.sum (Gr.front g))) := Lib.hid rfl
  rw [hbq.out]
  rw [hfr.out] at hv4
  obtain ⟨f, hf⟩ : ∃ f, Hid (Gr.front g = f) := ⟨_, Lib.hid rfl⟩
  rw [hf.out] at hv4 hfl HFb ⊢
  obtain ⟨m, hm⟩ : ∃ m, Hid (f.length = m) := ⟨_, Lib.hid rfl⟩
  have HO4 : Hid (p4.ownsRow base 5 1 v4 m (ints .u8 f)) := Lib.hid (by rw [← hm.out, hfl, Nat.add_comm]; exact hv4)
  rw [hm.out] at hfl
  have hp4z : base ≤ p4.heap.size := by have := HP4.out.size; have := hbase.out; omega
  have CS := Lib.hid (rsum18_any (own_piece (show p4.ownsRow base 5 1 v4 f.length (ints .u8 f) by rw [hm.out]; exact HO4.out)) HFb.out)
  obtain ⟨z, hz⟩ : ∃ z, Hid (Gr.le 4 (Cm.sum f) = z) := ⟨_, Lib.hid rfl⟩
  have hzl : Hid (z.length = 4) := Lib.hid (by rw [← hz.out, Gr.le_length])
  rw [hz.out] at CS ⊢
  clear hv4 hg4
  unfold HoldP
  go_wp2_with fail
  refine (CS.out).mono ?_
  rintro e r5 ⟨t5, rfl, hr5, hrb5⟩
  have hbr5 : Below base w1 r5 := HP4.out.trans (hrb5.mono hp4z)
  obtain ⟨At5, ct5, rfl, hts5, htn5, htc5, _⟩ := own_piece hr5
  have HR5 := Lib.hid hts5
  have HTN5 := Lib.hid htn5
  rw [hzl.out] at htc5
  have hoo5 : Hid (r5.ownsRow base 5 1 v4 m (ints .u8 f)) := Lib.hid (own_below HO4.out hrb5)
  have hrz5 : base ≤ r5.heap.size := by have := hbr5.size; have := hbase.out; omega
  have HBR5 := Lib.hid hbr5
  clear hr5 hrb5 hbr5 htn5 hts5
  go_wp2_with (at_builtin; refine wpList_append_row byteT _ _ rfl rfl base v4 m (ints .u8 f) rfl hoo5.out z.length ct5 rfl rfl HTN5.out HR5.out (by rw [hzl.out]; omega) hrz5 ?_; intro v5 p5 hv5 hg5; refine holdP ?_)
  rw [← ints_append] at hv5
  have HP5 : Hid (Below base w1 p5) := Lib.hid (HBR5.out.grown hg5 hrz5 (fun q hq => (hoo5.out.lt q hq).1))
  have HO5 : Hid (p5.ownsRow base 5 1 v5 (f ++ z).length (ints .u8 (f ++ z))) := Lib.hid (by rw [List.length_append, hm.out]; exact hv5)
  have hwb : w.heap.size ≤ base := by have := hbase.out; omega
  have HO6 : Hid (p5.ownsRow w.heap.size 5 1 v5 (Gr.bytes g).length (ints .u8 (Gr.bytes g))) := Lib.hid (by rw [hbq.out, hf.out, hz.out]; exact own_lower1 HO5.out hwb)
  have HB6 : Hid (Below w.heap.size w p5) := Lib.hid (HB1.out.trans (HP5.out.mono hwb))
  clear hv5 hg5 hwb
  unfold HoldP
  go_wp2_with fail
  go_ret
  exact ⟨v5, rfl, HO6.out, HB6.out⟩
/-- what Put answers -/
def GputPost (r : List Nat × Nat) (w : World) (e : Ending) (w' : World) : Prop :=
  ∃ v, e = .returned (.tuple #[v, .int .i64 (r.2 : Int)]) ∧ w'.ownsRow w.heap.size 5 1 v r.1.length (ints .u8 r.1) ∧ Below w.heap.size w w'
end Go.Proofs.Ytbhdgfpaoghnbaa
