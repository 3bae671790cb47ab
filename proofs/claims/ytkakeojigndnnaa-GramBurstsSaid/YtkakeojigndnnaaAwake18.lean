/- Contract of layer 18's law's awake. -/
import Derived.Test.YtkakeojigndnnaaFc18
namespace Go.Proofs.Ytkakeojigndnnaa
open Go.RowKit
set_option linter.unusedVariables false
set_option maxRecDepth 100000
set_option linter.unusedSimpArgs false

def gd1 : Gd := ⟨1, 0, 0, 0, 0, 1, []⟩
def gd2 : Gd := ⟨1, 0, 0, 0, 0, 0, []⟩
theorem ok_gd1 : gd1.Ok := ⟨by decide, by decide, by decide, by decide, by decide, by decide, fun x hx => by cases hx⟩
theorem ok_gd2 : gd2.Ok := ⟨by decide, by decide, by decide, by decide, by decide, by decide, fun x hx => by cases hx⟩
theorem right_gd1 : Gr.right gd1 = 0 := by decide
theorem put_gd1 : Gr.put gd1 = (Gr.bytes gd1, 0) := Gr.put_good right_gd1
theorem put_gd2 : Gr.put gd2 = ([], 1) := by rw [Gr.put_bad (by decide)]; rfl
theorem gv_gd1 (w : World) : Gv w 0 gd1 (.agg #[.int .u8 1, .int .u8 0, .int .u32 0, .int .u32 0, .int .u16 0, .int .u16 1, .slice none 0 0]) := ⟨⟨none, 0, rfl, Piece.nil _ _⟩, ok_gd1⟩
theorem gv_gd2 (w : World) : Gv w 0 gd2 (.agg #[.int .u8 1, .int .u8 0, .int .u32 0, .int .u32 0, .int .u16 0, .int .u16 0, .slice none 0 0]) := ⟨⟨none, 0, rfl, Piece.nil _ _⟩, ok_gd2⟩
theorem take_gd1 : (Gr.bytes gd1).take 16 = [167, 78, 1, 0, 0, 0, 0, 0, 0, 0, 0, 0, 0, 0, 0, 1] := by
  have h := (Gr.ahead_bytes gd1).1
  unfold Gr.ahead at h
  rw [Gr.bytes_length] at h
  exact h
theorem flip_gd1 : Gr.get (Cm.flip (Gr.bytes gd1) 125 7) = (Gr.zero, 8) := by
  refine Gr.get_burst ok_gd1 right_gd1 125 7 (by decide) (fun e => ?_)
  have h := (Cm.flip_same (Gr.bytes gd1) 125 7 (Gr.bytes_byte ok_gd1)).2 e 125 (by rw [Gr.bytes_length]; decide)
  revert h
  decide
set_option maxHeartbeats 2000000 in
theorem awake18 (w : World) : Calls Try.prog 7 #[] w fun e w' => e = .returned (.bool true) ∧ Below w.heap.size w w' := by
  have HLb : Hid ((Gr.bytes gd1).length = 20) := Lib.hid (by rw [Gr.bytes_length]; rfl)
  have HBy := Lib.hid (Gr.bytes_byte ok_gd1)
  have HGP := Lib.hid (Gr.get_put ok_gd1 right_gd1)
  have HTk := Lib.hid take_gd1
  have HFl := Lib.hid flip_gd1
  have HFb := Lib.hid (Cm.flip_byte (Gr.bytes gd1) 125 7 HBy.out)
  have HFn : Hid ((Cm.flip (Gr.bytes gd1) 125 7).length = 20) := Lib.hid ((Cm.flip_length _ _ _).trans HLb.out)
  have C1 := Lib.hid (gput18_any (gv_gd1 w))
  rw [put_gd1] at C1
  have C7 := Lib.hid (fun W => gput18_any (gv_gd2 W))
  rw [put_gd2] at C7
  obtain ⟨bs, hbs⟩ : ∃ l, Hid (Gr.bytes gd1 = l) := ⟨_, Lib.hid rfl⟩
  rw [hbs.out] at HLb HBy HGP HTk HFl HFb HFn C1
  have CG := Lib.hid (fun W (B : Nat) v (h : Piece W B v bs) (hB : B ≤ W.heap.size) => gget18_any h hB HBy.out (by rw [HLb.out]; decide))
  rw [HGP.out] at CG
  have CF := Lib.hid (fun W (B : Nat) (A : Option Addr) (c : Nat) (hA : Sees .u8 W B A bs) (hB : B ≤ W.heap.size) => flip_any B A bs 20 c 125 7 W HLb.out (by decide) hA HBy.out hB (by decide) (by decide) (by decide))
  obtain ⟨F, hF⟩ : ∃ F, Hid (Cm.flip bs 125 7 = F) := ⟨_, Lib.hid rfl⟩
  rw [hF.out] at HFl HFb HFn CF
  have CX := Lib.hid (fun W (B : Nat) v (h : Piece W B v F) (hB : B ≤ W.heap.size) => gget18_any h hB HFb.out (by rw [HFn.out]; decide))
  rw [HFl.out] at CX
  have HSh : Hid (Gr.get (bs.take 19) = (Gr.zero, 2)) := Lib.hid (Gr.get_short (by rw [List.length_take, HLb.out]; decide))
  have CS := Lib.hid (fun W (B : Nat) v (h : Piece W B v (bs.take 19)) (hB : B ≤ W.heap.size) => gget18_any h hB (fun x hx => HBy.out x (List.mem_of_mem_take hx)) (by rw [List.length_take, HLb.out]; decide))
  rw [HSh.out] at CS
  unfold GputPost at C1 C7
  unfold GgetPost at CG CX CS
  go_enter Try.func7, Try.ntmps7
  go_wp2_with fail
  refine (C1.out).mono ?_
  rintro e w1 ⟨v1, rfl, ho1, hb1⟩
  have HB1 := Lib.hid hb1
  have hp1 := own_piece ho1
  have HP1 := Lib.hid (fun W (h : Below w1.heap.size w1 W) => hp1.below h)
  obtain ⟨A1, c1, rfl, hs1, hnl1, hle1, hmx1⟩ := hp1
  have HS1 := Lib.hid (fun W (h : Below w1.heap.size w1 W) => hs1.below h)
  have HN1 := Lib.hid hnl1
  simp only [HLb.out] at hle1
  unfold maxLen at hmx1
  have hcv1 : (convert 24 9 (.slice A1 16 c1)).run Try.prog w1 = .ok (.string (strOf [167, 78, 1, 0, 0, 0, 0, 0, 0, 0, 0, 0, 0, 0, 0, 1])) w1 := by
    have h := hs1.take 16
    rw [HTk.out] at h
    exact conv_sees Try.underlying24 Try.underlying5 Try.underlying9 16 c1 rfl h
  have he1 : ((strOf [167, 78, 1, 0, 0, 0, 0, 0, 0, 0, 0, 0, 0, 0, 0, 1]).toList == [167, 78, 1, 0, 0, 0, 0, 0, 0, 0, 0, 0, 0, 0, 0, 1]) = true := by decide +kernel
  rw [HLb.out] at HP1
  simp only [HLb.out]
  clear hb1 ho1 hs1 hnl1
  go_wp2_with fail
  refine (CG.out w1 w1.heap.size _ (HP1.out w1 (Below.refl _ _)) (Nat.le_refl _)).mono ?_
  rintro e w2 ⟨v2, rfl, hg2, hb2⟩
  obtain ⟨g2, A2, c2, p2, q2, rfl, hgz2, hal2, hW2, hst2, hx2, hc2, hlt2⟩ := var_gv hg2.gv
  have HW2 := Lib.hid hW2
  have HX2 := Lib.hid hx2
  have HB2 := Lib.hid ((Below.refl w1.heap.size w1).trans ((hb2.trans (hc2.mono hb2.size)).mono (Nat.le_refl _)))
  clear hg2 hb2 hW2 hx2 hc2
  go_wp2_with (refine wpList_store_whole rfl rfl rfl rfl rfl HW2.out (gramI rfl) rfl (by simp [Value.oneCell']) ?_; rw [hst2])
  refine (CF.out q2 w1.heap.size A1 c1 (HS1.out q2 HB2.out) HB2.out.size).mono ?_
  rintro e w3 ⟨gf, rfl, hgf, hI, hb3⟩
  rw [HFn.out]
  have HB3 := Lib.hid (HB2.out.trans (hb3.mono HB2.out.size))
  have HX3 := Lib.hid (HX2.out.kept hb3)
  have HK3 := Lib.hid hb3
  have hPF : Piece w3 w3.heap.size (.slice (some ⟨gf, 0, none⟩) 20 20) F := ⟨_, 20, by rw [HFn.out], hI.sees.more hI.lt, (fun h => by cases h), by rw [HFn.out]; exact Nat.le_refl _, by unfold maxLen; omega⟩
  clear hb3 hI
  go_wp2_with fail
  refine (CX.out w3 w3.heap.size _ hPF (Nat.le_refl _)).mono ?_
  rintro e w4 ⟨v4, rfl, hg4, hb4⟩
  obtain ⟨g4, A4, c4, p4, q4, rfl, hgz4, hal4, hW4, hst4, hx4, hc4, hlt4⟩ := var_gv hg4.gv
  have HW4 := Lib.hid hW4
  have HX4 := Lib.hid hx4
  have HB4 := Lib.hid ((HB3.out).trans ((hb4.trans (hc4.mono hb4.size)).mono (HB3.out).size))
  have HK4 := Lib.hid (hb4.trans (hc4.mono hb4.size))
  clear hg4 hb4 hW4 hx4 hc4
  go_wp2_with (refine wpList_store_whole rfl rfl rfl rfl rfl HW4.out (gramI rfl) rfl (by simp [Value.oneCell']) ?_; rw [hst4])
  have hPS : Piece q4 w1.heap.size (.slice A1 19 c1) (bs.take 19) := ⟨A1, c1, by rw [List.length_take, HLb.out]; rfl, (HS1.out q4 HB4.out).take 19, HN1.out, by rw [List.length_take, HLb.out]; omega, by unfold maxLen; omega⟩
  refine (CS.out q4 w1.heap.size _ hPS HB4.out.size).mono ?_
  rintro e w5 ⟨v5, rfl, hg5, hb5⟩
  obtain ⟨g5, A5, c5, p5, q5, rfl, hgz5, hal5, hW5, hst5, hx5, hc5, hlt5⟩ := var_gv hg5.gv
  have HW5 := Lib.hid hW5
  have HX5 := Lib.hid hx5
  have HB5 := Lib.hid ((HB4.out).trans ((hb5.trans (hc5.mono hb5.size)).mono (HB4.out).size))
  have HK5 := Lib.hid (hb5.trans (hc5.mono hb5.size))
  clear hg5 hb5 hW5 hx5 hc5
  go_wp2_with (refine wpList_store_whole rfl rfl rfl rfl rfl HW5.out (gramI rfl) rfl (by simp [Value.oneCell']) ?_; rw [hst5])
  refine (C7.out q5).mono ?_
  rintro e w6 ⟨v6, rfl, ho6, hb6⟩
  have HB6 := Lib.hid (HB5.out.trans (hb6.mono HB5.out.size))
  obtain ⟨A6, c6, rfl, _⟩ := own_look ho6
  have hk4 := HK4.out
  have hk5 := HK4.out.trans (HK5.out.mono HK4.out.size)
  have hk6 := hk5.trans (hb6.mono hk5.size)
  have HX6 := Lib.hid (HX3.out.kept hk6)
  obtain ⟨m0, m1, m2, m3, m4, m5, m6⟩ := HX6.out.cells
  have e5 : (gd1.count : Int) = 1 := rfl
  have SM := Lib.hid (gsame18_any HX6.out.gv HX6.out.gv)
  rw [show decide (gd1 = gd1) = true from by simp] at SM
  rw [e5] at m5 SM
  have hml : ([] : List Nat).length = 0 := rfl
  clear ho6 hb6 hk4 hk5 hk6
  go_wp2_with fail
  refine (SM.out).mono ?_
  rintro e w7 ⟨rfl, hb7⟩
  have HB7 := Lib.hid (HB6.out.trans (hb7.mono HB6.out.size))
  have HBZ := Lib.hid (HB1.out.trans (HB7.out.mono HB1.out.size))
  go_wp2_with fail
  go_ret
  exact ⟨rfl, HBZ.out⟩
end Go.Proofs.Ytkakeojigndnnaa
