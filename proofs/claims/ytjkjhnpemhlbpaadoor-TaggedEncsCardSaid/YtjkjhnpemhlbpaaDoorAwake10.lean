/- Contract of layer 10's law's awake. -/
import Derived.Test.YtjkjhnpemhlbpaaDoorTdec
import Derived.Test.YtjkjhnpemhlbpaaDoorTenc2
import Derived.Test.YtjkjhnpemhlbpaaDoorPJ
import Derived.Test.YtjkjhnpemhlbpaaDoorPiece
namespace Go.Proofs.YtjkjhnpemhlbpaaDoor
open Go.RowKit
set_option linter.unusedVariables false
set_option maxRecDepth 100000
open Gm

def ping300 : Ms := ⟨11, 300, 0, false, 0, ⟨#[]⟩, ⟨#[]⟩, 0, 0, [], []⟩
def ping0 : Ms := ⟨11, 0, 0, false, 0, ⟨#[]⟩, ⟨#[]⟩, 0, 0, [], []⟩
theorem ok_ping300 : Ok ping300 := ⟨by simp [ping300], by simp [ping300], by simp [ping300], by simp [ping300], by simp [ping300, ByteArray.size], by simp [ping300, ByteArray.size], by simp [ping300], by simp [ping300], fun p hp => (by cases hp), fun p hp => (by cases hp)⟩
theorem ok_ping0 : Ok ping0 := ⟨by simp [ping0], by simp [ping0], by simp [ping0], by simp [ping0], by simp [ping0, ByteArray.size], by simp [ping0, ByteArray.size], by simp [ping0], by simp [ping0], fun p hp => (by cases hp), fun p hp => (by cases hp)⟩
theorem right_ping300 : right ping300 = 0 := by decide +kernel
theorem right_ping0 : right ping0 = 0 := by decide +kernel
theorem tput_ping300 : Tg.put ping300 = [11, 1, 172, 2] := by decide +kernel
theorem tput_ping0 : Tg.put ping0 = [11] := by decide +kernel
theorem tenc_ping300 : Tg.enc ping300 = ([11, 1, 172, 2], 0) := by rw [Tg.enc_good right_ping300, tput_ping300]
theorem tenc_ping0 : Tg.enc ping0 = ([11], 0) := by rw [Tg.enc_good right_ping0, tput_ping0]
theorem tdec_ping300 : Tg.dec [11, 1, 172, 2] = (ping300, 0) := by rw [← tput_ping300]; exact Tg.dec_put ok_ping300 right_ping300
theorem tdec_form : Tg.dec [11, 1, 0] = (Fm.zero, 3) := by
  have h : (Tg.all [11, 1, 0]).2.2 = 3 := by decide +kernel
  rw [Tg.dec_err (by rw [h]; decide), h]
theorem mv_ping300 (w : World) : Mv w 0 ping300 (.agg #[.int .i64 11, .int .u32 300, .int .u8 0, .bool false, .int .u64 0, .string ⟨#[]⟩, .string ⟨#[]⟩, .int .u64 0, .int .u16 0, .slice none 0 0, .slice none 0 0]) :=
  ⟨⟨_, _, rfl, Sl.empty _ _, Sl.empty _ _⟩, ok_ping300⟩
theorem mv_ping0 (w : World) : Mv w 0 ping0 (.agg #[.int .i64 11, .int .u32 0, .int .u8 0, .bool false, .int .u64 0, .string ⟨#[]⟩, .string ⟨#[]⟩, .int .u64 0, .int .u16 0, .slice none 0 0, .slice none 0 0]) :=
  ⟨⟨_, _, rfl, Sl.empty _ _, Sl.empty _ _⟩, ok_ping0⟩

set_option maxHeartbeats 1000000 in
theorem awake10 (w : World) (T : Tab w) :
    Calls Tryd.prog 7 #[] w fun e w' => e = .returned (.bool true) ∧ Below w.heap.size w w' := by
  have HT := Lib.hid T
  clear T
  have C1 := Lib.hid (tenc_any (mv_ping300 w) HT.out (by decide))
  rw [tenc_ping300] at C1
  have C2 := Lib.hid (fun W (h : Below w.heap.size w W) => tenc_any (mv_ping0 W) (HT.out.kept h) (by decide))
  rw [tenc_ping0] at C2
  have HB0 : Hid (∀ W o, Below W.heap.size W (W.alloc o)) := Lib.hid (fun W o => (Below.refl _ _).alloc (Nat.le_refl _) o)
  have D1 := Lib.hid (fun W (h : Below w.heap.size w W) (B : Nat) v (hp : Piece W B v [11, 1, 0]) => tdec_any hp (by decide) (by decide) (HT.out.kept h))
  rw [tdec_form] at D1
  have D2 := Lib.hid (fun W (h : Below w.heap.size w W) (B : Nat) v (hp : Piece W B v [11, 1, 172, 2]) => tdec_any hp (by decide) (by decide) (HT.out.kept h))
  rw [tdec_ping300] at D2
  go_enter Tryd.func7, Tryd.ntmps7
  go_wp2_with fail
  refine (C1.out).mono ?_
  rintro e w1 ⟨v1, rfl, ho1, hb1⟩
  have HO1 : Hid (∀ W, Below w1.heap.size w1 W → W.ownsRow w.heap.size 5 1 v1 ([11, 1, 172, 2] : List Nat).length (ints .u8 [11, 1, 172, 2])) := Lib.hid (fun W hW => own_below ho1 hW)
  have HB1 : Hid (Below w.heap.size w w1) := Lib.hid hb1
  clear ho1 hb1
  go_wp2_with fail
  refine (C2.out _ HB1.out).mono ?_
  rintro e w2 ⟨v2, rfl, ho2, hb2⟩
  have HO2 : Hid (∀ W, Below w2.heap.size w2 W → W.ownsRow w1.heap.size 5 1 v2 ([11] : List Nat).length (ints .u8 [11])) := Lib.hid (fun W hW => own_below ho2 hW)
  have HB2 : Hid (Below w1.heap.size w1 w2) := Lib.hid hb2
  have HB12 : Hid (Below w.heap.size w w2) := Lib.hid (HB1.out.trans (hb2.mono HB1.out.size))
  clear ho2 hb2
  go_wp2_with fail
  have ha1 := HB0.out w2 (.cells #[.int .u8 11, .int .u8 1, .int .u8 0] 5)
  refine (D1.out _ (HB12.out.trans (ha1.mono HB12.out.size)) _ _ (piece_lit w2 _ _ 3 rfl rfl (by omega))).mono ?_
  rintro e w3 ⟨v3, rfl, hm3, hb3⟩
  have HB3 : Hid (Below w2.heap.size w2 w3) := Lib.hid (ha1.trans (hb3.mono (by simp)))
  obtain ⟨g1, Ap, cp, Aq, cq, u0, u1, rfl, hg1, hal1, hW1, hst1, hx1, hc1, hz1⟩ := var9 hm3
  have HW1 := Lib.hid hW1
  have HC1 : Hid (Below w2.heap.size w2 u1) := Lib.hid (HB3.out.trans (hc1.mono (by rw [← hg1]; exact HB3.out.size)))
  have HC12 : Hid (Below w1.heap.size w1 u1) := Lib.hid (HB2.out.trans (HC1.out.mono HB2.out.size))
  clear ha1 hm3 hb3 hW1 hx1 hc1 hz1
  go_wp2_with (refine wpList_store_whole rfl rfl rfl rfl rfl HW1.out (msgI rfl) rfl (by simp [Value.oneCell']) ?_; rw [hst1])
  refine (D2.out u1 (HB1.out.trans (HC12.out.mono HB1.out.size)) _ _ (own_piece (HO1.out u1 HC12.out))).mono ?_
  rintro e w4 ⟨v4, rfl, hm4, hb4⟩
  have HB4 : Hid (Below u1.heap.size u1 w4) := Lib.hid hb4
  obtain ⟨g2, Bp, dp, Bq, dq, u2, u3, rfl, hg2, hal2, hW2, hst2, hx2, hc2, hz2⟩ := var9 hm4
  have HW2 := Lib.hid hW2
  have HC2 : Hid (Below u1.heap.size u1 u3) := Lib.hid (HB4.out.trans (hc2.mono (by rw [← hg2]; exact HB4.out.size)))
  have HC13 : Hid (Below w2.heap.size w2 u3) := Lib.hid (HC1.out.trans (HC2.out.mono HC1.out.size))
  have HC03 : Hid (Below w1.heap.size w1 u3) := Lib.hid (HC12.out.trans (HC2.out.mono HC12.out.size))
  have hcv1 : (convert 33 9 v1).run Tryd.prog u3 = .ok (.string (strOf [11, 1, 172, 2])) u3 := conv_own Tryd.underlying33 Tryd.underlying5 Tryd.underlying9 (HO1.out u3 HC03.out)
  have hcv2 : (convert 33 9 v2).run Tryd.prog u3 = .ok (.string (strOf [11])) u3 := conv_own Tryd.underlying33 Tryd.underlying5 Tryd.underlying9 (HO2.out u3 HC13.out)
  have c1 : u3.cell? ⟨g2, 1, none⟩ = some (.int .u32 300) := hx2.cells.2.1
  have he1 : ((strOf [11, 1, 172, 2]).toList == [11, 1, 172, 2]) = true := by decide +kernel
  have he2 : ((strOf [11]).toList == [11]) = true := by decide +kernel
  clear hm4 hb4 hW2 hx2 hc2 hz2
  go_wp2_with (refine wpList_store_whole rfl rfl rfl rfl rfl HW2.out (msgI rfl) rfl (by simp [Value.oneCell']) ?_; rw [hst2])
  go_ret
  exact ⟨rfl, HB1.out.trans (HC03.out.mono HB1.out.size)⟩
end Go.Proofs.YtjkjhnpemhlbpaaDoor
