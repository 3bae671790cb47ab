/- Contract of layer 9's law's awake. -/
import Derived.Test.YtpfeccbnkgnioaaDoorPI
import Derived.Test.YtpfeccbnkgnioaaDoorPG
import Derived.Test.YtpfeccbnkgnioaaDoorPF
import Derived.Test.YtpfeccbnkgnioaaDoorPA
namespace Go.Proofs.YtpfeccbnkgnioaaDoor
open Go.RowKit
set_option linter.unusedVariables false
set_option maxRecDepth 100000
open Gm

/-- a message that is stored in a new variable -/
theorem var9 {w : World} {B : Nat} {m : Ms} {v : Value} (H : Mv w B m v) : ∃ g Ap cp Aq cq w0 w1, v = .agg #[.int .i64 m.kind, .int .u32 (m.rid : Int), .int .u8 (m.code : Int), .bool m.has, .int .u64 (m.id : Int), .string m.key, .string m.val, .int .u64 (m.pid : Int), .int .u16 (m.pad : Int), .slice Ap m.peers.length cp, .slice Aq m.pairs.length cq] ∧ w.heap.size = g ∧ w.alloc (.cells #[.int .i64 0, .int .u32 0, .int .u8 0, .bool false, .int .u64 0, .string ⟨#[]⟩, .string ⟨#[]⟩, .int .u64 0, .int .u16 0, .slice none 0 0, .slice none 0 0] 30) = w0 ∧ Whole w0 g 30 #[.int .i64 0, .int .u32 0, .int .u8 0, .bool false, .int .u64 0, .string ⟨#[]⟩, .string ⟨#[]⟩, .int .u64 0, .int .u16 0, .slice none 0 0, .slice none 0 0] ∧
    w0.setRow g #[.int .i64 m.kind, .int .u32 (m.rid : Int), .int .u8 (m.code : Int), .bool m.has, .int .u64 (m.id : Int), .string m.key, .string m.val, .int .u64 (m.pid : Int), .int .u16 (m.pad : Int), .slice Ap m.peers.length cp, .slice Aq m.pairs.length cq] = w1 ∧ Box w1 g m (.slice Ap m.peers.length cp) (.slice Aq m.pairs.length cq) ∧ Below g w w1 ∧ w1.heap.size = g + 1 := by
  obtain ⟨g, vp, vq, w0, w1, h1, h2, h3, h4, h5, h6, h7, h8, _, _⟩ := var_msg H
  obtain ⟨Ap, cp, rfl, _⟩ := h6.peers.ex
  obtain ⟨Aq, cq, rfl, _⟩ := h6.pairs.ex
  exact ⟨g, Ap, cp, Aq, cq, w0, w1, h1, h2, h3, h4, h5, h6, h7, h8⟩
theorem piece_lit (w : World) (cs : Array Value) (l : List Nat) (n : Nat) (hn : l.length = n) (h : cs.toList = ints .u8 l) (hm : n ≤ 1000) : Piece (w.alloc (.cells cs 5)) (w.heap.size + 1) (.slice (some ⟨w.heap.size, 0, none⟩) n n) l := by
  subst hn
  exact ⟨_, _, rfl, sees_new _ l cs _ rfl h, (fun h => by cases h), Nat.le_refl _, (by unfold maxLen; omega)⟩
theorem row_piece {w : World} {a : Option Addr} {len cap : Nat} {l : List Nat} (R : Row .u8 w a len cap l) : Piece w w.heap.size (.slice a len cap) l ∧ l.length = len ∧ (∀ x ∈ l, x < 256) :=
  ⟨⟨a, cap, by rw [R.len_eq], R.sees, R.null, by rw [R.len_eq]; exact R.le, R.max⟩, R.len_eq, R.byte⟩

def ping : Ms := ⟨11, 1, 0, false, 0, ⟨#[]⟩, ⟨#[]⟩, 0, 0, [], []⟩
theorem ok_ping : Ok ping := ⟨by simp [ping], by simp [ping], by simp [ping], by simp [ping], by simp [ping, ByteArray.size], by simp [ping, ByteArray.size], by simp [ping], by simp [ping], fun p hp => (by cases hp), fun p hp => (by cases hp)⟩
theorem right_ping : right ping = 0 := by decide +kernel
theorem put_ping : Fm.put ping = [11, 0, 0, 0, 1] := by
  unfold Fm.put Fm.ownB
  decide +kernel
theorem enc_ping : Fm.enc ping = ([11, 0, 0, 0, 1], 0) := by rw [Fm.enc_good right_ping, put_ping]
theorem dec_ping : Fm.dec [11, 0, 0, 0, 1] = (ping, 0) := by rw [← put_ping]; exact Fm.dec_put ok_ping right_ping
theorem dec_short : Fm.dec [11, 0, 0, 0] = (Fm.zero, 2) := by
  have h : Fm.fin [11, 0, 0, 0] = 2 := by decide +kernel
  rw [Fm.dec_fin (by rw [h]; decide), h]
theorem dec_kind : Fm.dec [13, 0] = (Fm.zero, 9) := by
  have h : Fm.fin [13, 0] = 9 := by decide +kernel
  rw [Fm.dec_fin (by rw [h]; decide), h]
theorem mv_ping (w : World) : Mv w 0 ping (.agg #[.int .i64 11, .int .u32 1, .int .u8 0, .bool false, .int .u64 0, .string ⟨#[]⟩, .string ⟨#[]⟩, .int .u64 0, .int .u16 0, .slice none 0 0, .slice none 0 0]) :=
  ⟨⟨_, _, rfl, Sl.empty _ _, Sl.empty _ _⟩, ok_ping⟩

set_option maxHeartbeats 1000000 in
theorem awake9 (w : World) (T : Tab w) :
    Calls Tryd.prog 7 #[] w fun e w' => e = .returned (.bool true) ∧ Below w.heap.size w w' := by
  have HT := Lib.hid T
  clear T
  have C1 := Lib.hid (fenc_any (mv_ping w) HT.out (by decide))
  rw [enc_ping] at C1
  have HB0 : Hid (∀ W o, Below W.heap.size W (W.alloc o)) := Lib.hid (fun W o => (Below.refl _ _).alloc (Nat.le_refl _) o)
  have D1 := Lib.hid (fun W (h : Below w.heap.size w W) (B : Nat) v (hp : Piece W B v [11, 0, 0, 0, 1]) => fdec_any hp (by decide) (by decide) (HT.out.kept h))
  rw [dec_ping] at D1
  have D2 := Lib.hid (fun W (h : Below w.heap.size w W) (B : Nat) v (hp : Piece W B v [11, 0, 0, 0]) => fdec_any hp (by decide) (by decide) (HT.out.kept h))
  rw [dec_short] at D2
  have D3 := Lib.hid (fun W (h : Below w.heap.size w W) (B : Nat) v (hp : Piece W B v [13, 0]) => fdec_any hp (by decide) (by decide) (HT.out.kept h))
  rw [dec_kind] at D3
  go_enter Tryd.func7, Tryd.ntmps7
  go_wp2_with fail
  refine (C1.out).mono ?_
  rintro e w1 ⟨v1, rfl, ho1, hb1⟩
  have hcv1 : ∀ W, Below w1.heap.size w1 W → (convert 33 9 v1).run Tryd.prog W = .ok (.string (strOf [11, 0, 0, 0, 1])) W := fun W hW =>
    conv_own Tryd.underlying33 Tryd.underlying5 Tryd.underlying9 (own_below ho1 hW)
  have HCV := Lib.hid hcv1
  have HB1 : Hid (Below w.heap.size w w1) := Lib.hid hb1
  clear ho1 hb1 hcv1
  go_wp2_with fail
  have ha1 := HB0.out w1 (.cells #[.int .u8 11, .int .u8 0, .int .u8 0, .int .u8 0, .int .u8 1] 5)
  refine (D1.out _ (HB1.out.trans (ha1.mono HB1.out.size)) _ _ (piece_lit w1 _ _ 5 rfl rfl (by omega))).mono ?_
  rintro e w2 ⟨v2, rfl, hm2, hb2⟩
  have HB2 : Hid (Below w1.heap.size w1 w2) := Lib.hid (ha1.trans (hb2.mono (by simp)))
  obtain ⟨g1, Ap, cp, Aq, cq, u0, u1, rfl, hg1, hal1, hW1, hst1, hx1, hc1, hz1⟩ := var9 hm2
  have HW1 := Lib.hid hW1
  have HX1 := Lib.hid hx1
  have HC1 : Hid (Below w1.heap.size w1 u1) := Lib.hid (HB2.out.trans (hc1.mono (by rw [← hg1]; exact HB2.out.size)))
  clear ha1 hm2 hb2 hW1 hx1 hc1 hz1
  go_wp2_with (refine wpList_store_whole rfl rfl rfl rfl rfl HW1.out (msgI rfl) rfl (by simp [Value.oneCell']) ?_; rw [hst1])
  have ha2 := HB0.out u1 (.cells #[.int .u8 11, .int .u8 0, .int .u8 0, .int .u8 0] 5)
  refine (D2.out _ (HB1.out.trans ((HC1.out.trans (ha2.mono HC1.out.size)).mono HB1.out.size)) _ _ (piece_lit u1 _ _ 4 rfl rfl (by omega))).mono ?_
  rintro e w3 ⟨v3, rfl, hm3, hb3⟩
  have HB3 : Hid (Below u1.heap.size u1 w3) := Lib.hid (ha2.trans (hb3.mono (by simp)))
  obtain ⟨g2, Bp, dp, Bq, dq, u2, u3, rfl, hg2, hal2, hW2, hst2, hx2, hc2, hz2⟩ := var9 hm3
  have HW2 := Lib.hid hW2
  have HC2 : Hid (Below u1.heap.size u1 u3) := Lib.hid (HB3.out.trans (hc2.mono (by rw [← hg2]; exact HB3.out.size)))
  clear ha2 hm3 hb3 hW2 hx2 hc2 hz2
  go_wp2_with (refine wpList_store_whole rfl rfl rfl rfl rfl HW2.out (msgI rfl) rfl (by simp [Value.oneCell']) ?_; rw [hst2])
  have ha3 := HB0.out u3 (.cells #[.int .u8 13, .int .u8 0] 5)
  have HC12 : Hid (Below w1.heap.size w1 u3) := Lib.hid (HC1.out.trans (HC2.out.mono HC1.out.size))
  refine (D3.out _ (HB1.out.trans ((HC12.out.trans (ha3.mono HC12.out.size)).mono HB1.out.size)) _ _ (piece_lit u3 _ _ 2 rfl rfl (by omega))).mono ?_
  rintro e w4 ⟨v4, rfl, hm4, hb4⟩
  have HB4 : Hid (Below u3.heap.size u3 w4) := Lib.hid (ha3.trans (hb4.mono (by simp)))
  obtain ⟨g3, Cp, ep, Cq, eq, u4, u5, rfl, hg3, hal3, hW3, hst3, hx3, hc3, hz3⟩ := var9 hm4
  have HW3 := Lib.hid hW3
  have HC3 : Hid (Below u3.heap.size u3 u5) := Lib.hid (HB4.out.trans (hc3.mono (by rw [← hg3]; exact HB4.out.size)))
  have HC13 : Hid (Below w1.heap.size w1 u5) := Lib.hid (HC12.out.trans (HC3.out.mono HC12.out.size))
  have hcv5 := HCV.out u5 HC13.out
  have hxx := (HX1.out.kept HC2.out).kept HC3.out
  have c0 : u5.cell? ⟨g1, 0, none⟩ = some (.int .i64 11) := hxx.cells.1
  have c1 : u5.cell? ⟨g1, 1, none⟩ = some (.int .u32 1) := hxx.cells.2.1
  have he : ((strOf [11, 0, 0, 0, 1]).toList == [11, 0, 0, 0, 1]) = true := by decide +kernel
  clear ha3 hm4 hb4 hW3 hx3 hc3 hxx hz3
  go_wp2_with (refine wpList_store_whole rfl rfl rfl rfl rfl HW3.out (msgI rfl) rfl (by simp [Value.oneCell']) ?_; rw [hst3])
  go_ret
  exact ⟨rfl, HB1.out.trans (HC13.out.mono HB1.out.size)⟩
end Go.Proofs.YtpfeccbnkgnioaaDoor
