/- Contract of layer 25's law's awake. -/
import Derived.Test.YtjomchehnlnfcaaFc25
namespace Go.Proofs.Ytjomchehnlnfcaa
open Go.RowKit
open Gm
set_option linter.unusedVariables false
set_option maxRecDepth 100000
set_option linter.unusedSimpArgs false

namespace Ng
def zero : Tk := ⟨0, 0, 0, 0, 0, 0, 0, []⟩
theorem ok_zero : zero.Ok := ⟨by decide, by decide, by decide, by decide, by decide, by decide, by decide⟩
def asked : Tk := ⟨0, 1, 0, 0, 0, 0, 0, []⟩
theorem ok_asked : asked.Ok := ⟨by decide, by decide, by decide, by decide, by decide, by decide, by decide⟩
theorem ask_zero : ask zero = (asked, true) := rfl
theorem hear_asked : hear asked 5 6 true = (⟨0, 2, 6, 3, 0, 0, 0, []⟩, false) := by
  have : Vs.best 5 6 = 3 := by decide +kernel
  unfold hear
  rw [this]
  rfl
end Ng
set_option maxHeartbeats 2000000 in
theorem awake25 (w : World) : Calls Try.prog 8 #[] w fun e w' => e = .returned (.bool true) ∧ Below w.heap.size w w' := by
  have HB0 : Hid (∀ W o, Below W.heap.size W (W.alloc o)) := Lib.hid (fun W o => (Below.refl _ _).alloc (Nat.le_refl _) o)
  have D1 := Lib.hid (fun W => cask25_any (w := W) (t := Ng.zero) Ng.ok_zero (Ml.nil W _) Sz.nil)
  rw [Ng.ask_zero] at D1
  have D2 := Lib.hid (fun W A n c (h : Ml W W.heap.size (.slice A n c) []) => chear25_any (w := W) (t := Ng.asked) (own := 5) (th := 6) Ng.ok_asked h Sz.nil (by decide) (by decide) true)
  rw [Ng.hear_asked] at D2
  have D3 := Lib.hid (fun W => chello25_any (w := W) (s := 258) (by decide) true)
  have D4 := Lib.hid (fun W B v (h : Piece W B v (Ng.hello 258 true)) (hB : B ≤ W.heap.size) => cnread25_any h hB (by decide) (by decide))
  rw [Ng.read_hello (by decide) true] at D4
  have D5 := Lib.hid (fun W B v (h : Piece W B v [3, 0, 0]) (hB : B ≤ W.heap.size) => cnread25_any h hB (by decide) (by decide))
  rw [show Ng.read [3, 0, 0] = (0, false, 3) from rfl] at D5
  unfold TalkPost at D1 D2
  simp only [Ng.asked, Ng.zero, List.length_nil] at D1 D2
  go_enter Try.func8, Try.ntmps8
  go_wp2_with fail
  refine (D1.out _).mono ?_
  rintro e w1 ⟨A1, c1, rfl, hm1, hb1⟩
  obtain ⟨g1, p1, q1, hg1, hal1, hW1, hst1, hx1, hbq1, hlt1⟩ := var_tk w1 #[.int .u16 0, .int .i64 1, .int .u16 0, .int .i64 0, .int .i64 0, .int .u32 0, .int .u32 0, .slice A1 0 c1]
  have HW1 := Lib.hid hW1
  have HX1 := Lib.hid hx1
  have H1 := Lib.hid (hb1.trans (hbq1.mono hb1.size))
  have HM1 := Lib.hid (hm1.kept hbq1)
  clear hm1 hb1 hW1 hx1 hbq1
  obtain ⟨c0, d1, d2, d3, d4, d5, d6, d7⟩ := cellsT HX1.out
  go_wp2_with (refine wpList_store_whole rfl rfl rfl rfl rfl HW1.out (talkI rfl) rfl (by simp [Value.oneCell']) ?_; rw [hst1])
  refine (D2.out _ _ _ _ HM1.out).mono ?_
  rintro e w2 ⟨A2, c2, rfl, hm2, hb2⟩
  obtain ⟨g2, p2, q2, hg2, hal2, hW2, hst2, hx2, hbq2, hlt2⟩ := var_tk w2 #[.int .u16 0, .int .i64 2, .int .u16 6, .int .i64 3, .int .i64 0, .int .u32 0, .int .u32 0, .slice A2 0 c2]
  have HW2 := Lib.hid hW2
  have hq12 := hb2.trans (hbq2.mono hb2.size)
  have H2 := Lib.hid (H1.out.trans (hq12.mono H1.out.size))
  have HX2 := Lib.hid hx2
  have HX12 := Lib.hid (HX1.out.below hq12 hlt1)
  clear hm2 hb2 hW2 hx2 hbq2 hq12
  go_wp2_with (refine wpList_store_whole rfl rfl rfl rfl rfl HW2.out (talkI rfl) rfl (by simp [Value.oneCell']) ?_; rw [hst2])
  refine (D3.out _).mono ?_
  rintro e w3 ⟨v3, rfl, ho3, hb3⟩
  have H3 := Lib.hid (H2.out.trans (hb3.mono H2.out.size))
  have HX13 := Lib.hid (HX12.out.below hb3 (by have := HX12.out.lt; omega))
  have HX23 := Lib.hid (HX2.out.below hb3 (by have := HX2.out.lt; omega))
  have HP3 := Lib.hid (own_piece ho3)
  obtain ⟨A3, c3, rfl, _⟩ := own_look ho3
  clear ho3 hb3
  go_wp2_with fail
  refine (D4.out _ _ _ HP3.out (Nat.le_refl _)).mono ?_
  rintro e w4 ⟨rfl, hb⟩
  have H4 := Lib.hid (H3.out.trans (hb.mono H3.out.size))
  have HX14 := Lib.hid (HX13.out.below hb (by have := HX13.out.lt; omega))
  have HX24 := Lib.hid (HX23.out.below hb (by have := HX23.out.lt; omega))
  clear hb
  go_wp2_with fail
  have a5 := HB0.out w4 (.cells #[.int .u8 3, .int .u8 0, .int .u8 0] 5)
  refine (D5.out _ _ _ (piece_lit w4 _ _ 3 rfl rfl (by omega)) (by simp)).mono ?_
  rintro e w5 ⟨rfl, hb⟩
  have hb5 := a5.trans (hb.mono a5.size)
  have H5 := Lib.hid (H4.out.trans (hb5.mono H4.out.size))
  obtain ⟨f0, f1, f2, f3, f4, f5, f6, f7⟩ := cellsT (HX14.out.below hb5 HX14.out.lt)
  obtain ⟨k0, k1, k2, k3, k4, k5, k6, k7⟩ := cellsT (HX24.out.below hb5 HX24.out.lt)
  clear hb hb5 a5 c0 d1 d2 d3 d4 d5 d6 d7
  go_wp2_with fail
  go_ret
  exact ⟨rfl, H5.out⟩
end Go.Proofs.Ytjomchehnlnfcaa
