/- Contracts of layer 25's reference on talks. -/
import Derived.Test.YtjomchehnlnfcaaMl25
import Derived.Test.YtjomchehnlnfcaaPV
import Derived.Test.YtjomchehnlnfcaaPE
import Derived.Test.YtjomchehnlnfcaaPA
namespace Go.Proofs.Ytjomchehnlnfcaa
open Go.RowKit
open Gm
set_option linter.unusedVariables false
set_option maxRecDepth 100000
set_option linter.unusedSimpArgs false

theorem talkI {cs : Array Value} (h : cs.size = 8) : (Try.prog.info? 26).map (·.size) = some cs.size := by rw [h]; kernel_rfl
theorem cellsT {w : World} {g : Nat} {c0 c1 c2 c3 c4 c5 c6 c7 : Value} (h : Whole w g 26 #[c0, c1, c2, c3, c4, c5, c6, c7]) :
    w.cell? ⟨g, 0, none⟩ = some c0 ∧ w.cell? ⟨g, 1, none⟩ = some c1 ∧ w.cell? ⟨g, 2, none⟩ = some c2 ∧ w.cell? ⟨g, 3, none⟩ = some c3 ∧ w.cell? ⟨g, 4, none⟩ = some c4 ∧ w.cell? ⟨g, 5, none⟩ = some c5 ∧ w.cell? ⟨g, 6, none⟩ = some c6 ∧ w.cell? ⟨g, 7, none⟩ = some c7 :=
  ⟨h.at_ 0, h.at_ 1, h.at_ 2, h.at_ 3, h.at_ 4, h.at_ 5, h.at_ 6, h.at_ 7⟩
theorem boxedT25 (w : World) (cs : Array Value) : ∃ g w0, w.heap.size = g ∧ w.alloc (.cells cs 26) = w0 ∧ w0.heap.size = g + 1 ∧ Whole w0 g 26 cs ∧ Below w.heap.size w w0 :=
  ⟨_, _, rfl, rfl, by simp, Whole.made _ _ _, (Below.refl _ _).alloc (Nat.le_refl _) _⟩
theorem results_talk2 {fn : Func} {p u : Tmp} {x : Value} {tmps : Array Value} {w : World} {g : Nat} {cs : Array Value} (h : fn.results = #[.cell p 26, .tmp u])
    (hp : tmps.getD p undef = .pointer (some ⟨g, 0, none⟩)) (hx : tmps.getD u undef = x) (hg : Whole w g 26 cs) (hc : cs.size = 8) :
    (results fn tmps).run Try.prog w = .ok (.tuple #[.agg cs, x]) w := by
  subst hx
  have hp' : tmps[p]?.getD undef = .pointer (some ⟨g, 0, none⟩) := by simpa using hp
  simp [results, h, hp', asAddr, run_loadVar_row w g 26 26 cs (0, 0) _ hg Try.underlying26 rfl (talkI hc)]
set_option maxHeartbeats 1000000 in
theorem rask25_any {w : World} {xa xt xe xn : Nat} {xs xv xi : Int} {A : Option Addr} {n c : Nat} (ms : List Ms) :
    Calls Try.prog 10 #[.agg #[.int .u16 (xa : Int), .int .i64 xs, .int .u16 (xt : Int), .int .i64 xv, .int .i64 xi, .int .u32 (xe : Int), .int .u32 (xn : Int), .slice A n c]] w fun e w' => e = .returned (.tuple #[.agg (Tk.row (Ng.ask ⟨xa, xs, xt, xv, xi, xe, xn, ms⟩).1 (.slice A n c)), .bool (Ng.ask ⟨xa, xs, xt, xv, xi, xe, xn, ms⟩).2]) ∧ Below w.heap.size w w' := by
  obtain ⟨g, w1, hg, hal, hsz, hx, hb1⟩ := boxedT25 w #[.int .u16 (xa : Int), .int .i64 xs, .int .u16 (xt : Int), .int .i64 xv, .int .i64 xi, .int .u32 (xe : Int), .int .u32 (xn : Int), .slice A n c]
  obtain ⟨r, w2, hr, hal2, hsz2, hy, hb2⟩ := boxedT25 w1 #[.int .u16 0, .int .i64 0, .int .u16 0, .int .i64 0, .int .i64 0, .int .u32 0, .int .u32 0, .slice none 0 0]
  have HB2 : Hid (Below w.heap.size w w2) := Lib.hid (hb1.trans (hb2.mono hb1.size))
  have hx2 : Whole w2 g 26 #[.int .u16 (xa : Int), .int .i64 xs, .int .u16 (xt : Int), .int .i64 xv, .int .i64 xi, .int .u32 (xe : Int), .int .u32 (xn : Int), .slice A n c] := hx.below hb2 (by omega)
  have HX := Lib.hid hx2
  have HY := Lib.hid hy
  obtain ⟨c0, c1, c2, c3, c4, c5, c6, c7⟩ := cellsT hx2
  have HG : Hid (w.heap.size = g ∧ r = g + 1 ∧ w2.heap.size = g + 2) := Lib.hid ⟨by omega, by omega, by omega⟩
  clear hx hb1 hsz hx2 hy hsz2 hb2
  by_cases p : xs = 0
  · have HF : Hid (Ng.ask ⟨xa, xs, xt, xv, xi, xe, xn, ms⟩ = (⟨xa, 1, xt, xv, 0, xe, xn, ms⟩, true)) := Lib.hid (by unfold Ng.ask; rw [if_pos p])
    rw [HF.out]
    have hpd : (xs == 0) = true := by simp [p]
    clear p
    obtain ⟨w3, hwa⟩ : ∃ W, w2.setCell ⟨g, 1, none⟩ (.int .i64 1) = W := ⟨_, rfl⟩
    have HXa : Hid (Whole w3 g 26 #[.int .u16 (xa : Int), .int .i64 1, .int .u16 (xt : Int), .int .i64 xv, .int .i64 xi, .int .u32 (xe : Int), .int .u32 (xn : Int), .slice A n c]) := Lib.hid (by rw [← hwa]; exact HX.out.put 1 _)
    have HYa : Hid (Whole w3 r 26 #[.int .u16 0, .int .i64 0, .int .u16 0, .int .i64 0, .int .i64 0, .int .u32 0, .int .u32 0, .slice none 0 0]) := Lib.hid (by rw [← hwa]; exact HY.out.other (p := ⟨g, 1, none⟩) (by show r ≠ g; have := HG.out; omega) _)
    have HBa : Hid (Below w.heap.size w w3) := Lib.hid (by rw [← hwa]; exact HB2.out.setCell (p := ⟨g, 1, none⟩) (by have := HG.out; show _ ≤ g; omega) _)
    have hfra := HX.out.free 1
    obtain ⟨e0a, e1a, e2a, e3a, e4a, e5a, e6a, e7a⟩ := cellsT HXa.out
    obtain ⟨w4, hwN⟩ : ∃ W, w3.setCell ⟨g, 4, none⟩ (.int .i64 0) = W := ⟨_, rfl⟩
    have HXN : Hid (Whole w4 g 26 #[.int .u16 (xa : Int), .int .i64 1, .int .u16 (xt : Int), .int .i64 xv, .int .i64 0, .int .u32 (xe : Int), .int .u32 (xn : Int), .slice A n c]) := Lib.hid (by rw [← hwN]; exact HXa.out.put 4 _)
    have HYN : Hid (Whole w4 r 26 #[.int .u16 0, .int .i64 0, .int .u16 0, .int .i64 0, .int .i64 0, .int .u32 0, .int .u32 0, .slice none 0 0]) := Lib.hid (by rw [← hwN]; exact HYa.out.other (p := ⟨g, 4, none⟩) (by show r ≠ g; have := HG.out; omega) _)
    have HBN : Hid (Below w.heap.size w w4) := Lib.hid (by rw [← hwN]; exact HBa.out.setCell (p := ⟨g, 4, none⟩) (by have := HG.out; show _ ≤ g; omega) _)
    have hfrN := HXa.out.free 4
    obtain ⟨e0N, e1N, e2N, e3N, e4N, e5N, e6N, e7N⟩ := cellsT HXN.out
    go_enter Try.func10, Try.ntmps10
    go_wp2_with (first | (refine wpList_load_struct Try.underlying26 (talkI rfl) rfl rfl rfl HXN.out ?_) | (refine wpList_store_whole rfl rfl rfl rfl rfl HYN.out (talkI rfl) rfl (by simp [Value.oneCell']) ?_))
    refine bodyPost_ret (v := .tuple #[.agg #[.int .u16 (xa : Int), .int .i64 1, .int .u16 (xt : Int), .int .i64 xv, .int .i64 0, .int .u32 (xe : Int), .int .u32 (xn : Int), .slice A n c], .bool true]) ?_ rfl ⟨rfl, by first | exact below_row HBN.out (by have := HG.out; omega) _ | (rw [← hg]; exact below_row HBN.out (by have := HG.out; omega) _)⟩
    exact results_talk2 rfl rfl rfl (HYN.out.row _) rfl
  · have HF : Hid (Ng.ask ⟨xa, xs, xt, xv, xi, xe, xn, ms⟩ = (⟨xa, xs, xt, xv, xi, xe, xn, ms⟩, false)) := Lib.hid (by unfold Ng.ask; rw [if_neg p])
    rw [HF.out]
    have hpd : (xs == 0) = false := by simp [p]
    clear p
    go_enter Try.func10, Try.ntmps10
    go_wp2_with (refine wpList_store_whole rfl rfl rfl rfl rfl HY.out (talkI rfl) rfl (by simp [Value.oneCell']) ?_)
    refine bodyPost_ret (v := .tuple #[.agg #[.int .u16 (xa : Int), .int .i64 xs, .int .u16 (xt : Int), .int .i64 xv, .int .i64 xi, .int .u32 (xe : Int), .int .u32 (xn : Int), .slice A n c], .bool false]) ?_ rfl ⟨rfl, by first | exact below_row HB2.out (by have := HG.out; omega) _ | (rw [← hg]; exact below_row HB2.out (by have := HG.out; omega) _)⟩
    exact results_talk2 rfl rfl rfl (HY.out.row _) rfl
set_option maxHeartbeats 1000000 in
theorem rtick25_any {w : World} {xa xt xe xn : Nat} {xs xv xi : Int} {A : Option Addr} {n c : Nat} (ms : List Ms) (hi1 : -9223372036854775808 ≤ xi) (hi2 : xi ≤ 9223372036854775807) :
    Calls Try.prog 14 #[.agg #[.int .u16 (xa : Int), .int .i64 xs, .int .u16 (xt : Int), .int .i64 xv, .int .i64 xi, .int .u32 (xe : Int), .int .u32 (xn : Int), .slice A n c]] w fun e w' => e = .returned (.tuple #[.agg (Tk.row (Ng.tick ⟨xa, xs, xt, xv, xi, xe, xn, ms⟩).1 (.slice A n c)), .bool (Ng.tick ⟨xa, xs, xt, xv, xi, xe, xn, ms⟩).2]) ∧ Below w.heap.size w w' := by
  obtain ⟨g, w1, hg, hal, hsz, hx, hb1⟩ := boxedT25 w #[.int .u16 (xa : Int), .int .i64 xs, .int .u16 (xt : Int), .int .i64 xv, .int .i64 xi, .int .u32 (xe : Int), .int .u32 (xn : Int), .slice A n c]
  obtain ⟨r, w2, hr, hal2, hsz2, hy, hb2⟩ := boxedT25 w1 #[.int .u16 0, .int .i64 0, .int .u16 0, .int .i64 0, .int .i64 0, .int .u32 0, .int .u32 0, .slice none 0 0]
  have HB2 : Hid (Below w.heap.size w w2) := Lib.hid (hb1.trans (hb2.mono hb1.size))
  have hx2 : Whole w2 g 26 #[.int .u16 (xa : Int), .int .i64 xs, .int .u16 (xt : Int), .int .i64 xv, .int .i64 xi, .int .u32 (xe : Int), .int .u32 (xn : Int), .slice A n c] := hx.below hb2 (by omega)
  have HX := Lib.hid hx2
  have HY := Lib.hid hy
  obtain ⟨c0, c1, c2, c3, c4, c5, c6, c7⟩ := cellsT hx2
  have HG : Hid (w.heap.size = g ∧ r = g + 1 ∧ w2.heap.size = g + 2) := Lib.hid ⟨by omega, by omega, by omega⟩
  clear hx hb1 hsz hx2 hy hsz2 hb2
  by_cases p : xs = 1
  · have hpd : (xs != 1) = false := by simp [p]
    by_cases q1 : xi < 0
    · have HF : Hid (Ng.tick ⟨xa, xs, xt, xv, xi, xe, xn, ms⟩ = (⟨xa, xs, xt, xv, 0, xe, xn, ms⟩, true)) := Lib.hid (by unfold Ng.tick; rw [if_pos p, if_neg (by show ¬ (0 ≤ xi ∧ xi ≤ 2); omega)])
      rw [HF.out]
      clear p
      obtain ⟨w4, hwN⟩ : ∃ W, w2.setCell ⟨g, 4, none⟩ (.int .i64 0) = W := ⟨_, rfl⟩
      have HXN : Hid (Whole w4 g 26 #[.int .u16 (xa : Int), .int .i64 xs, .int .u16 (xt : Int), .int .i64 xv, .int .i64 0, .int .u32 (xe : Int), .int .u32 (xn : Int), .slice A n c]) := Lib.hid (by rw [← hwN]; exact HX.out.put 4 _)
      have HYN : Hid (Whole w4 r 26 #[.int .u16 0, .int .i64 0, .int .u16 0, .int .i64 0, .int .i64 0, .int .u32 0, .int .u32 0, .slice none 0 0]) := Lib.hid (by rw [← hwN]; exact HY.out.other (p := ⟨g, 4, none⟩) (by show r ≠ g; have := HG.out; omega) _)
      have HBN : Hid (Below w.heap.size w w4) := Lib.hid (by rw [← hwN]; exact HB2.out.setCell (p := ⟨g, 4, none⟩) (by have := HG.out; show _ ≤ g; omega) _)
      have hfrN := HX.out.free 4
      obtain ⟨e0N, e1N, e2N, e3N, e4N, e5N, e6N, e7N⟩ := cellsT HXN.out
      go_enter Try.func14, Try.ntmps14
      go_wp2_with (first | (refine wpList_load_struct Try.underlying26 (talkI rfl) rfl rfl rfl HXN.out ?_) | (refine wpList_store_whole rfl rfl rfl rfl rfl HYN.out (talkI rfl) rfl (by simp [Value.oneCell']) ?_))
      refine bodyPost_ret (v := .tuple #[.agg #[.int .u16 (xa : Int), .int .i64 xs, .int .u16 (xt : Int), .int .i64 xv, .int .i64 0, .int .u32 (xe : Int), .int .u32 (xn : Int), .slice A n c], .bool true]) ?_ rfl ⟨rfl, by first | exact below_row HBN.out (by have := HG.out; omega) _ | (rw [← hg]; exact below_row HBN.out (by have := HG.out; omega) _)⟩
      exact results_talk2 rfl rfl rfl (HYN.out.row _) rfl
    · by_cases q2 : 2 < xi
      · have HF : Hid (Ng.tick ⟨xa, xs, xt, xv, xi, xe, xn, ms⟩ = (⟨xa, xs, xt, xv, 0, xe, xn, ms⟩, true)) := Lib.hid (by unfold Ng.tick; rw [if_pos p, if_neg (by show ¬ (0 ≤ xi ∧ xi ≤ 2); omega)])
        rw [HF.out]
        clear p
        obtain ⟨w4, hwN⟩ : ∃ W, w2.setCell ⟨g, 4, none⟩ (.int .i64 0) = W := ⟨_, rfl⟩
        have HXN : Hid (Whole w4 g 26 #[.int .u16 (xa : Int), .int .i64 xs, .int .u16 (xt : Int), .int .i64 xv, .int .i64 0, .int .u32 (xe : Int), .int .u32 (xn : Int), .slice A n c]) := Lib.hid (by rw [← hwN]; exact HX.out.put 4 _)
        have HYN : Hid (Whole w4 r 26 #[.int .u16 0, .int .i64 0, .int .u16 0, .int .i64 0, .int .i64 0, .int .u32 0, .int .u32 0, .slice none 0 0]) := Lib.hid (by rw [← hwN]; exact HY.out.other (p := ⟨g, 4, none⟩) (by show r ≠ g; have := HG.out; omega) _)
        have HBN : Hid (Below w.heap.size w w4) := Lib.hid (by rw [← hwN]; exact HB2.out.setCell (p := ⟨g, 4, none⟩) (by have := HG.out; show _ ≤ g; omega) _)
        have hfrN := HX.out.free 4
        obtain ⟨e0N, e1N, e2N, e3N, e4N, e5N, e6N, e7N⟩ := cellsT HXN.out
        go_enter Try.func14, Try.ntmps14
        go_wp2_with (first | (refine wpList_load_struct Try.underlying26 (talkI rfl) rfl rfl rfl HXN.out ?_) | (refine wpList_store_whole rfl rfl rfl rfl rfl HYN.out (talkI rfl) rfl (by simp [Value.oneCell']) ?_))
        refine bodyPost_ret (v := .tuple #[.agg #[.int .u16 (xa : Int), .int .i64 xs, .int .u16 (xt : Int), .int .i64 xv, .int .i64 0, .int .u32 (xe : Int), .int .u32 (xn : Int), .slice A n c], .bool true]) ?_ rfl ⟨rfl, by first | exact below_row HBN.out (by have := HG.out; omega) _ | (rw [← hg]; exact below_row HBN.out (by have := HG.out; omega) _)⟩
        exact results_talk2 rfl rfl rfl (HYN.out.row _) rfl
      · have HF : Hid (Ng.tick ⟨xa, xs, xt, xv, xi, xe, xn, ms⟩ = (⟨xa, xs, xt, xv, xi + 1, xe, xn, ms⟩, false)) := Lib.hid (by unfold Ng.tick; rw [if_pos p, if_pos (by show 0 ≤ xi ∧ xi ≤ 2; omega)])
        rw [HF.out]
        clear p
        obtain ⟨xj, hxj⟩ : ∃ xj, xi + 1 = xj := ⟨_, rfl⟩
        rw [hxj]
        obtain ⟨w4, hwN⟩ : ∃ W, w2.setCell ⟨g, 4, none⟩ (.int .i64 xj) = W := ⟨_, rfl⟩
        have HXN : Hid (Whole w4 g 26 #[.int .u16 (xa : Int), .int .i64 xs, .int .u16 (xt : Int), .int .i64 xv, .int .i64 xj, .int .u32 (xe : Int), .int .u32 (xn : Int), .slice A n c]) := Lib.hid (by rw [← hwN]; exact HX.out.put 4 _)
        have HYN : Hid (Whole w4 r 26 #[.int .u16 0, .int .i64 0, .int .u16 0, .int .i64 0, .int .i64 0, .int .u32 0, .int .u32 0, .slice none 0 0]) := Lib.hid (by rw [← hwN]; exact HY.out.other (p := ⟨g, 4, none⟩) (by show r ≠ g; have := HG.out; omega) _)
        have HBN : Hid (Below w.heap.size w w4) := Lib.hid (by rw [← hwN]; exact HB2.out.setCell (p := ⟨g, 4, none⟩) (by have := HG.out; show _ ≤ g; omega) _)
        have hfrN := HX.out.free 4
        obtain ⟨e0N, e1N, e2N, e3N, e4N, e5N, e6N, e7N⟩ := cellsT HXN.out
        go_enter Try.func14, Try.ntmps14
        go_wp2_with (first | (refine wpList_load_struct Try.underlying26 (talkI rfl) rfl rfl rfl HXN.out ?_) | (refine wpList_store_whole rfl rfl rfl rfl rfl HYN.out (talkI rfl) rfl (by simp [Value.oneCell']) ?_))
        refine bodyPost_ret (v := .tuple #[.agg #[.int .u16 (xa : Int), .int .i64 xs, .int .u16 (xt : Int), .int .i64 xv, .int .i64 xj, .int .u32 (xe : Int), .int .u32 (xn : Int), .slice A n c], .bool false]) ?_ rfl ⟨rfl, by first | exact below_row HBN.out (by have := HG.out; omega) _ | (rw [← hg]; exact below_row HBN.out (by have := HG.out; omega) _)⟩
        exact results_talk2 rfl rfl rfl (HYN.out.row _) rfl
  · have HF : Hid (Ng.tick ⟨xa, xs, xt, xv, xi, xe, xn, ms⟩ = (⟨xa, xs, xt, xv, xi, xe, xn, ms⟩, false)) := Lib.hid (by unfold Ng.tick; rw [if_neg p])
    rw [HF.out]
    have hpd : (xs != 1) = true := by simp [p]
    clear p
    go_enter Try.func14, Try.ntmps14
    go_wp2_with (refine wpList_store_whole rfl rfl rfl rfl rfl HY.out (talkI rfl) rfl (by simp [Value.oneCell']) ?_)
    refine bodyPost_ret (v := .tuple #[.agg #[.int .u16 (xa : Int), .int .i64 xs, .int .u16 (xt : Int), .int .i64 xv, .int .i64 xi, .int .u32 (xe : Int), .int .u32 (xn : Int), .slice A n c], .bool false]) ?_ rfl ⟨rfl, by first | exact below_row HB2.out (by have := HG.out; omega) _ | (rw [← hg]; exact below_row HB2.out (by have := HG.out; omega) _)⟩
    exact results_talk2 rfl rfl rfl (HY.out.row _) rfl
set_option maxHeartbeats 1000000 in
theorem rhear25_any {w : World} {xa xt xe xn : Nat} {xs xv xi : Int} {A : Option Addr} {n c : Nat} (ms : List Ms) {own th : Nat} (hown : own < 65536) (hth : th < 65536) (rp : Bool) :
    Calls Try.prog 12 #[.agg #[.int .u16 (xa : Int), .int .i64 xs, .int .u16 (xt : Int), .int .i64 xv, .int .i64 xi, .int .u32 (xe : Int), .int .u32 (xn : Int), .slice A n c], .int .u16 (own : Int), .int .u16 (th : Int), .bool rp] w fun e w' => e = .returned (.tuple #[.agg (Tk.row (Ng.hear ⟨xa, xs, xt, xv, xi, xe, xn, ms⟩ own th rp).1 (.slice A n c)), .bool (Ng.hear ⟨xa, xs, xt, xv, xi, xe, xn, ms⟩ own th rp).2]) ∧ Below w.heap.size w w' := by
  obtain ⟨g, w1, hg, hal, hsz, hx, hb1⟩ := boxedT25 w #[.int .u16 (xa : Int), .int .i64 xs, .int .u16 (xt : Int), .int .i64 xv, .int .i64 xi, .int .u32 (xe : Int), .int .u32 (xn : Int), .slice A n c]
  obtain ⟨r, w2, hr, hal2, hsz2, hy, hb2⟩ := boxedT25 w1 #[.int .u16 0, .int .i64 0, .int .u16 0, .int .i64 0, .int .i64 0, .int .u32 0, .int .u32 0, .slice none 0 0]
  have HB2 : Hid (Below w.heap.size w w2) := Lib.hid (hb1.trans (hb2.mono hb1.size))
  have hx2 : Whole w2 g 26 #[.int .u16 (xa : Int), .int .i64 xs, .int .u16 (xt : Int), .int .i64 xv, .int .i64 xi, .int .u32 (xe : Int), .int .u32 (xn : Int), .slice A n c] := hx.below hb2 (by omega)
  have HX := Lib.hid hx2
  have HY := Lib.hid hy
  obtain ⟨c0, c1, c2, c3, c4, c5, c6, c7⟩ := cellsT hx2
  have HG : Hid (w.heap.size = g ∧ r = g + 1 ∧ w2.heap.size = g + 2) := Lib.hid ⟨by omega, by omega, by omega⟩
  clear hx hb1 hsz hx2 hy hsz2 hb2
  have CB := Lib.hid (fun W => rbest24_any (w := W) hown hth)
  obtain ⟨bs, hbs⟩ : ∃ b, Hid (Vs.best own th = b) := ⟨_, Lib.hid rfl⟩
  rw [hbs.out] at CB
  have HF : Hid (Ng.hear ⟨xa, xs, xt, xv, xi, xe, xn, ms⟩ own th rp = (⟨xa, if bs = 0 then 3 else 2, th, (bs : Nat), 0, xe, xn, ms⟩, !rp)) := Lib.hid (by unfold Ng.hear; rw [hbs.out])
  rw [HF.out]
  obtain ⟨w3, hwa⟩ : ∃ W, w2.setCell ⟨g, 2, none⟩ (.int .u16 (th : Int)) = W := ⟨_, rfl⟩
  have HXa : Hid (Whole w3 g 26 #[.int .u16 (xa : Int), .int .i64 xs, .int .u16 (th : Int), .int .i64 xv, .int .i64 xi, .int .u32 (xe : Int), .int .u32 (xn : Int), .slice A n c]) := Lib.hid (by rw [← hwa]; exact HX.out.put 2 _)
  have HYa : Hid (Whole w3 r 26 #[.int .u16 0, .int .i64 0, .int .u16 0, .int .i64 0, .int .i64 0, .int .u32 0, .int .u32 0, .slice none 0 0]) := Lib.hid (by rw [← hwa]; exact HY.out.other (p := ⟨g, 2, none⟩) (by show r ≠ g; have := HG.out; omega) _)
  have HBa : Hid (Below w.heap.size w w3) := Lib.hid (by rw [← hwa]; exact HB2.out.setCell (p := ⟨g, 2, none⟩) (by have := HG.out; show _ ≤ g; omega) _)
  have hfra := HX.out.free 2
  obtain ⟨e0a, e1a, e2a, e3a, e4a, e5a, e6a, e7a⟩ := cellsT HXa.out
  obtain ⟨w4, hwb⟩ : ∃ W, w3.setCell ⟨g, 3, none⟩ (.int .i64 (bs : Int)) = W := ⟨_, rfl⟩
  have HXb : Hid (Whole w4 g 26 #[.int .u16 (xa : Int), .int .i64 xs, .int .u16 (th : Int), .int .i64 (bs : Int), .int .i64 xi, .int .u32 (xe : Int), .int .u32 (xn : Int), .slice A n c]) := Lib.hid (by rw [← hwb]; exact HXa.out.put 3 _)
  have HYb : Hid (Whole w4 r 26 #[.int .u16 0, .int .i64 0, .int .u16 0, .int .i64 0, .int .i64 0, .int .u32 0, .int .u32 0, .slice none 0 0]) := Lib.hid (by rw [← hwb]; exact HYa.out.other (p := ⟨g, 3, none⟩) (by show r ≠ g; have := HG.out; omega) _)
  have HBb : Hid (Below w.heap.size w w4) := Lib.hid (by rw [← hwb]; exact HBa.out.setCell (p := ⟨g, 3, none⟩) (by have := HG.out; show _ ≤ g; omega) _)
  have hfrb := HXa.out.free 3
  obtain ⟨e0b, e1b, e2b, e3b, e4b, e5b, e6b, e7b⟩ := cellsT HXb.out
  obtain ⟨w5, hwc⟩ : ∃ W, w4.setCell ⟨g, 4, none⟩ (.int .i64 0) = W := ⟨_, rfl⟩
  have HXc : Hid (Whole w5 g 26 #[.int .u16 (xa : Int), .int .i64 xs, .int .u16 (th : Int), .int .i64 (bs : Int), .int .i64 0, .int .u32 (xe : Int), .int .u32 (xn : Int), .slice A n c]) := Lib.hid (by rw [← hwc]; exact HXb.out.put 4 _)
  have HYc : Hid (Whole w5 r 26 #[.int .u16 0, .int .i64 0, .int .u16 0, .int .i64 0, .int .i64 0, .int .u32 0, .int .u32 0, .slice none 0 0]) := Lib.hid (by rw [← hwc]; exact HYb.out.other (p := ⟨g, 4, none⟩) (by show r ≠ g; have := HG.out; omega) _)
  have HBc : Hid (Below w.heap.size w w5) := Lib.hid (by rw [← hwc]; exact HBb.out.setCell (p := ⟨g, 4, none⟩) (by have := HG.out; show _ ≤ g; omega) _)
  have hfrc := HXb.out.free 4
  obtain ⟨e0c, e1c, e2c, e3c, e4c, e5c, e6c, e7c⟩ := cellsT HXc.out
  by_cases p : bs = 0
  · have hpd : ((bs : Int) == 0) = true := by simp; omega
    rw [if_pos p]
    clear p
    obtain ⟨w6, hwN⟩ : ∃ W, w5.setCell ⟨g, 1, none⟩ (.int .i64 3) = W := ⟨_, rfl⟩
    have HXN : Hid (Whole w6 g 26 #[.int .u16 (xa : Int), .int .i64 3, .int .u16 (th : Int), .int .i64 (bs : Int), .int .i64 0, .int .u32 (xe : Int), .int .u32 (xn : Int), .slice A n c]) := Lib.hid (by rw [← hwN]; exact HXc.out.put 1 _)
    have HYN : Hid (Whole w6 r 26 #[.int .u16 0, .int .i64 0, .int .u16 0, .int .i64 0, .int .i64 0, .int .u32 0, .int .u32 0, .slice none 0 0]) := Lib.hid (by rw [← hwN]; exact HYc.out.other (p := ⟨g, 1, none⟩) (by show r ≠ g; have := HG.out; omega) _)
    have HBN : Hid (Below w.heap.size w w6) := Lib.hid (by rw [← hwN]; exact HBc.out.setCell (p := ⟨g, 1, none⟩) (by have := HG.out; show _ ≤ g; omega) _)
    have hfrN := HXc.out.free 1
    obtain ⟨e0N, e1N, e2N, e3N, e4N, e5N, e6N, e7N⟩ := cellsT HXN.out
    go_enter Try.func12, Try.ntmps12
    go_wp2_with fail
    refine (CB.out _).mono ?_
    rintro e w9 ⟨rfl, rfl⟩
    go_wp2_with (first | (refine wpList_load_struct Try.underlying26 (talkI rfl) rfl rfl rfl HXN.out ?_) | (refine wpList_store_whole rfl rfl rfl rfl rfl HYN.out (talkI rfl) rfl (by simp [Value.oneCell']) ?_))
    refine bodyPost_ret (v := .tuple #[.agg #[.int .u16 (xa : Int), .int .i64 3, .int .u16 (th : Int), .int .i64 (bs : Int), .int .i64 0, .int .u32 (xe : Int), .int .u32 (xn : Int), .slice A n c], .bool (!rp)]) ?_ rfl ⟨rfl, by first | exact below_row HBN.out (by have := HG.out; omega) _ | (rw [← hg]; exact below_row HBN.out (by have := HG.out; omega) _)⟩
    exact results_talk2 rfl rfl rfl (HYN.out.row _) rfl
  · have hpd : ((bs : Int) == 0) = false := by simp; omega
    rw [if_neg p]
    clear p
    obtain ⟨w6, hwN⟩ : ∃ W, w5.setCell ⟨g, 1, none⟩ (.int .i64 2) = W := ⟨_, rfl⟩
    have HXN : Hid (Whole w6 g 26 #[.int .u16 (xa : Int), .int .i64 2, .int .u16 (th : Int), .int .i64 (bs : Int), .int .i64 0, .int .u32 (xe : Int), .int .u32 (xn : Int), .slice A n c]) := Lib.hid (by rw [← hwN]; exact HXc.out.put 1 _)
    have HYN : Hid (Whole w6 r 26 #[.int .u16 0, .int .i64 0, .int .u16 0, .int .i64 0, .int .i64 0, .int .u32 0, .int .u32 0, .slice none 0 0]) := Lib.hid (by rw [← hwN]; exact HYc.out.other (p := ⟨g, 1, none⟩) (by show r ≠ g; have := HG.out; omega) _)
    have HBN : Hid (Below w.heap.size w w6) := Lib.hid (by rw [← hwN]; exact HBc.out.setCell (p := ⟨g, 1, none⟩) (by have := HG.out; show _ ≤ g; omega) _)
    have hfrN := HXc.out.free 1
    obtain ⟨e0N, e1N, e2N, e3N, e4N, e5N, e6N, e7N⟩ := cellsT HXN.out
    go_enter Try.func12, Try.ntmps12
    go_wp2_with fail
    refine (CB.out _).mono ?_
    rintro e w9 ⟨rfl, rfl⟩
    go_wp2_with (first | (refine wpList_load_struct Try.underlying26 (talkI rfl) rfl rfl rfl HXN.out ?_) | (refine wpList_store_whole rfl rfl rfl rfl rfl HYN.out (talkI rfl) rfl (by simp [Value.oneCell']) ?_))
    refine bodyPost_ret (v := .tuple #[.agg #[.int .u16 (xa : Int), .int .i64 2, .int .u16 (th : Int), .int .i64 (bs : Int), .int .i64 0, .int .u32 (xe : Int), .int .u32 (xn : Int), .slice A n c], .bool (!rp)]) ?_ rfl ⟨rfl, by first | exact below_row HBN.out (by have := HG.out; omega) _ | (rw [← hg]; exact below_row HBN.out (by have := HG.out; omega) _)⟩
    exact results_talk2 rfl rfl rfl (HYN.out.row _) rfl
end Go.Proofs.Ytjomchehnlnfcaa
