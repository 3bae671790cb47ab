/- Contracts of package nego, and of vers.Best. -/
import Derived.Test.YtjomchehnlnfcaaRnh25
import Derived.Test.YtjomchehnlnfcaaCpd25
import Derived.Test.YtjomchehnlnfcaaPC
import Derived.Test.YtjomchehnlnfcaaBeq
import Derived.Test.YtjomchehnlnfcaaPV
import Derived.Test.YtjomchehnlnfcaaShelf
namespace Go.Proofs.Ytjomchehnlnfcaa
open Go.RowKit
open Gm
set_option linter.unusedVariables false
set_option maxRecDepth 100000
set_option linter.unusedSimpArgs false

/-- what a function on talks answers -/
def TalkPost (r : Tk × Bool) (w : World) (e : Ending) (w' : World) : Prop :=
  ∃ A c, e = .returned (.tuple #[.agg #[.int .u16 (r.1.addr : Int), .int .i64 r.1.state, .int .u16 (r.1.theirs : Int), .int .i64 r.1.version, .int .i64 r.1.since, .int .u32 (r.1.epoch : Int), .int .u32 (r.1.next : Int), .slice A r.1.waits.length c], .bool r.2]) ∧ Ml w' w'.heap.size (.slice A r.1.waits.length c) r.1.waits ∧ Below w.heap.size w w'
theorem TalkPost.of {xa xt xe xn : Nat} {xs xv xi : Int} {ms : List Ms} {b : Bool} {w w' : World} {A : Option Addr} {n c : Nat} (hn : ms.length = n) (hm : Ml w' w'.heap.size (.slice A n c) ms) (hb : Below w.heap.size w w') :
    TalkPost (⟨xa, xs, xt, xv, xi, xe, xn, ms⟩, b) w (.returned (.tuple #[.agg #[.int .u16 (xa : Int), .int .i64 xs, .int .u16 (xt : Int), .int .i64 xv, .int .i64 xi, .int .u32 (xe : Int), .int .u32 (xn : Int), .slice A n c], .bool b])) w' := by
  subst hn
  exact ⟨A, c, rfl, hm, hb⟩
/-- a talk in its block, beside the result's block, while a function is at it -/
structure Tst (w0 : World) (g r base : Nat) (cs : Array Value) (v : Value) (ms : List Ms) (w : World) : Prop where
  x : Whole w g 26 cs
  y : Whole w r 26 #[.int .u16 0, .int .i64 0, .int .u16 0, .int .i64 0, .int .i64 0, .int .u32 0, .int .u32 0, .slice none 0 0]
  m : MlO w base v ms
  below : Below w0.heap.size w0 w
  lo : w0.heap.size ≤ g
  gr : g < r
  rb : r < base
section
variable {w0 w : World} {g r base : Nat} {cs : Array Value} {v : Value} {ms : List Ms}
theorem Tst.row (h : Tst w0 g r base cs v ms w) (cs' : Array Value) : Tst w0 g r base cs' v ms (w.setRow g cs') :=
  ⟨h.x.row cs', (setRow_other w g r cs' (by have := h.gr; omega)).trans h.y, h.m.keep (fun k hk _ => setRow_other w g k cs' (by have := h.gr; have := h.rb; omega)), below_row h.below h.lo cs', h.lo, h.gr, h.rb⟩
theorem Tst.cell (h : Tst w0 g r base cs v ms w) (i : Nat) (u : Value) : Tst w0 g r base (cs.setIfInBounds i u) v ms (w.setCell ⟨g, i, none⟩ u) :=
  ⟨h.x.put i u, h.y.other (p := ⟨g, i, none⟩) (by have := h.gr; show r ≠ g; omega) u, h.m.keep (fun k hk _ => Below.heap_setCell _ _ _ _ (by have := h.gr; have := h.rb; show k ≠ g; omega)), h.below.setCell (p := ⟨g, i, none⟩) h.lo u, h.lo, h.gr, h.rb⟩
theorem Tst.ml (h : Tst w0 g r base cs v ms w) (cs' : Array Value) : Ml (w.setRow r cs') (w.setRow r cs').heap.size v ms :=
  (h.m.keep (fun k hk _ => setRow_other w r k cs' (by have := h.rb; omega))).ml
theorem Tst.done (h : Tst w0 g r base cs v ms w) (cs' : Array Value) : Below w0.heap.size w0 (w.setRow r cs') := below_row h.below (by have := h.lo; have := h.gr; omega) cs'
end
theorem cbest25_any {w : World} {a b : Nat} (ha : a < 65536) (hb : b < 65536) :
    Calls Try.prog 22 #[.int .u16 (a : Int), .int .u16 (b : Int)] w fun e w' => e = .returned (.int .i64 ((Vs.best a b : Nat) : Int)) ∧ w' = w := by
  have H1 := Lib.hid (u16_and_nat a b ha hb)
  have hz : a &&& b ≤ 65535 := Nat.le_of_lt_succ (Nat.lt_of_le_of_lt Nat.and_le_left ha)
  have HC := Lib.hid (Try.bits_Len16 ((a &&& b : Nat) : Int) w (by omega) (by omega))
  rw [Vs.best_bits ha]
  rw [Int.toNat_natCast] at HC
  obtain ⟨z, hzz⟩ : ∃ z, Hid (a &&& b = z) := ⟨_, Lib.hid rfl⟩
  rw [hzz.out] at H1 HC hz ⊢
  have h3 : bits .and .u16 (a : Int) (b : Int) = (z : Int) := H1.out
  obtain ⟨R, hR⟩ : ∃ R, Hid (Go.Lib.bitLen z = R) := ⟨_, Lib.hid rfl⟩
  rw [hR.out] at HC ⊢
  go_enter Try.func22, Try.ntmps22
  go_wp2_with fail
  refine (HC.out).mono ?_
  rintro e w1 ⟨rfl, rfl⟩
  go_wp2_with fail
  go_ret
  exact ⟨rfl, rfl⟩
set_option maxHeartbeats 1000000 in
theorem cask25_any {w : World} {t : Tk} {A : Option Addr} {n c : Nat} (ok : t.Ok) (H : Ml w w.heap.size (.slice A n c) t.waits) (hz : Sz t.waits) :
    Calls Try.prog 9 #[.agg #[.int .u16 (t.addr : Int), .int .i64 t.state, .int .u16 (t.theirs : Int), .int .i64 t.version, .int .i64 t.since, .int .u32 (t.epoch : Int), .int .u32 (t.next : Int), .slice A n c]] w (TalkPost (Ng.ask t) w) := by
  obtain ⟨xa, xs, xt, xv, xi, xe, xn, ms⟩ := t
  simp only at H hz ⊢
  have hnn : ms.length = n := by
    obtain ⟨_, _, e, _⟩ := H
    cases e; rfl
  obtain ⟨g, w1, hg, hal, hsz, hx, hb1⟩ := boxedT25 w #[.int .u16 (xa : Int), .int .i64 xs, .int .u16 (xt : Int), .int .i64 xv, .int .i64 xi, .int .u32 (xe : Int), .int .u32 (xn : Int), .slice A n c]
  obtain ⟨r, w2, hr, hal2, hsz2, hy, hb2⟩ := boxedT25 w1 #[.int .u16 0, .int .i64 0, .int .u16 0, .int .i64 0, .int .i64 0, .int .u32 0, .int .u32 0, .slice none 0 0]
  have hb12 := hb1.trans (hb2.mono hb1.size)
  have HB2 : Hid (Below w.heap.size w w2) := Lib.hid hb12
  have hx2 := hx.below hb2 (by omega)
  have HX := Lib.hid hx2
  have HY := Lib.hid hy
  have HG : Hid (w.heap.size = g ∧ r = g + 1 ∧ w2.heap.size = g + 2) := Lib.hid ⟨by omega, by omega, by omega⟩
  have HC := Lib.hid (ccopied25_any (w := w2) (xa := xa) (xt := xt) (xe := xe) (xn := xn) (xs := xs) (xv := xv) (xi := xi) (H.kept hb12) hz)
  have HN := Lib.hid hnn
  clear hb1 hb2 hb12 hx hx2 hy hsz hsz2 H hz hnn
  by_cases p : xs = 0
  · have HF : Hid (Ng.ask ⟨xa, xs, xt, xv, xi, xe, xn, ms⟩ = (⟨xa, 1, xt, xv, 0, xe, xn, ms⟩, true)) := Lib.hid (by unfold Ng.ask; rw [if_pos p])
    rw [HF.out]
    have hpd : (xs != 0) = false := by simp [p]
    clear p
    go_enter Try.func9, Try.ntmps9
    go_wp2_with (refine wpList_load_struct Try.underlying26 (talkI rfl) rfl rfl rfl HX.out ?_)
    refine (HC.out).mono ?_
    rintro e w3 ⟨A', c', rfl, hm3, hb3⟩
    have HX3 := Lib.hid (HX.out.below hb3 (by have := HG.out; omega))
    have T3 : Hid (Tst w g r w2.heap.size #[.int .u16 (xa : Int), .int .i64 xs, .int .u16 (xt : Int), .int .i64 xv, .int .i64 xi, .int .u32 (xe : Int), .int .u32 (xn : Int), .slice A n c] (.slice A' n c') ms w3) := Lib.hid ⟨HX3.out, HY.out.below hb3 (by have := HG.out; omega), hm3, HB2.out.trans (hb3.mono HB2.out.size), by have := HG.out; omega, by have := HG.out; omega, by have := HG.out; omega⟩
    obtain ⟨w4, hw4⟩ : ∃ W, w3.setRow g #[.int .u16 (xa : Int), .int .i64 xs, .int .u16 (xt : Int), .int .i64 xv, .int .i64 xi, .int .u32 (xe : Int), .int .u32 (xn : Int), .slice A' n c'] = W := ⟨_, rfl⟩
    have T4 : Hid (Tst w g r w2.heap.size #[.int .u16 (xa : Int), .int .i64 xs, .int .u16 (xt : Int), .int .i64 xv, .int .i64 xi, .int .u32 (xe : Int), .int .u32 (xn : Int), .slice A' n c'] (.slice A' n c') ms w4) := Lib.hid (by rw [← hw4]; exact T3.out.row _)
    have HX4 := Lib.hid T4.out.x
    obtain ⟨c0, c1, c2, c3, c4, c5, c6, c7⟩ := cellsT HX4.out
    clear hm3 hb3
    have fr4 := HX4.out.free 1
    obtain ⟨w5, hw5⟩ : ∃ W, w4.setCell ⟨g, 1, none⟩ (.int .i64 1) = W := ⟨_, rfl⟩
    have T5 : Hid (Tst w g r w2.heap.size #[.int .u16 (xa : Int), .int .i64 1, .int .u16 (xt : Int), .int .i64 xv, .int .i64 xi, .int .u32 (xe : Int), .int .u32 (xn : Int), .slice A' n c'] (.slice A' n c') ms w5) := Lib.hid (by rw [← hw5]; exact T4.out.cell 1 _)
    have HX5 := Lib.hid T5.out.x
    obtain ⟨c0_5, c1_5, c2_5, c3_5, c4_5, c5_5, c6_5, c7_5⟩ := cellsT HX5.out
    have fr5 := HX5.out.free 4
    obtain ⟨w6, hw6⟩ : ∃ W, w5.setCell ⟨g, 4, none⟩ (.int .i64 0) = W := ⟨_, rfl⟩
    have T6 : Hid (Tst w g r w2.heap.size #[.int .u16 (xa : Int), .int .i64 1, .int .u16 (xt : Int), .int .i64 xv, .int .i64 0, .int .u32 (xe : Int), .int .u32 (xn : Int), .slice A' n c'] (.slice A' n c') ms w6) := Lib.hid (by rw [← hw6]; exact T5.out.cell 4 _)
    have HX6 := Lib.hid T6.out.x
    obtain ⟨c0_6, c1_6, c2_6, c3_6, c4_6, c5_6, c6_6, c7_6⟩ := cellsT HX6.out
    have HYE := Lib.hid T6.out.y
    go_wp2_with (first | (refine wpList_store_whole rfl rfl rfl rfl rfl HX3.out (talkI rfl) rfl (by simp [Value.oneCell']) ?_; rw [hw4]) | (refine wpList_load_struct Try.underlying26 (talkI rfl) rfl rfl rfl HX6.out ?_) | (refine wpList_store_whole rfl rfl rfl rfl rfl HYE.out (talkI rfl) rfl (by simp [Value.oneCell']) ?_))
    refine bodyPost_ret (v := .tuple #[.agg #[.int .u16 (xa : Int), .int .i64 1, .int .u16 (xt : Int), .int .i64 xv, .int .i64 0, .int .u32 (xe : Int), .int .u32 (xn : Int), .slice A' n c'], .bool true]) ?_ rfl (TalkPost.of HN.out (T6.out.ml _) (T6.out.done _))
    exact results_talk2 rfl rfl rfl (HYE.out.row _) rfl
  · have HF : Hid (Ng.ask ⟨xa, xs, xt, xv, xi, xe, xn, ms⟩ = (⟨xa, xs, xt, xv, xi, xe, xn, ms⟩, false)) := Lib.hid (by unfold Ng.ask; rw [if_neg p])
    rw [HF.out]
    have hpd : (xs != 0) = true := by simp [p]
    clear p
    go_enter Try.func9, Try.ntmps9
    go_wp2_with (refine wpList_load_struct Try.underlying26 (talkI rfl) rfl rfl rfl HX.out ?_)
    refine (HC.out).mono ?_
    rintro e w3 ⟨A', c', rfl, hm3, hb3⟩
    have HX3 := Lib.hid (HX.out.below hb3 (by have := HG.out; omega))
    have T3 : Hid (Tst w g r w2.heap.size #[.int .u16 (xa : Int), .int .i64 xs, .int .u16 (xt : Int), .int .i64 xv, .int .i64 xi, .int .u32 (xe : Int), .int .u32 (xn : Int), .slice A n c] (.slice A' n c') ms w3) := Lib.hid ⟨HX3.out, HY.out.below hb3 (by have := HG.out; omega), hm3, HB2.out.trans (hb3.mono HB2.out.size), by have := HG.out; omega, by have := HG.out; omega, by have := HG.out; omega⟩
    obtain ⟨w4, hw4⟩ : ∃ W, w3.setRow g #[.int .u16 (xa : Int), .int .i64 xs, .int .u16 (xt : Int), .int .i64 xv, .int .i64 xi, .int .u32 (xe : Int), .int .u32 (xn : Int), .slice A' n c'] = W := ⟨_, rfl⟩
    have T4 : Hid (Tst w g r w2.heap.size #[.int .u16 (xa : Int), .int .i64 xs, .int .u16 (xt : Int), .int .i64 xv, .int .i64 xi, .int .u32 (xe : Int), .int .u32 (xn : Int), .slice A' n c'] (.slice A' n c') ms w4) := Lib.hid (by rw [← hw4]; exact T3.out.row _)
    have HX4 := Lib.hid T4.out.x
    obtain ⟨c0, c1, c2, c3, c4, c5, c6, c7⟩ := cellsT HX4.out
    clear hm3 hb3
    have HYE := Lib.hid T4.out.y
    go_wp2_with (first | (refine wpList_store_whole rfl rfl rfl rfl rfl HX3.out (talkI rfl) rfl (by simp [Value.oneCell']) ?_; rw [hw4]) | (refine wpList_load_struct Try.underlying26 (talkI rfl) rfl rfl rfl HX4.out ?_) | (refine wpList_store_whole rfl rfl rfl rfl rfl HYE.out (talkI rfl) rfl (by simp [Value.oneCell']) ?_))
    refine bodyPost_ret (v := .tuple #[.agg #[.int .u16 (xa : Int), .int .i64 xs, .int .u16 (xt : Int), .int .i64 xv, .int .i64 xi, .int .u32 (xe : Int), .int .u32 (xn : Int), .slice A' n c'], .bool false]) ?_ rfl (TalkPost.of HN.out (T4.out.ml _) (T4.out.done _))
    exact results_talk2 rfl rfl rfl (HYE.out.row _) rfl
set_option maxHeartbeats 1000000 in
theorem ctick25_any {w : World} {t : Tk} {A : Option Addr} {n c : Nat} (ok : t.Ok) (H : Ml w w.heap.size (.slice A n c) t.waits) (hz : Sz t.waits) :
    Calls Try.prog 13 #[.agg #[.int .u16 (t.addr : Int), .int .i64 t.state, .int .u16 (t.theirs : Int), .int .i64 t.version, .int .i64 t.since, .int .u32 (t.epoch : Int), .int .u32 (t.next : Int), .slice A n c]] w (TalkPost (Ng.tick t) w) := by
  obtain ⟨xa, xs, xt, xv, xi, xe, xn, ms⟩ := t
  simp only at H hz ⊢
  have hnn : ms.length = n := by
    obtain ⟨_, _, e, _⟩ := H
    cases e; rfl
  obtain ⟨g, w1, hg, hal, hsz, hx, hb1⟩ := boxedT25 w #[.int .u16 (xa : Int), .int .i64 xs, .int .u16 (xt : Int), .int .i64 xv, .int .i64 xi, .int .u32 (xe : Int), .int .u32 (xn : Int), .slice A n c]
  obtain ⟨r, w2, hr, hal2, hsz2, hy, hb2⟩ := boxedT25 w1 #[.int .u16 0, .int .i64 0, .int .u16 0, .int .i64 0, .int .i64 0, .int .u32 0, .int .u32 0, .slice none 0 0]
  have hb12 := hb1.trans (hb2.mono hb1.size)
  have HB2 : Hid (Below w.heap.size w w2) := Lib.hid hb12
  have hx2 := hx.below hb2 (by omega)
  have HX := Lib.hid hx2
  have HY := Lib.hid hy
  have HG : Hid (w.heap.size = g ∧ r = g + 1 ∧ w2.heap.size = g + 2) := Lib.hid ⟨by omega, by omega, by omega⟩
  have HC := Lib.hid (ccopied25_any (w := w2) (xa := xa) (xt := xt) (xe := xe) (xn := xn) (xs := xs) (xv := xv) (xi := xi) (H.kept hb12) hz)
  have HN := Lib.hid hnn
  have hs1 := ok.since.1
  have hs2 := ok.since.2
  simp only at hs1 hs2
  clear hb1 hb2 hb12 hx hx2 hy hsz hsz2 H hz hnn
  by_cases p : xs = 1
  · have hpd : (xs != 1) = false := by simp [p]
    by_cases q : 0 ≤ xi ∧ xi ≤ 2
    · have HF : Hid (Ng.tick ⟨xa, xs, xt, xv, xi, xe, xn, ms⟩ = (⟨xa, xs, xt, xv, xi + 1, xe, xn, ms⟩, false)) := Lib.hid (by unfold Ng.tick; rw [if_pos p, if_pos q])
      rw [HF.out]
      obtain ⟨q1, q2⟩ := q
      have hd1 : decide (xi < 0) = false := decide_eq_false (by omega)
      have hd2 : decide (2 < xi) = false := decide_eq_false (by omega)
      have hwr : IntKind.i64.wrap (xi + 1) = xi + 1 := by rw [IntKind.wrap_i64]; omega
      clear p
      go_enter Try.func13, Try.ntmps13
      go_wp2_with (refine wpList_load_struct Try.underlying26 (talkI rfl) rfl rfl rfl HX.out ?_)
      refine (HC.out).mono ?_
      rintro e w3 ⟨A', c', rfl, hm3, hb3⟩
      have HX3 := Lib.hid (HX.out.below hb3 (by have := HG.out; omega))
      have T3 : Hid (Tst w g r w2.heap.size #[.int .u16 (xa : Int), .int .i64 xs, .int .u16 (xt : Int), .int .i64 xv, .int .i64 xi, .int .u32 (xe : Int), .int .u32 (xn : Int), .slice A n c] (.slice A' n c') ms w3) := Lib.hid ⟨HX3.out, HY.out.below hb3 (by have := HG.out; omega), hm3, HB2.out.trans (hb3.mono HB2.out.size), by have := HG.out; omega, by have := HG.out; omega, by have := HG.out; omega⟩
      obtain ⟨w4, hw4⟩ : ∃ W, w3.setRow g #[.int .u16 (xa : Int), .int .i64 xs, .int .u16 (xt : Int), .int .i64 xv, .int .i64 xi, .int .u32 (xe : Int), .int .u32 (xn : Int), .slice A' n c'] = W := ⟨_, rfl⟩
      have T4 : Hid (Tst w g r w2.heap.size #[.int .u16 (xa : Int), .int .i64 xs, .int .u16 (xt : Int), .int .i64 xv, .int .i64 xi, .int .u32 (xe : Int), .int .u32 (xn : Int), .slice A' n c'] (.slice A' n c') ms w4) := Lib.hid (by rw [← hw4]; exact T3.out.row _)
      have HX4 := Lib.hid T4.out.x
      obtain ⟨c0, c1, c2, c3, c4, c5, c6, c7⟩ := cellsT HX4.out
      clear hm3 hb3
      have fr4 := HX4.out.free 4
      obtain ⟨w5, hw5⟩ : ∃ W, w4.setCell ⟨g, 4, none⟩ (.int .i64 (xi + 1)) = W := ⟨_, rfl⟩
      have T5 : Hid (Tst w g r w2.heap.size #[.int .u16 (xa : Int), .int .i64 xs, .int .u16 (xt : Int), .int .i64 xv, .int .i64 (xi + 1), .int .u32 (xe : Int), .int .u32 (xn : Int), .slice A' n c'] (.slice A' n c') ms w5) := Lib.hid (by rw [← hw5]; exact T4.out.cell 4 _)
      have HX5 := Lib.hid T5.out.x
      obtain ⟨c0_5, c1_5, c2_5, c3_5, c4_5, c5_5, c6_5, c7_5⟩ := cellsT HX5.out
      have HYE := Lib.hid T5.out.y
      go_wp2_with (first | (refine wpList_store_whole rfl rfl rfl rfl rfl HX3.out (talkI rfl) rfl (by simp [Value.oneCell']) ?_; rw [hw4]) | (refine wpList_load_struct Try.underlying26 (talkI rfl) rfl rfl rfl HX5.out ?_) | (refine wpList_store_whole rfl rfl rfl rfl rfl HYE.out (talkI rfl) rfl (by simp [Value.oneCell']) ?_))
      refine bodyPost_ret (v := .tuple #[.agg #[.int .u16 (xa : Int), .int .i64 xs, .int .u16 (xt : Int), .int .i64 xv, .int .i64 (xi + 1), .int .u32 (xe : Int), .int .u32 (xn : Int), .slice A' n c'], .bool false]) ?_ rfl (TalkPost.of HN.out (T5.out.ml _) (T5.out.done _))
      exact results_talk2 rfl rfl rfl (HYE.out.row _) rfl
    · have HF : Hid (Ng.tick ⟨xa, xs, xt, xv, xi, xe, xn, ms⟩ = (⟨xa, xs, xt, xv, 0, xe, xn, ms⟩, true)) := Lib.hid (by unfold Ng.tick; rw [if_pos p, if_neg q])
      rw [HF.out]
      clear p
      by_cases q1 : xi < 0
      · have hd1 : decide (xi < 0) = true := decide_eq_true q1
        clear q q1
        go_enter Try.func13, Try.ntmps13
        go_wp2_with (refine wpList_load_struct Try.underlying26 (talkI rfl) rfl rfl rfl HX.out ?_)
        refine (HC.out).mono ?_
        rintro e w3 ⟨A', c', rfl, hm3, hb3⟩
        have HX3 := Lib.hid (HX.out.below hb3 (by have := HG.out; omega))
        have T3 : Hid (Tst w g r w2.heap.size #[.int .u16 (xa : Int), .int .i64 xs, .int .u16 (xt : Int), .int .i64 xv, .int .i64 xi, .int .u32 (xe : Int), .int .u32 (xn : Int), .slice A n c] (.slice A' n c') ms w3) := Lib.hid ⟨HX3.out, HY.out.below hb3 (by have := HG.out; omega), hm3, HB2.out.trans (hb3.mono HB2.out.size), by have := HG.out; omega, by have := HG.out; omega, by have := HG.out; omega⟩
        obtain ⟨w4, hw4⟩ : ∃ W, w3.setRow g #[.int .u16 (xa : Int), .int .i64 xs, .int .u16 (xt : Int), .int .i64 xv, .int .i64 xi, .int .u32 (xe : Int), .int .u32 (xn : Int), .slice A' n c'] = W := ⟨_, rfl⟩
        have T4 : Hid (Tst w g r w2.heap.size #[.int .u16 (xa : Int), .int .i64 xs, .int .u16 (xt : Int), .int .i64 xv, .int .i64 xi, .int .u32 (xe : Int), .int .u32 (xn : Int), .slice A' n c'] (.slice A' n c') ms w4) := Lib.hid (by rw [← hw4]; exact T3.out.row _)
        have HX4 := Lib.hid T4.out.x
        obtain ⟨c0, c1, c2, c3, c4, c5, c6, c7⟩ := cellsT HX4.out
        clear hm3 hb3
        have fr4 := HX4.out.free 4
        obtain ⟨w5, hw5⟩ : ∃ W, w4.setCell ⟨g, 4, none⟩ (.int .i64 0) = W := ⟨_, rfl⟩
        have T5 : Hid (Tst w g r w2.heap.size #[.int .u16 (xa : Int), .int .i64 xs, .int .u16 (xt : Int), .int .i64 xv, .int .i64 0, .int .u32 (xe : Int), .int .u32 (xn : Int), .slice A' n c'] (.slice A' n c') ms w5) := Lib.hid (by rw [← hw5]; exact T4.out.cell 4 _)
        have HX5 := Lib.hid T5.out.x
        obtain ⟨c0_5, c1_5, c2_5, c3_5, c4_5, c5_5, c6_5, c7_5⟩ := cellsT HX5.out
        have HYE := Lib.hid T5.out.y
        go_wp2_with (first | (refine wpList_store_whole rfl rfl rfl rfl rfl HX3.out (talkI rfl) rfl (by simp [Value.oneCell']) ?_; rw [hw4]) | (refine wpList_load_struct Try.underlying26 (talkI rfl) rfl rfl rfl HX5.out ?_) | (refine wpList_store_whole rfl rfl rfl rfl rfl HYE.out (talkI rfl) rfl (by simp [Value.oneCell']) ?_))
        refine bodyPost_ret (v := .tuple #[.agg #[.int .u16 (xa : Int), .int .i64 xs, .int .u16 (xt : Int), .int .i64 xv, .int .i64 0, .int .u32 (xe : Int), .int .u32 (xn : Int), .slice A' n c'], .bool true]) ?_ rfl (TalkPost.of HN.out (T5.out.ml _) (T5.out.done _))
        exact results_talk2 rfl rfl rfl (HYE.out.row _) rfl
      · have hd1 : decide (xi < 0) = false := decide_eq_false q1
        have hd2 : decide (2 < xi) = true := decide_eq_true (by omega)
        clear q q1
        go_enter Try.func13, Try.ntmps13
        go_wp2_with (refine wpList_load_struct Try.underlying26 (talkI rfl) rfl rfl rfl HX.out ?_)
        refine (HC.out).mono ?_
        rintro e w3 ⟨A', c', rfl, hm3, hb3⟩
        have HX3 := Lib.hid (HX.out.below hb3 (by have := HG.out; omega))
        have T3 : Hid (Tst w g r w2.heap.size #[.int .u16 (xa : Int), .int .i64 xs, .int .u16 (xt : Int), .int .i64 xv, .int .i64 xi, .int .u32 (xe : Int), .int .u32 (xn : Int), .slice A n c] (.slice A' n c') ms w3) := Lib.hid ⟨HX3.out, HY.out.below hb3 (by have := HG.out; omega), hm3, HB2.out.trans (hb3.mono HB2.out.size), by have := HG.out; omega, by have := HG.out; omega, by have := HG.out; omega⟩
        obtain ⟨w4, hw4⟩ : ∃ W, w3.setRow g #[.int .u16 (xa : Int), .int .i64 xs, .int .u16 (xt : Int), .int .i64 xv, .int .i64 xi, .int .u32 (xe : Int), .int .u32 (xn : Int), .slice A' n c'] = W := ⟨_, rfl⟩
        have T4 : Hid (Tst w g r w2.heap.size #[.int .u16 (xa : Int), .int .i64 xs, .int .u16 (xt : Int), .int .i64 xv, .int .i64 xi, .int .u32 (xe : Int), .int .u32 (xn : Int), .slice A' n c'] (.slice A' n c') ms w4) := Lib.hid (by rw [← hw4]; exact T3.out.row _)
        have HX4 := Lib.hid T4.out.x
        obtain ⟨c0, c1, c2, c3, c4, c5, c6, c7⟩ := cellsT HX4.out
        clear hm3 hb3
        have fr4 := HX4.out.free 4
        obtain ⟨w5, hw5⟩ : ∃ W, w4.setCell ⟨g, 4, none⟩ (.int .i64 0) = W := ⟨_, rfl⟩
        have T5 : Hid (Tst w g r w2.heap.size #[.int .u16 (xa : Int), .int .i64 xs, .int .u16 (xt : Int), .int .i64 xv, .int .i64 0, .int .u32 (xe : Int), .int .u32 (xn : Int), .slice A' n c'] (.slice A' n c') ms w5) := Lib.hid (by rw [← hw5]; exact T4.out.cell 4 _)
        have HX5 := Lib.hid T5.out.x
        obtain ⟨c0_5, c1_5, c2_5, c3_5, c4_5, c5_5, c6_5, c7_5⟩ := cellsT HX5.out
        have HYE := Lib.hid T5.out.y
        go_wp2_with (first | (refine wpList_store_whole rfl rfl rfl rfl rfl HX3.out (talkI rfl) rfl (by simp [Value.oneCell']) ?_; rw [hw4]) | (refine wpList_load_struct Try.underlying26 (talkI rfl) rfl rfl rfl HX5.out ?_) | (refine wpList_store_whole rfl rfl rfl rfl rfl HYE.out (talkI rfl) rfl (by simp [Value.oneCell']) ?_))
        refine bodyPost_ret (v := .tuple #[.agg #[.int .u16 (xa : Int), .int .i64 xs, .int .u16 (xt : Int), .int .i64 xv, .int .i64 0, .int .u32 (xe : Int), .int .u32 (xn : Int), .slice A' n c'], .bool true]) ?_ rfl (TalkPost.of HN.out (T5.out.ml _) (T5.out.done _))
        exact results_talk2 rfl rfl rfl (HYE.out.row _) rfl
  · have HF : Hid (Ng.tick ⟨xa, xs, xt, xv, xi, xe, xn, ms⟩ = (⟨xa, xs, xt, xv, xi, xe, xn, ms⟩, false)) := Lib.hid (by unfold Ng.tick; rw [if_neg p])
    rw [HF.out]
    have hpd : (xs != 1) = true := by simp [p]
    clear p
    go_enter Try.func13, Try.ntmps13
    go_wp2_with (refine wpList_load_struct Try.underlying26 (talkI rfl) rfl rfl rfl HX.out ?_)
    refine (HC.out).mono ?_
    rintro e w3 ⟨A', c', rfl, hm3, hb3⟩
    have HX3 := Lib.hid (HX.out.below hb3 (by have := HG.out; omega))
    have T3 : Hid (Tst w g r w2.heap.size #[.int .u16 (xa : Int), .int .i64 xs, .int .u16 (xt : Int), .int .i64 xv, .int .i64 xi, .int .u32 (xe : Int), .int .u32 (xn : Int), .slice A n c] (.slice A' n c') ms w3) := Lib.hid ⟨HX3.out, HY.out.below hb3 (by have := HG.out; omega), hm3, HB2.out.trans (hb3.mono HB2.out.size), by have := HG.out; omega, by have := HG.out; omega, by have := HG.out; omega⟩
    obtain ⟨w4, hw4⟩ : ∃ W, w3.setRow g #[.int .u16 (xa : Int), .int .i64 xs, .int .u16 (xt : Int), .int .i64 xv, .int .i64 xi, .int .u32 (xe : Int), .int .u32 (xn : Int), .slice A' n c'] = W := ⟨_, rfl⟩
    have T4 : Hid (Tst w g r w2.heap.size #[.int .u16 (xa : Int), .int .i64 xs, .int .u16 (xt : Int), .int .i64 xv, .int .i64 xi, .int .u32 (xe : Int), .int .u32 (xn : Int), .slice A' n c'] (.slice A' n c') ms w4) := Lib.hid (by rw [← hw4]; exact T3.out.row _)
    have HX4 := Lib.hid T4.out.x
    obtain ⟨c0, c1, c2, c3, c4, c5, c6, c7⟩ := cellsT HX4.out
    clear hm3 hb3
    have HYE := Lib.hid T4.out.y
    go_wp2_with (first | (refine wpList_store_whole rfl rfl rfl rfl rfl HX3.out (talkI rfl) rfl (by simp [Value.oneCell']) ?_; rw [hw4]) | (refine wpList_load_struct Try.underlying26 (talkI rfl) rfl rfl rfl HX4.out ?_) | (refine wpList_store_whole rfl rfl rfl rfl rfl HYE.out (talkI rfl) rfl (by simp [Value.oneCell']) ?_))
    refine bodyPost_ret (v := .tuple #[.agg #[.int .u16 (xa : Int), .int .i64 xs, .int .u16 (xt : Int), .int .i64 xv, .int .i64 xi, .int .u32 (xe : Int), .int .u32 (xn : Int), .slice A' n c'], .bool false]) ?_ rfl (TalkPost.of HN.out (T4.out.ml _) (T4.out.done _))
    exact results_talk2 rfl rfl rfl (HYE.out.row _) rfl
set_option maxHeartbeats 1000000 in
theorem chear25_any {w : World} {t : Tk} {A : Option Addr} {n c : Nat} (ok : t.Ok) (H : Ml w w.heap.size (.slice A n c) t.waits) (hz : Sz t.waits) {own th : Nat} (hown : own < 65536) (hth : th < 65536) (rp : Bool) :
    Calls Try.prog 11 #[.agg #[.int .u16 (t.addr : Int), .int .i64 t.state, .int .u16 (t.theirs : Int), .int .i64 t.version, .int .i64 t.since, .int .u32 (t.epoch : Int), .int .u32 (t.next : Int), .slice A n c], .int .u16 (own : Int), .int .u16 (th : Int), .bool rp] w (TalkPost (Ng.hear t own th rp) w) := by
  obtain ⟨xa, xs, xt, xv, xi, xe, xn, ms⟩ := t
  simp only at H hz ⊢
  have hnn : ms.length = n := by
    obtain ⟨_, _, e, _⟩ := H
    cases e; rfl
  obtain ⟨g, w1, hg, hal, hsz, hx, hb1⟩ := boxedT25 w #[.int .u16 (xa : Int), .int .i64 xs, .int .u16 (xt : Int), .int .i64 xv, .int .i64 xi, .int .u32 (xe : Int), .int .u32 (xn : Int), .slice A n c]
  obtain ⟨r, w2, hr, hal2, hsz2, hy, hb2⟩ := boxedT25 w1 #[.int .u16 0, .int .i64 0, .int .u16 0, .int .i64 0, .int .i64 0, .int .u32 0, .int .u32 0, .slice none 0 0]
  have hb12 := hb1.trans (hb2.mono hb1.size)
  have HB2 : Hid (Below w.heap.size w w2) := Lib.hid hb12
  have hx2 := hx.below hb2 (by omega)
  have HX := Lib.hid hx2
  have HY := Lib.hid hy
  have HG : Hid (w.heap.size = g ∧ r = g + 1 ∧ w2.heap.size = g + 2) := Lib.hid ⟨by omega, by omega, by omega⟩
  have HC := Lib.hid (ccopied25_any (w := w2) (xa := xa) (xt := xt) (xe := xe) (xn := xn) (xs := xs) (xv := xv) (xi := xi) (H.kept hb12) hz)
  have HN := Lib.hid hnn
  have CB := Lib.hid (fun W => cbest25_any (w := W) hown hth)
  have HF : Hid (Ng.hear ⟨xa, xs, xt, xv, xi, xe, xn, ms⟩ own th rp = (⟨xa, if Vs.best own th = 0 then 3 else 2, th, (Vs.best own th : Nat), 0, xe, xn, ms⟩, !rp)) := Lib.hid rfl
  rw [HF.out]
  obtain ⟨bs, hbs⟩ : ∃ b, Hid (Vs.best own th = b) := ⟨_, Lib.hid rfl⟩
  rw [hbs.out] at CB ⊢
  clear HF
  clear hb1 hb2 hb12 hx hx2 hy hsz hsz2 H hz hnn
  by_cases p : bs = 0
  · have hpd : ((bs : Int) == 0) = true := by simp; omega
    rw [if_pos p]
    clear p
    go_enter Try.func11, Try.ntmps11
    go_wp2_with (refine wpList_load_struct Try.underlying26 (talkI rfl) rfl rfl rfl HX.out ?_)
    refine (HC.out).mono ?_
    rintro e w3 ⟨A', c', rfl, hm3, hb3⟩
    have HX3 := Lib.hid (HX.out.below hb3 (by have := HG.out; omega))
    have T3 : Hid (Tst w g r w2.heap.size #[.int .u16 (xa : Int), .int .i64 xs, .int .u16 (xt : Int), .int .i64 xv, .int .i64 xi, .int .u32 (xe : Int), .int .u32 (xn : Int), .slice A n c] (.slice A' n c') ms w3) := Lib.hid ⟨HX3.out, HY.out.below hb3 (by have := HG.out; omega), hm3, HB2.out.trans (hb3.mono HB2.out.size), by have := HG.out; omega, by have := HG.out; omega, by have := HG.out; omega⟩
    obtain ⟨w4, hw4⟩ : ∃ W, w3.setRow g #[.int .u16 (xa : Int), .int .i64 xs, .int .u16 (xt : Int), .int .i64 xv, .int .i64 xi, .int .u32 (xe : Int), .int .u32 (xn : Int), .slice A' n c'] = W := ⟨_, rfl⟩
    have T4 : Hid (Tst w g r w2.heap.size #[.int .u16 (xa : Int), .int .i64 xs, .int .u16 (xt : Int), .int .i64 xv, .int .i64 xi, .int .u32 (xe : Int), .int .u32 (xn : Int), .slice A' n c'] (.slice A' n c') ms w4) := Lib.hid (by rw [← hw4]; exact T3.out.row _)
    have HX4 := Lib.hid T4.out.x
    obtain ⟨c0, c1, c2, c3, c4, c5, c6, c7⟩ := cellsT HX4.out
    clear hm3 hb3
    have fr4 := HX4.out.free 2
    obtain ⟨w5, hw5⟩ : ∃ W, w4.setCell ⟨g, 2, none⟩ (.int .u16 (th : Int)) = W := ⟨_, rfl⟩
    have T5 : Hid (Tst w g r w2.heap.size #[.int .u16 (xa : Int), .int .i64 xs, .int .u16 (th : Int), .int .i64 xv, .int .i64 xi, .int .u32 (xe : Int), .int .u32 (xn : Int), .slice A' n c'] (.slice A' n c') ms w5) := Lib.hid (by rw [← hw5]; exact T4.out.cell 2 _)
    have HX5 := Lib.hid T5.out.x
    obtain ⟨c0_5, c1_5, c2_5, c3_5, c4_5, c5_5, c6_5, c7_5⟩ := cellsT HX5.out
    have fr5 := HX5.out.free 3
    obtain ⟨w6, hw6⟩ : ∃ W, w5.setCell ⟨g, 3, none⟩ (.int .i64 (bs : Int)) = W := ⟨_, rfl⟩
    have T6 : Hid (Tst w g r w2.heap.size #[.int .u16 (xa : Int), .int .i64 xs, .int .u16 (th : Int), .int .i64 (bs : Int), .int .i64 xi, .int .u32 (xe : Int), .int .u32 (xn : Int), .slice A' n c'] (.slice A' n c') ms w6) := Lib.hid (by rw [← hw6]; exact T5.out.cell 3 _)
    have HX6 := Lib.hid T6.out.x
    obtain ⟨c0_6, c1_6, c2_6, c3_6, c4_6, c5_6, c6_6, c7_6⟩ := cellsT HX6.out
    have fr6 := HX6.out.free 4
    obtain ⟨w7, hw7⟩ : ∃ W, w6.setCell ⟨g, 4, none⟩ (.int .i64 0) = W := ⟨_, rfl⟩
    have T7 : Hid (Tst w g r w2.heap.size #[.int .u16 (xa : Int), .int .i64 xs, .int .u16 (th : Int), .int .i64 (bs : Int), .int .i64 0, .int .u32 (xe : Int), .int .u32 (xn : Int), .slice A' n c'] (.slice A' n c') ms w7) := Lib.hid (by rw [← hw7]; exact T6.out.cell 4 _)
    have HX7 := Lib.hid T7.out.x
    obtain ⟨c0_7, c1_7, c2_7, c3_7, c4_7, c5_7, c6_7, c7_7⟩ := cellsT HX7.out
    have fr7 := HX7.out.free 1
    obtain ⟨w8, hw8⟩ : ∃ W, w7.setCell ⟨g, 1, none⟩ (.int .i64 2) = W := ⟨_, rfl⟩
    have T8 : Hid (Tst w g r w2.heap.size #[.int .u16 (xa : Int), .int .i64 2, .int .u16 (th : Int), .int .i64 (bs : Int), .int .i64 0, .int .u32 (xe : Int), .int .u32 (xn : Int), .slice A' n c'] (.slice A' n c') ms w8) := Lib.hid (by rw [← hw8]; exact T7.out.cell 1 _)
    have HX8 := Lib.hid T8.out.x
    obtain ⟨c0_8, c1_8, c2_8, c3_8, c4_8, c5_8, c6_8, c7_8⟩ := cellsT HX8.out
    have fr8 := HX8.out.free 1
    obtain ⟨w9, hw9⟩ : ∃ W, w8.setCell ⟨g, 1, none⟩ (.int .i64 3) = W := ⟨_, rfl⟩
    have T9 : Hid (Tst w g r w2.heap.size #[.int .u16 (xa : Int), .int .i64 3, .int .u16 (th : Int), .int .i64 (bs : Int), .int .i64 0, .int .u32 (xe : Int), .int .u32 (xn : Int), .slice A' n c'] (.slice A' n c') ms w9) := Lib.hid (by rw [← hw9]; exact T8.out.cell 1 _)
    have HX9 := Lib.hid T9.out.x
    obtain ⟨c0_9, c1_9, c2_9, c3_9, c4_9, c5_9, c6_9, c7_9⟩ := cellsT HX9.out
    have HYE := Lib.hid T9.out.y
    go_wp2_with (refine wpList_store_whole rfl rfl rfl rfl rfl HX3.out (talkI rfl) rfl (by simp [Value.oneCell']) ?_; rw [hw4])
    refine (CB.out _).mono ?_
    rintro e w9 ⟨rfl, rfl⟩
    go_wp2_with (first | (refine wpList_store_whole rfl rfl rfl rfl rfl HX3.out (talkI rfl) rfl (by simp [Value.oneCell']) ?_; rw [hw4]) | (refine wpList_load_struct Try.underlying26 (talkI rfl) rfl rfl rfl HX9.out ?_) | (refine wpList_store_whole rfl rfl rfl rfl rfl HYE.out (talkI rfl) rfl (by simp [Value.oneCell']) ?_))
    refine bodyPost_ret (v := .tuple #[.agg #[.int .u16 (xa : Int), .int .i64 3, .int .u16 (th : Int), .int .i64 (bs : Int), .int .i64 0, .int .u32 (xe : Int), .int .u32 (xn : Int), .slice A' n c'], .bool (!rp)]) ?_ rfl (TalkPost.of HN.out (T9.out.ml _) (T9.out.done _))
    exact results_talk2 rfl rfl rfl (HYE.out.row _) rfl
  · have hpd : ((bs : Int) == 0) = false := by simp; omega
    rw [if_neg p]
    clear p
    go_enter Try.func11, Try.ntmps11
    go_wp2_with (refine wpList_load_struct Try.underlying26 (talkI rfl) rfl rfl rfl HX.out ?_)
    refine (HC.out).mono ?_
    rintro e w3 ⟨A', c', rfl, hm3, hb3⟩
    have HX3 := Lib.hid (HX.out.below hb3 (by have := HG.out; omega))
    have T3 : Hid (Tst w g r w2.heap.size #[.int .u16 (xa : Int), .int .i64 xs, .int .u16 (xt : Int), .int .i64 xv, .int .i64 xi, .int .u32 (xe : Int), .int .u32 (xn : Int), .slice A n c] (.slice A' n c') ms w3) := Lib.hid ⟨HX3.out, HY.out.below hb3 (by have := HG.out; omega), hm3, HB2.out.trans (hb3.mono HB2.out.size), by have := HG.out; omega, by have := HG.out; omega, by have := HG.out; omega⟩
    obtain ⟨w4, hw4⟩ : ∃ W, w3.setRow g #[.int .u16 (xa : Int), .int .i64 xs, .int .u16 (xt : Int), .int .i64 xv, .int .i64 xi, .int .u32 (xe : Int), .int .u32 (xn : Int), .slice A' n c'] = W := ⟨_, rfl⟩
    have T4 : Hid (Tst w g r w2.heap.size #[.int .u16 (xa : Int), .int .i64 xs, .int .u16 (xt : Int), .int .i64 xv, .int .i64 xi, .int .u32 (xe : Int), .int .u32 (xn : Int), .slice A' n c'] (.slice A' n c') ms w4) := Lib.hid (by rw [← hw4]; exact T3.out.row _)
    have HX4 := Lib.hid T4.out.x
    obtain ⟨c0, c1, c2, c3, c4, c5, c6, c7⟩ := cellsT HX4.out
    clear hm3 hb3
    have fr4 := HX4.out.free 2
    obtain ⟨w5, hw5⟩ : ∃ W, w4.setCell ⟨g, 2, none⟩ (.int .u16 (th : Int)) = W := ⟨_, rfl⟩
    have T5 : Hid (Tst w g r w2.heap.size #[.int .u16 (xa : Int), .int .i64 xs, .int .u16 (th : Int), .int .i64 xv, .int .i64 xi, .int .u32 (xe : Int), .int .u32 (xn : Int), .slice A' n c'] (.slice A' n c') ms w5) := Lib.hid (by rw [← hw5]; exact T4.out.cell 2 _)
    have HX5 := Lib.hid T5.out.x
    obtain ⟨c0_5, c1_5, c2_5, c3_5, c4_5, c5_5, c6_5, c7_5⟩ := cellsT HX5.out
    have fr5 := HX5.out.free 3
    obtain ⟨w6, hw6⟩ : ∃ W, w5.setCell ⟨g, 3, none⟩ (.int .i64 (bs : Int)) = W := ⟨_, rfl⟩
    have T6 : Hid (Tst w g r w2.heap.size #[.int .u16 (xa : Int), .int .i64 xs, .int .u16 (th : Int), .int .i64 (bs : Int), .int .i64 xi, .int .u32 (xe : Int), .int .u32 (xn : Int), .slice A' n c'] (.slice A' n c') ms w6) := Lib.hid (by rw [← hw6]; exact T5.out.cell 3 _)
    have HX6 := Lib.hid T6.out.x
    obtain ⟨c0_6, c1_6, c2_6, c3_6, c4_6, c5_6, c6_6, c7_6⟩ := cellsT HX6.out
    have fr6 := HX6.out.free 4
    obtain ⟨w7, hw7⟩ : ∃ W, w6.setCell ⟨g, 4, none⟩ (.int .i64 0) = W := ⟨_, rfl⟩
    have T7 : Hid (Tst w g r w2.heap.size #[.int .u16 (xa : Int), .int .i64 xs, .int .u16 (th : Int), .int .i64 (bs : Int), .int .i64 0, .int .u32 (xe : Int), .int .u32 (xn : Int), .slice A' n c'] (.slice A' n c') ms w7) := Lib.hid (by rw [← hw7]; exact T6.out.cell 4 _)
    have HX7 := Lib.hid T7.out.x
    obtain ⟨c0_7, c1_7, c2_7, c3_7, c4_7, c5_7, c6_7, c7_7⟩ := cellsT HX7.out
    have fr7 := HX7.out.free 1
    obtain ⟨w8, hw8⟩ : ∃ W, w7.setCell ⟨g, 1, none⟩ (.int .i64 2) = W := ⟨_, rfl⟩
    have T8 : Hid (Tst w g r w2.heap.size #[.int .u16 (xa : Int), .int .i64 2, .int .u16 (th : Int), .int .i64 (bs : Int), .int .i64 0, .int .u32 (xe : Int), .int .u32 (xn : Int), .slice A' n c'] (.slice A' n c') ms w8) := Lib.hid (by rw [← hw8]; exact T7.out.cell 1 _)
    have HX8 := Lib.hid T8.out.x
    obtain ⟨c0_8, c1_8, c2_8, c3_8, c4_8, c5_8, c6_8, c7_8⟩ := cellsT HX8.out
    have HYE := Lib.hid T8.out.y
    go_wp2_with (refine wpList_store_whole rfl rfl rfl rfl rfl HX3.out (talkI rfl) rfl (by simp [Value.oneCell']) ?_; rw [hw4])
    refine (CB.out _).mono ?_
    rintro e w9 ⟨rfl, rfl⟩
    go_wp2_with (first | (refine wpList_store_whole rfl rfl rfl rfl rfl HX3.out (talkI rfl) rfl (by simp [Value.oneCell']) ?_; rw [hw4]) | (refine wpList_load_struct Try.underlying26 (talkI rfl) rfl rfl rfl HX8.out ?_) | (refine wpList_store_whole rfl rfl rfl rfl rfl HYE.out (talkI rfl) rfl (by simp [Value.oneCell']) ?_))
    refine bodyPost_ret (v := .tuple #[.agg #[.int .u16 (xa : Int), .int .i64 2, .int .u16 (th : Int), .int .i64 (bs : Int), .int .i64 0, .int .u32 (xe : Int), .int .u32 (xn : Int), .slice A' n c'], .bool (!rp)]) ?_ rfl (TalkPost.of HN.out (T8.out.ml _) (T8.out.done _))
    exact results_talk2 rfl rfl rfl (HYE.out.row _) rfl
namespace Ng
theorem hello_byte {s : Nat} (hs : s < 65536) (rp : Bool) : ∀ x ∈ hello s rp, x < 256 := by
  unfold hello
  intro x hx
  simp only [List.mem_cons, List.not_mem_nil, or_false] at hx
  rcases hx with rfl | rfl | rfl
  · split <;> omega
  · omega
  · omega
theorem hello_length (s : Nat) (rp : Bool) : (hello s rp).length = 3 := rfl
theorem hello_fix {s : Nat} (hs : s < 65536) (rp : Bool) : ([] ++ Bm.fixI (if rp = true then 2 else 1) 1) ++ Bm.fixI s 2 = hello s rp := by
  rw [show (1 : Int) = ((1 : Nat) : Int) from rfl, Bm.fixI_good (by omega) (by omega), show (2 : Int) = ((2 : Nat) : Int) from rfl, Bm.fixI_good (by omega) (by omega)]
  unfold hello
  simp only [Bm.fix, List.nil_append, List.cons_append]
  rw [show s / 256 % 256 = s / 256 by omega]
  cases rp <;> simp
theorem rfix_lt {l : List Nat} (hb : ∀ x ∈ l, x < 256) (e : Int) : (Bm.rfix l e 2).1 < 65536 := by
  unfold Bm.rfix
  split
  · show (0 : Nat) < 65536; omega
  · split
    · show (0 : Nat) < 65536; omega
    · split
      · show (0 : Nat) < 65536; omega
      · have := Bm.be_take l hb 2 (by omega)
        simpa using this
theorem read_by {l : List Nat} (hb : ∀ x ∈ l, x < 256) {v1 v2 : Nat} {l1 l2 : List Nat} {e1 e2 : Int} (h1 : Bm.rfix l 0 1 = (v1, l1, e1)) (h2 : Bm.rfix l1 e1 2 = (v2, l2, e2)) :
    v2 < 65536 ∧ read l = if hello v2 (decide (v1 = 2)) = l then (v2, decide (v1 = 2), 0) else (0, false, 3) := by
  have hl1 : ∀ x ∈ l1, x < 256 := by
    have e : l1 = (Bm.rfix l 0 1).2.1 := by rw [h1]
    rw [e]
    unfold Bm.rfix
    simp only [ne_eq, not_true_eq_false, if_false]
    split
    · exact hb
    · split
      · exact hb
      · exact fun x hx => hb x (List.mem_of_mem_drop hx)
  have hv2 : v2 < 65536 := by
    have := rfix_lt hl1 e1
    rw [h2] at this
    exact this
  refine ⟨hv2, ?_⟩
  by_cases h3 : l.length = 3
  · match l, h3 with
    | [x, y, z], _ =>
    have hx : x < 256 := hb x (by simp)
    have hy : y < 256 := hb y (by simp)
    have hz : z < 256 := hb z (by simp)
    have r1 : Bm.rfix [x, y, z] 0 1 = (x, [y, z], 0) := by simp [Bm.rfix, Bm.be]
    rw [r1] at h1
    injection h1 with e1 h1
    injection h1 with e2 e3
    subst e1 e2 e3
    have r2 : Bm.rfix [y, z] 0 2 = (y * 256 + z, [], 0) := by simp [Bm.rfix, Bm.be]
    rw [r2] at h2
    injection h2 with e1 h2
    subst e1
    have hr : read [x, y, z] = if 1 ≤ x ∧ x ≤ 2 then (y * 256 + z, decide (x = 2), 0) else (0, false, 3) := by unfold read; simp
    have hh : hello (y * 256 + z) (decide (x = 2)) = [if x = 2 then 2 else 1, y, z] := by
      unfold hello
      rw [show (y * 256 + z) / 256 = y by omega, show (y * 256 + z) % 256 = z by omega]
      simp
    rw [hr, hh]
    by_cases hx2 : x = 2
    · subst hx2; simp
    · by_cases hx1 : x = 1
      · subst hx1; simp
      · rw [if_neg (by omega), if_neg (by simp [hx2]; omega)]
  · have hr : read l = (0, false, 3) := by unfold read; rw [if_neg (by omega)]
    rw [hr, if_neg (fun e => h3 (by rw [← e]; rfl))]
end Ng
set_option maxHeartbeats 1000000 in
theorem chello25_any {w : World} {s : Nat} (hs : s < 65536) (rp : Bool) :
    Calls Try.prog 18 #[.int .u16 (s : Int), .bool rp] w (Made .u8 5 w.heap.size (Ng.hello s rp) w) := by
  have HF := Lib.hid (Ng.hello_fix hs rp)
  have C1 := Lib.hid (fun (m : Nat) (hm : m < 18446744073709551616) => fix_any w.heap.size (.slice none 0 0) [] m 1 w hm (by omega) (by omega) (World.ownsRow_nil _ _ _ _) (Nat.le_refl _) (by simp))
  have C2 := Lib.hid (fun (v : Value) (xs : List Nat) (W : World) (ho : W.ownsRow w.heap.size 5 1 v xs.length (ints .u8 xs)) (hb : w.heap.size ≤ W.heap.size) (hx : xs.length ≤ 1000000000000) => fix_any w.heap.size v xs s 2 W (by omega) (by omega) (by omega) ho hb hx)
  have hcv : IntKind.u64.wrap (s : Int) = (s : Int) := by show (s : Int) % 18446744073709551616 = _; omega
  obtain ⟨R, hR⟩ : ∃ R, Hid (Ng.hello s rp = R) := ⟨_, Lib.hid rfl⟩
  rw [hR.out] at HF ⊢
  cases rp
  all_goals
    go_enter Try.func18, Try.ntmps18
    go_wp2_with fail
  · refine (C1.out 1 (by omega)).mono ?_
    rintro e w1 ⟨v1, rfl, ho1, hb1⟩
    have HO1 := Lib.hid ho1
    have HB1 := Lib.hid hb1
    obtain ⟨A1, c1, rfl⟩ := own_shape ho1
    clear ho1 hb1
    go_wp2_with fail
    refine (C2.out _ _ w1 HO1.out HB1.out.size (by have := Bm.fixI_le 1 1; simp only [List.nil_append]; omega)).mono ?_
    rintro e w2 ⟨v2, rfl, ho2, hb2⟩
    have hf := HF.out
    simp only [Bool.false_eq_true, if_false] at hf
    rw [hf] at ho2
    clear hf
    have HO2 := Lib.hid ho2
    have HB2 := Lib.hid (HB1.out.trans hb2)
    obtain ⟨A2, c2, rfl⟩ := own_shape ho2
    clear ho2 hb2
    go_wp2_with fail
    go_ret
    exact ⟨_, rfl, HO2.out, HB2.out⟩
  · refine (C1.out 2 (by omega)).mono ?_
    rintro e w1 ⟨v1, rfl, ho1, hb1⟩
    have HO1 := Lib.hid ho1
    have HB1 := Lib.hid hb1
    obtain ⟨A1, c1, rfl⟩ := own_shape ho1
    clear ho1 hb1
    go_wp2_with fail
    refine (C2.out _ _ w1 HO1.out HB1.out.size (by have := Bm.fixI_le 2 1; simp only [List.nil_append]; omega)).mono ?_
    rintro e w2 ⟨v2, rfl, ho2, hb2⟩
    have hf := HF.out
    simp only [if_true] at hf
    rw [hf] at ho2
    clear hf
    have HO2 := Lib.hid ho2
    have HB2 := Lib.hid (HB1.out.trans hb2)
    obtain ⟨A2, c2, rfl⟩ := own_shape ho2
    clear ho2 hb2
    go_wp2_with fail
    go_ret
    exact ⟨_, rfl, HO2.out, HB2.out⟩
set_option maxHeartbeats 1000000 in
theorem cnread25_any {w : World} {B : Nat} {v : Value} {l : List Nat} (h : Piece w B v l) (hB : B ≤ w.heap.size) (hb : ∀ x ∈ l, x < 256) (hl : l.length ≤ 1000000000) :
    Calls Try.prog 16 #[v] w fun e w' => e = .returned (.tuple #[.int .u16 (((Ng.read l).1 : Nat) : Int), .bool (Ng.read l).2.1, .int .i64 (((Ng.read l).2.2 : Nat) : Int)]) ∧ Below w.heap.size w w' := by
  have CO := Lib.hid (open_any h (by omega) hb)
  have HP := Lib.hid (fun W (hW : Below w.heap.size w W) => h.below (hW.mono hB))
  obtain ⟨A, c, rfl, _⟩ := h
  have HRB : Hid (∀ (v1 v2 : Nat) (l1 l2 : List Nat) (e1 e2 : Int), Bm.rfix l 0 1 = (v1, l1, e1) → Bm.rfix l1 e1 2 = (v2, l2, e2) → v2 < 65536 ∧ Ng.read l = if Ng.hello v2 (decide (v1 = 2)) = l then (v2, decide (v1 = 2), 0) else (0, false, 3)) := Lib.hid (fun _ _ _ _ _ _ h1 h2 => Ng.read_by hb h1 h2)
  have HBy := Lib.hid hb
  obtain ⟨R, hR⟩ : ∃ R, Hid (Ng.read l = R) := ⟨_, Lib.hid rfl⟩
  rw [hR.out] at HRB ⊢
  obtain ⟨n, hn⟩ : ∃ n, Hid (l.length = n) := ⟨_, Lib.hid rfl⟩
  rw [hn.out] at CO HP ⊢
  clear hb
  go_enter Try.func16, Try.ntmps16
  go_wp2_with fail
  refine (CO.out).mono ?_
  rintro e w1 ⟨rd, rfl, hrd, hRd, hb1⟩
  have HB1 := Lib.hid hb1
  have C1 := Lib.hid (rfix_any (1 : Int) (by omega) (by omega) hRd)
  obtain ⟨⟨v1, l1, e1⟩, hf1⟩ : ∃ t, Bm.rfix l 0 1 = t := ⟨_, rfl⟩
  rw [hf1] at C1
  have HF1 := Lib.hid hf1
  have Hrd := Lib.hid hrd
  obtain ⟨q, hq⟩ : ∃ q, Hid (decide (v1 = 2) = q) := ⟨_, Lib.hid rfl⟩
  have hq2 : ((v1 : Int) == 2) = q := by
    rw [← hq.out]
    by_cases e : v1 = 2
    · subst e; rfl
    · rw [decide_eq_false e, beq_eq_false_iff_ne]; omega
  clear hRd hb1 hrd hf1
  go_wp2_with fail
  refine (C1.out).mono ?_
  rintro e w2 ⟨rfl, hRd2, hon2⟩
  have HB2 := Lib.hid (HB1.out.trans (hon2.below Hrd.out HB1.out.size))
  have C2 := Lib.hid (rfix_any (2 : Int) (by omega) (by omega) hRd2)
  obtain ⟨⟨v2, l2, e2⟩, hf2⟩ : ∃ t, Bm.rfix l1 e1 2 = t := ⟨_, rfl⟩
  simp only [hf2] at C2
  obtain ⟨hv2, hRR⟩ := HRB.out _ _ _ _ _ _ HF1.out hf2
  rw [hq.out] at hRR
  have HRR := Lib.hid hRR
  have hcv : IntKind.u16.wrap (v2 : Int) = (v2 : Int) := by show (v2 : Int) % 65536 = _; omega
  have Hv2 := Lib.hid hv2
  clear hRd2 hon2 hf2 hRR hv2
  go_wp2_with fail
  refine (C2.out).mono ?_
  rintro e w3 ⟨rfl, hRd3, hon3⟩
  have HB3 := Lib.hid (HB2.out.trans (hon3.below Hrd.out HB2.out.size))
  clear hRd3 hon3
  go_wp2_with fail
  refine (chello25_any Hv2.out q).mono ?_
  rintro e w4 ⟨v4, rfl, ho4, hb4⟩
  have HB4 := Lib.hid (HB3.out.trans (hb4.mono HB3.out.size))
  have HP4 := Lib.hid (own_piece ho4)
  obtain ⟨A4, c4, rfl⟩ := own_shape ho4
  have CE := Lib.hid (bequal_any HP4.out (HP.out _ HB4.out) (Ng.hello_byte Hv2.out q) HBy.out)
  obtain ⟨b, hbb⟩ : ∃ b, Hid (decide (Ng.hello v2 q = l) = b) := ⟨_, Lib.hid rfl⟩
  rw [hbb.out] at CE
  obtain ⟨m, hm⟩ : ∃ m, Hid ((Ng.hello v2 q).length = m) := ⟨_, Lib.hid rfl⟩
  rw [hm.out] at CE ⊢
  clear ho4 hb4
  go_wp2_with fail
  refine (CE.out).mono ?_
  rintro e w5 ⟨rfl, rfl⟩
  cases b
  · have HRE : Hid (R = (0, false, 3)) := Lib.hid (by rw [HRR.out, if_neg (of_decide_eq_false hbb.out)])
    go_wp2_with fail
    go_ret3
    exact ⟨by rw [HRE.out]; rfl, HB4.out⟩
  · have HRE : Hid (R = (v2, q, 0)) := Lib.hid (by rw [HRR.out, if_pos (of_decide_eq_true hbb.out)])
    go_wp2_with fail
    go_ret3
    exact ⟨by rw [HRE.out]; rfl, HB4.out⟩
/-- a talk that is stored in a new variable -/
theorem var_tk (w : World) (cs : Array Value) : ∃ g p q, w.heap.size = g ∧ w.alloc (.cells #[.int .u16 0, .int .i64 0, .int .u16 0, .int .i64 0, .int .i64 0, .int .u32 0, .int .u32 0, .slice none 0 0] 26) = p ∧ Whole p g 26 #[.int .u16 0, .int .i64 0, .int .u16 0, .int .i64 0, .int .i64 0, .int .u32 0, .int .u32 0, .slice none 0 0] ∧ p.setRow g cs = q ∧ Whole q g 26 cs ∧ Below w.heap.size w q ∧ g < q.heap.size := by
  obtain ⟨g, p, hg, hal, hs, hx, hb⟩ := boxedT25 w #[.int .u16 0, .int .i64 0, .int .u16 0, .int .i64 0, .int .i64 0, .int .u32 0, .int .u32 0, .slice none 0 0]
  exact ⟨g, p, _, hg, hal, hx, rfl, hx.row cs, below_row hb (by omega) _, by rw [size_setRow]; omega⟩
end Go.Proofs.Ytjomchehnlnfcaa
