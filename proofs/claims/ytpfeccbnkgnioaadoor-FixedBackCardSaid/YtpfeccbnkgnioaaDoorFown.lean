/- Contracts of fixed.putOwn and fixed.Enc. -/
import Derived.Test.YtpfeccbnkgnioaaDoorFputs
import Derived.Test.YtpfeccbnkgnioaaDoorRight8
namespace Go.Proofs.YtpfeccbnkgnioaaDoor
open Go.RowKit
set_option linter.unusedVariables false
set_option maxRecDepth 100000
set_option linter.unusedSimpArgs false
open Gm

/-- a boxed message whose slices lie below base -/
structure Boxk (w : World) (base b : Nat) (m : Ms) (vp vq : Value) : Prop where
  bx : Bx w b m vp vq
  peers : Sl fPeer w base vp m.peers
  pairs : Sl fPair w base vq m.pairs
section
variable {w w' w0 : World} {base b : Nat} {m : Ms} {vp vq v v' v0 : Value} {xs ys : List Nat} {e : Ending}
theorem Boxk.kept (h : Boxk w base b m vp vq) (k : Kept w w' v v') (hr : ∀ k, v.ownBlock = some k → base ≤ k) (hne : v.ownBlock ≠ some b) (hb : base ≤ w.heap.size) : Boxk w' base b m vp vq :=
  ⟨Whole.kept h.bx k hne, h.peers.below (k.below hr hb), h.pairs.below (k.below hr hb)⟩
theorem boxedk (H : Mv w base m v) (hb : base ≤ w.heap.size) : ∃ b vp vq w0, v = .agg #[.int .i64 m.kind, .int .u32 (m.rid : Int), .int .u8 (m.code : Int), .bool m.has, .int .u64 (m.id : Int), .string m.key, .string m.val, .int .u64 (m.pid : Int), .int .u16 (m.pad : Int), vp, vq] ∧ w.heap.size = b ∧ w.alloc (.cells #[.int .i64 m.kind, .int .u32 (m.rid : Int), .int .u8 (m.code : Int), .bool m.has, .int .u64 (m.id : Int), .string m.key, .string m.val, .int .u64 (m.pid : Int), .int .u16 (m.pad : Int), vp, vq] 30) = w0 ∧ w0.heap.size = b + 1 ∧ Boxk w0 base b m vp vq ∧ Below b w w0 := by
  obtain ⟨vp, vq, rfl, hp, hq⟩ := H.ex
  have B0 : Below w.heap.size w (w.alloc (.cells #[.int .i64 m.kind, .int .u32 (m.rid : Int), .int .u8 (m.code : Int), .bool m.has, .int .u64 (m.id : Int), .string m.key, .string m.val, .int .u64 (m.pid : Int), .int .u16 (m.pad : Int), vp, vq] 30)) := (Below.refl _ _).alloc (Nat.le_refl _) _
  exact ⟨_, vp, vq, _, rfl, rfl, rfl, by simp, ⟨Whole.made _ _ _, hp.below (B0.mono hb), hq.below (B0.mono hb)⟩, B0⟩
/-- a row of the call's own, beside a boxed message -/
structure On (base b : Nat) (m : Ms) (vp vq : Value) (w0 : World) (v0 : Value) (xs : List Nat) (v : Value) (w : World) : Prop where
  own : w.ownsRow base 5 1 v xs.length (ints .u8 xs)
  box : Boxk w base b m vp vq
  kept : Kept w0 w v0 v
  ne : v.ownBlock ≠ some b
  size : base ≤ w.heap.size
theorem On.next (h : On base b m vp vq w0 v0 xs v w) (hm : MadeK base ys v w e w') : ∃ v', e = .returned v' ∧ On base b m vp vq w0 v0 ys v' w' := by
  obtain ⟨v', rfl, ho, hk⟩ := hm
  exact ⟨v', rfl, ho, h.box.kept hk (own_lt h.own) h.ne h.size, h.kept.trans hk, hk.apart (Whole.lt h.box.bx) h.ne, Nat.le_trans h.size hk.size⟩
theorem On.next' (h : On base b m vp vq w0 v0 xs v w) {F : Nat} {args : Array Value} (c : Calls Tryd.prog F args w (MadeK base ys v w)) : Calls Tryd.prog F args w fun e w' => ∃ v', e = .returned v' ∧ On base b m vp vq w0 v0 ys v' w' :=
  c.mono fun e w' hm => h.next hm
variable (h : On base b m vp vq w0 v0 xs v w)
include h
theorem On.fix (n : Nat) (k : Nat) (s : Int) (hs : s = (k : Int)) (h1 : 1 ≤ k) (h8 : k ≤ 8) (hn : n < 18446744073709551616) (hx : xs.length ≤ 10000000000) : Calls Tryd.prog 14 #[v, .int .u64 (n : Int), .int .i64 s] w fun e w' => ∃ v', e = .returned v' ∧ On base b m vp vq w0 v0 (xs ++ Bm.fix k n) v' w' := by
  subst hs
  have c := fixk_any base v xs n (k : Int) w hn (by omega) (by omega) h.own h.size (by omega)
  rw [Bm.fixI_good h1 h8] at c
  exact h.next' c
theorem On.has (hx : xs.length ≤ 10000000000) : Calls Tryd.prog 41 #[v, .bool m.has] w fun e w' => ∃ v', e = .returned v' ∧ On base b m vp vq w0 v0 (xs ++ Fm.hasB m.has) v' w' :=
  h.next' (puthas_any base v xs m.has w h.own h.size (by omega))
theorem On.peer (ok : Ok m) (hx : xs.length ≤ 10000000000) : Calls Tryd.prog 43 #[v, .agg #[.int .u64 (m.pid : Int), .int .u16 (m.pad : Int)]] w fun e w' => ∃ v', e = .returned v' ∧ On base b m vp vq w0 v0 (xs ++ Fm.peerB (m.pid, m.pad)) v' w' :=
  h.next' (putpeer_any base v xs m.pid m.pad w ok.pid ok.pad h.own h.size (by omega))
theorem On.peersC (ok : Ok m) (hl : m.peers.length ≤ 1000000) (hx : xs.length ≤ 10000000000) : Calls Tryd.prog 42 #[v, vp] w fun e w' => ∃ v', e = .returned v' ∧ On base b m vp vq w0 v0 (xs ++ Fm.peersB m.peers) v' w' :=
  h.next' (putpeers_any base v vp xs m.peers w ok.peers (by omega) h.box.peers h.own h.size (by omega))
theorem On.pairsC (ok : ∀ p ∈ m.pairs, p.1.size ≤ 1000 ∧ p.2.size ≤ 1000) (hl : m.pairs.length ≤ 1000000) (hx : xs.length ≤ 10000000000) : Calls Tryd.prog 46 #[v, vq] w fun e w' => ∃ v', e = .returned v' ∧ On base b m vp vq w0 v0 (xs ++ Fm.pairsB m.pairs) v' w' :=
  h.next' (putpairs_any base v vq xs m.pairs w ok (by omega) h.box.pairs h.own h.size (by omega))
theorem On.key (hs : m.key.size ≤ 1000) (hx : xs.length ≤ 10000000000) : Calls Tryd.prog 44 #[v, .string m.key] w fun e w' => ∃ v', e = .returned v' ∧ On base b m vp vq w0 v0 (xs ++ Fm.strB 1 m.key) v' w' :=
  h.next' (putkey_any base v xs m.key w (by omega) h.own h.size (by omega))
theorem On.val (hs : m.val.size ≤ 1000) (hx : xs.length ≤ 10000000000) : Calls Tryd.prog 45 #[v, .string m.val] w fun e w' => ∃ v', e = .returned v' ∧ On base b m vp vq w0 v0 (xs ++ Fm.strB 2 m.val) v' w' :=
  h.next' (putval_any base v xs m.val w (by omega) h.own h.size (by omega))
end
/-- what may be is small -/
structure Few (m : Ms) : Prop where
  ok : Ok m
  key : m.key.size ≤ 1000
  val : m.val.size ≤ 1000
  peers : m.peers.length ≤ 16
  pairs : m.pairs.length ≤ 8
  pair : ∀ p ∈ m.pairs, p.1.size ≤ 1000 ∧ p.2.size ≤ 1000


theorem ownB_1 {m : Ms} (hk : m.kind = 1) : Fm.ownB m = Bm.fix 8 m.id := by unfold Fm.ownB; rw [hk]; rfl
theorem putown_1 {w : World} {base : Nat} {m : Ms} {v vm : Value} {xs : List Nat} (H : Mv w base m vm) (HF : Few m) (ho : w.ownsRow base 5 1 v xs.length (ints .u8 xs)) (hb : base ≤ w.heap.size) (hx : xs.length ≤ 1000000000) (hk : m.kind = 1) :
    Calls Tryd.prog 15 #[v, vm] w (MadeK base (xs ++ Fm.ownB m) v w) := by
  obtain ⟨b, vp, vq, w0, rfl, hsb, hal, hsz, hx0, hb0⟩ := boxedk H hb
  have hob : w0.ownsRow base 5 1 v xs.length (ints .u8 xs) := own_below ho (by rw [hsb]; exact hb0)
  have hne : v.ownBlock ≠ some b := by rw [← hsb]; exact own_new ho
  have HN : Hid (On base b m vp vq w v xs v w0) := Lib.hid ⟨hob, hx0, Kept.of_below (by rw [hsb]; exact hb0) _, hne, by omega⟩
  obtain ⟨c0, c1, c2, c3, c4, c5, c6, c7, c8, c9, c10⟩ := Bx.cells hx0.bx
  rw [hk] at c0
  have E := ownB_1 hk
  rw [E]
  have hid := HF.ok.id
  clear H ho hob hx0 hb0 hne E hk
  clear c1 c2 c3 c5 c6 c7 c8 c9 c10
  go_enter Tryd.func15, Tryd.ntmps15
  go_wp2_with fail
  refine (HN.out.fix m.id 8 8 rfl (by omega) (by omega) (by omega) (by omega)).mono ?_
  rintro e w1 ⟨v1, rfl, h1⟩
  have HN1 := Lib.hid h1
  clear h1
  go_wp2_with fail
  go_ret
  exact ⟨_, rfl, HN1.out.own, HN1.out.kept⟩

theorem ownB_2 {m : Ms} (hk : m.kind = 2) : Fm.ownB m = Fm.hasB m.has ++ Fm.peersB m.peers := by unfold Fm.ownB; rw [hk]; rfl
theorem putown_2 {w : World} {base : Nat} {m : Ms} {v vm : Value} {xs : List Nat} (H : Mv w base m vm) (HF : Few m) (ho : w.ownsRow base 5 1 v xs.length (ints .u8 xs)) (hb : base ≤ w.heap.size) (hx : xs.length ≤ 1000000000) (hk : m.kind = 2) :
    Calls Tryd.prog 15 #[v, vm] w (MadeK base (xs ++ Fm.ownB m) v w) := by
  obtain ⟨b, vp, vq, w0, rfl, hsb, hal, hsz, hx0, hb0⟩ := boxedk H hb
  have hob : w0.ownsRow base 5 1 v xs.length (ints .u8 xs) := own_below ho (by rw [hsb]; exact hb0)
  have hne : v.ownBlock ≠ some b := by rw [← hsb]; exact own_new ho
  have HN : Hid (On base b m vp vq w v xs v w0) := Lib.hid ⟨hob, hx0, Kept.of_below (by rw [hsb]; exact hb0) _, hne, by omega⟩
  obtain ⟨c0, c1, c2, c3, c4, c5, c6, c7, c8, c9, c10⟩ := Bx.cells hx0.bx
  rw [hk] at c0
  have E := ownB_2 hk
  rw [E]
  clear H ho hob hx0 hb0 hne E hk
  clear c1 c2 c4 c5 c6 c7 c8 c10
  go_enter Tryd.func15, Tryd.ntmps15
  go_wp2_with fail
  refine (HN.out.has (by omega)).mono ?_
  rintro e w1 ⟨v1, rfl, h1⟩
  have HN1 := Lib.hid h1
  clear h1
  obtain ⟨d0_0, d0_1, d0_2, d0_3, d0_4, d0_5, d0_6, d0_7, d0_8, d0_9, d0_10⟩ := Bx.cells HN1.out.box.bx
  clear d0_0 d0_1 d0_2 d0_3 d0_4 d0_5 d0_6 d0_7 d0_8 d0_10
  go_wp2_with fail
  refine (HN1.out.peersC HF.ok (by have := HF.peers; omega) (by simp only [List.length_append, Fm.hasB, List.length_cons, List.length_nil, peerB_length, strB_length]; have := HF.key; omega)).mono ?_
  rintro e w2 ⟨v2, rfl, h2⟩
  have HN2 := Lib.hid h2
  clear h2
  go_wp2_with fail
  go_ret
  have ha := HN2.out.own
  simp only [List.append_assoc] at ha
  exact ⟨_, rfl, ha, HN2.out.kept⟩

theorem ownB_5 {m : Ms} (hk : m.kind = 5) : Fm.ownB m = Fm.peerB (m.pid, m.pad) := by unfold Fm.ownB; rw [hk]; rfl
theorem putown_5 {w : World} {base : Nat} {m : Ms} {v vm : Value} {xs : List Nat} (H : Mv w base m vm) (HF : Few m) (ho : w.ownsRow base 5 1 v xs.length (ints .u8 xs)) (hb : base ≤ w.heap.size) (hx : xs.length ≤ 1000000000) (hk : m.kind = 5) :
    Calls Tryd.prog 15 #[v, vm] w (MadeK base (xs ++ Fm.ownB m) v w) := by
  obtain ⟨b, vp, vq, w0, rfl, hsb, hal, hsz, hx0, hb0⟩ := boxedk H hb
  have hob : w0.ownsRow base 5 1 v xs.length (ints .u8 xs) := own_below ho (by rw [hsb]; exact hb0)
  have hne : v.ownBlock ≠ some b := by rw [← hsb]; exact own_new ho
  have HN : Hid (On base b m vp vq w v xs v w0) := Lib.hid ⟨hob, hx0, Kept.of_below (by rw [hsb]; exact hb0) _, hne, by omega⟩
  obtain ⟨c0, c1, c2, c3, c4, c5, c6, c7, c8, c9, c10⟩ := Bx.cells hx0.bx
  rw [hk] at c0
  have E := ownB_5 hk
  rw [E]
  clear H ho hob hx0 hb0 hne E hk
  clear c1 c2 c3 c4 c5 c6 c9 c10
  go_enter Tryd.func15, Tryd.ntmps15
  go_wp2_with fail
  refine (HN.out.peer HF.ok (by omega)).mono ?_
  rintro e w1 ⟨v1, rfl, h1⟩
  have HN1 := Lib.hid h1
  clear h1
  go_wp2_with fail
  go_ret
  exact ⟨_, rfl, HN1.out.own, HN1.out.kept⟩

theorem ownB_7 {m : Ms} (hk : m.kind = 7) : Fm.ownB m = Fm.strB 1 m.key ++ Fm.strB 2 m.val := by unfold Fm.ownB; rw [hk]; rfl
theorem putown_7 {w : World} {base : Nat} {m : Ms} {v vm : Value} {xs : List Nat} (H : Mv w base m vm) (HF : Few m) (ho : w.ownsRow base 5 1 v xs.length (ints .u8 xs)) (hb : base ≤ w.heap.size) (hx : xs.length ≤ 1000000000) (hk : m.kind = 7) :
    Calls Tryd.prog 15 #[v, vm] w (MadeK base (xs ++ Fm.ownB m) v w) := by
  obtain ⟨b, vp, vq, w0, rfl, hsb, hal, hsz, hx0, hb0⟩ := boxedk H hb
  have hob : w0.ownsRow base 5 1 v xs.length (ints .u8 xs) := own_below ho (by rw [hsb]; exact hb0)
  have hne : v.ownBlock ≠ some b := by rw [← hsb]; exact own_new ho
  have HN : Hid (On base b m vp vq w v xs v w0) := Lib.hid ⟨hob, hx0, Kept.of_below (by rw [hsb]; exact hb0) _, hne, by omega⟩
  obtain ⟨c0, c1, c2, c3, c4, c5, c6, c7, c8, c9, c10⟩ := Bx.cells hx0.bx
  rw [hk] at c0
  have E := ownB_7 hk
  rw [E]
  clear H ho hob hx0 hb0 hne E hk
  clear c1 c2 c3 c4 c7 c8 c9 c10
  go_enter Tryd.func15, Tryd.ntmps15
  go_wp2_with fail
  refine (HN.out.key HF.key (by omega)).mono ?_
  rintro e w1 ⟨v1, rfl, h1⟩
  have HN1 := Lib.hid h1
  clear h1
  obtain ⟨d0_0, d0_1, d0_2, d0_3, d0_4, d0_5, d0_6, d0_7, d0_8, d0_9, d0_10⟩ := Bx.cells HN1.out.box.bx
  clear d0_0 d0_1 d0_2 d0_3 d0_4 d0_5 d0_7 d0_8 d0_9 d0_10
  go_wp2_with fail
  refine (HN1.out.val HF.val (by simp only [List.length_append, Fm.hasB, List.length_cons, List.length_nil, peerB_length, strB_length]; have := HF.key; omega)).mono ?_
  rintro e w2 ⟨v2, rfl, h2⟩
  have HN2 := Lib.hid h2
  clear h2
  go_wp2_with fail
  go_ret
  have ha := HN2.out.own
  simp only [List.append_assoc] at ha
  exact ⟨_, rfl, ha, HN2.out.kept⟩

theorem ownB_8 {m : Ms} (hk : m.kind = 8) : Fm.ownB m = Fm.strB 1 m.key := by unfold Fm.ownB; rw [hk]; rfl
theorem putown_8 {w : World} {base : Nat} {m : Ms} {v vm : Value} {xs : List Nat} (H : Mv w base m vm) (HF : Few m) (ho : w.ownsRow base 5 1 v xs.length (ints .u8 xs)) (hb : base ≤ w.heap.size) (hx : xs.length ≤ 1000000000) (hk : m.kind = 8) :
    Calls Tryd.prog 15 #[v, vm] w (MadeK base (xs ++ Fm.ownB m) v w) := by
  obtain ⟨b, vp, vq, w0, rfl, hsb, hal, hsz, hx0, hb0⟩ := boxedk H hb
  have hob : w0.ownsRow base 5 1 v xs.length (ints .u8 xs) := own_below ho (by rw [hsb]; exact hb0)
  have hne : v.ownBlock ≠ some b := by rw [← hsb]; exact own_new ho
  have HN : Hid (On base b m vp vq w v xs v w0) := Lib.hid ⟨hob, hx0, Kept.of_below (by rw [hsb]; exact hb0) _, hne, by omega⟩
  obtain ⟨c0, c1, c2, c3, c4, c5, c6, c7, c8, c9, c10⟩ := Bx.cells hx0.bx
  rw [hk] at c0
  have E := ownB_8 hk
  rw [E]
  clear H ho hob hx0 hb0 hne E hk
  clear c1 c2 c3 c4 c6 c7 c8 c9 c10
  go_enter Tryd.func15, Tryd.ntmps15
  go_wp2_with fail
  refine (HN.out.key HF.key (by omega)).mono ?_
  rintro e w1 ⟨v1, rfl, h1⟩
  have HN1 := Lib.hid h1
  clear h1
  go_wp2_with fail
  go_ret
  exact ⟨_, rfl, HN1.out.own, HN1.out.kept⟩

theorem ownB_10 {m : Ms} (hk : m.kind = 10) : Fm.ownB m = Fm.hasB m.has ++ Fm.pairsB m.pairs := by unfold Fm.ownB; rw [hk]; rfl
theorem putown_10 {w : World} {base : Nat} {m : Ms} {v vm : Value} {xs : List Nat} (H : Mv w base m vm) (HF : Few m) (ho : w.ownsRow base 5 1 v xs.length (ints .u8 xs)) (hb : base ≤ w.heap.size) (hx : xs.length ≤ 1000000000) (hk : m.kind = 10) :
    Calls Tryd.prog 15 #[v, vm] w (MadeK base (xs ++ Fm.ownB m) v w) := by
  obtain ⟨b, vp, vq, w0, rfl, hsb, hal, hsz, hx0, hb0⟩ := boxedk H hb
  have hob : w0.ownsRow base 5 1 v xs.length (ints .u8 xs) := own_below ho (by rw [hsb]; exact hb0)
  have hne : v.ownBlock ≠ some b := by rw [← hsb]; exact own_new ho
  have HN : Hid (On base b m vp vq w v xs v w0) := Lib.hid ⟨hob, hx0, Kept.of_below (by rw [hsb]; exact hb0) _, hne, by omega⟩
  obtain ⟨c0, c1, c2, c3, c4, c5, c6, c7, c8, c9, c10⟩ := Bx.cells hx0.bx
  rw [hk] at c0
  have E := ownB_10 hk
  rw [E]
  clear H ho hob hx0 hb0 hne E hk
  clear c1 c2 c4 c5 c6 c7 c8 c9
  go_enter Tryd.func15, Tryd.ntmps15
  go_wp2_with fail
  refine (HN.out.has (by omega)).mono ?_
  rintro e w1 ⟨v1, rfl, h1⟩
  have HN1 := Lib.hid h1
  clear h1
  obtain ⟨d0_0, d0_1, d0_2, d0_3, d0_4, d0_5, d0_6, d0_7, d0_8, d0_9, d0_10⟩ := Bx.cells HN1.out.box.bx
  clear d0_0 d0_1 d0_2 d0_3 d0_4 d0_5 d0_6 d0_7 d0_8 d0_9
  go_wp2_with fail
  refine (HN1.out.pairsC HF.pair (by have := HF.pairs; omega) (by simp only [List.length_append, Fm.hasB, List.length_cons, List.length_nil, peerB_length, strB_length]; have := HF.key; omega)).mono ?_
  rintro e w2 ⟨v2, rfl, h2⟩
  have HN2 := Lib.hid h2
  clear h2
  go_wp2_with fail
  go_ret
  have ha := HN2.out.own
  simp only [List.append_assoc] at ha
  exact ⟨_, rfl, ha, HN2.out.kept⟩

theorem ownB_12 {m : Ms} (hk : m.kind = 12) : Fm.ownB m = Bm.fix 1 m.code := by unfold Fm.ownB; rw [hk]; rfl
theorem putown_12 {w : World} {base : Nat} {m : Ms} {v vm : Value} {xs : List Nat} (H : Mv w base m vm) (HF : Few m) (ho : w.ownsRow base 5 1 v xs.length (ints .u8 xs)) (hb : base ≤ w.heap.size) (hx : xs.length ≤ 1000000000) (hk : m.kind = 12) :
    Calls Tryd.prog 15 #[v, vm] w (MadeK base (xs ++ Fm.ownB m) v w) := by
  obtain ⟨b, vp, vq, w0, rfl, hsb, hal, hsz, hx0, hb0⟩ := boxedk H hb
  have hob : w0.ownsRow base 5 1 v xs.length (ints .u8 xs) := own_below ho (by rw [hsb]; exact hb0)
  have hne : v.ownBlock ≠ some b := by rw [← hsb]; exact own_new ho
  have HN : Hid (On base b m vp vq w v xs v w0) := Lib.hid ⟨hob, hx0, Kept.of_below (by rw [hsb]; exact hb0) _, hne, by omega⟩
  obtain ⟨c0, c1, c2, c3, c4, c5, c6, c7, c8, c9, c10⟩ := Bx.cells hx0.bx
  rw [hk] at c0
  have E := ownB_12 hk
  rw [E]
  have hcode := HF.ok.code
  clear H ho hob hx0 hb0 hne E hk
  clear c1 c3 c4 c5 c6 c7 c8 c9 c10
  go_enter Tryd.func15, Tryd.ntmps15
  go_wp2_with fail
  refine (HN.out.fix m.code 1 1 rfl (by omega) (by omega) (by omega) (by omega)).mono ?_
  rintro e w1 ⟨v1, rfl, h1⟩
  have HN1 := Lib.hid h1
  clear h1
  go_wp2_with fail
  go_ret
  exact ⟨_, rfl, HN1.out.own, HN1.out.kept⟩

theorem ownB_4t {m : Ms} (hk : m.kind = 4) (hh : m.has = true) : Fm.ownB m = Fm.hasB m.has ++ (Fm.peerB (m.pid, m.pad) ++ Fm.peersB m.peers) := by unfold Fm.ownB; rw [hk, hh]; rfl
theorem putown_4t {w : World} {base : Nat} {m : Ms} {v vm : Value} {xs : List Nat} (H : Mv w base m vm) (HF : Few m) (ho : w.ownsRow base 5 1 v xs.length (ints .u8 xs)) (hb : base ≤ w.heap.size) (hx : xs.length ≤ 1000000000) (hk : m.kind = 4) (hh : m.has = true) :
    Calls Tryd.prog 15 #[v, vm] w (MadeK base (xs ++ Fm.ownB m) v w) := by
  obtain ⟨b, vp, vq, w0, rfl, hsb, hal, hsz, hx0, hb0⟩ := boxedk H hb
  have hob : w0.ownsRow base 5 1 v xs.length (ints .u8 xs) := own_below ho (by rw [hsb]; exact hb0)
  have hne : v.ownBlock ≠ some b := by rw [← hsb]; exact own_new ho
  have HN : Hid (On base b m vp vq w v xs v w0) := Lib.hid ⟨hob, hx0, Kept.of_below (by rw [hsb]; exact hb0) _, hne, by omega⟩
  obtain ⟨c0, c1, c2, c3, c4, c5, c6, c7, c8, c9, c10⟩ := Bx.cells hx0.bx
  rw [hk] at c0
  have E := ownB_4t hk hh
  rw [E]
  rw [hh] at c3
  clear H ho hob hx0 hb0 hne E hk
  have HH := Lib.hid hh
  clear hh
  clear c1 c2 c4 c5 c6 c10
  go_enter Tryd.func15, Tryd.ntmps15
  go_wp2_with fail
  have C0 := Lib.hid (HN.out.has (by omega))
  rw [HH.out] at C0
  refine (C0.out).mono ?_
  clear C0
  rintro e w1 ⟨v1, rfl, h1⟩
  rw [← HH.out] at h1
  have HN1 := Lib.hid h1
  clear h1
  obtain ⟨d0_0, d0_1, d0_2, d0_3, d0_4, d0_5, d0_6, d0_7, d0_8, d0_9, d0_10⟩ := Bx.cells HN1.out.box.bx
  rw [HH.out] at d0_3
  clear d0_0 d0_1 d0_2 d0_4 d0_5 d0_6 d0_10
  go_wp2_with fail
  refine (HN1.out.peer HF.ok (by simp only [List.length_append, Fm.hasB, List.length_cons, List.length_nil, peerB_length, strB_length]; have := HF.key; omega)).mono ?_
  rintro e w2 ⟨v2, rfl, h2⟩
  have HN2 := Lib.hid h2
  clear h2
  obtain ⟨d1_0, d1_1, d1_2, d1_3, d1_4, d1_5, d1_6, d1_7, d1_8, d1_9, d1_10⟩ := Bx.cells HN2.out.box.bx
  clear d1_0 d1_1 d1_2 d1_3 d1_4 d1_5 d1_6 d1_7 d1_8 d1_10
  go_wp2_with fail
  refine (HN2.out.peersC HF.ok (by have := HF.peers; omega) (by simp only [List.length_append, Fm.hasB, List.length_cons, List.length_nil, peerB_length, strB_length]; have := HF.key; omega)).mono ?_
  rintro e w3 ⟨v3, rfl, h3⟩
  have HN3 := Lib.hid h3
  clear h3
  go_wp2_with fail
  go_ret
  have ha := HN3.out.own
  simp only [List.append_assoc] at ha
  exact ⟨_, rfl, ha, HN3.out.kept⟩

theorem ownB_4f {m : Ms} (hk : m.kind = 4) (hh : m.has = false) : Fm.ownB m = Fm.hasB m.has ++ Fm.peersB m.peers := by unfold Fm.ownB; rw [hk, hh]; rfl
theorem putown_4f {w : World} {base : Nat} {m : Ms} {v vm : Value} {xs : List Nat} (H : Mv w base m vm) (HF : Few m) (ho : w.ownsRow base 5 1 v xs.length (ints .u8 xs)) (hb : base ≤ w.heap.size) (hx : xs.length ≤ 1000000000) (hk : m.kind = 4) (hh : m.has = false) :
    Calls Tryd.prog 15 #[v, vm] w (MadeK base (xs ++ Fm.ownB m) v w) := by
  obtain ⟨b, vp, vq, w0, rfl, hsb, hal, hsz, hx0, hb0⟩ := boxedk H hb
  have hob : w0.ownsRow base 5 1 v xs.length (ints .u8 xs) := own_below ho (by rw [hsb]; exact hb0)
  have hne : v.ownBlock ≠ some b := by rw [← hsb]; exact own_new ho
  have HN : Hid (On base b m vp vq w v xs v w0) := Lib.hid ⟨hob, hx0, Kept.of_below (by rw [hsb]; exact hb0) _, hne, by omega⟩
  obtain ⟨c0, c1, c2, c3, c4, c5, c6, c7, c8, c9, c10⟩ := Bx.cells hx0.bx
  rw [hk] at c0
  have E := ownB_4f hk hh
  rw [E]
  rw [hh] at c3
  clear H ho hob hx0 hb0 hne E hk
  have HH := Lib.hid hh
  clear hh
  clear c1 c2 c4 c5 c6 c7 c8 c10
  go_enter Tryd.func15, Tryd.ntmps15
  go_wp2_with fail
  have C0 := Lib.hid (HN.out.has (by omega))
  rw [HH.out] at C0
  refine (C0.out).mono ?_
  clear C0
  rintro e w1 ⟨v1, rfl, h1⟩
  rw [← HH.out] at h1
  have HN1 := Lib.hid h1
  clear h1
  obtain ⟨d0_0, d0_1, d0_2, d0_3, d0_4, d0_5, d0_6, d0_7, d0_8, d0_9, d0_10⟩ := Bx.cells HN1.out.box.bx
  rw [HH.out] at d0_3
  clear d0_0 d0_1 d0_2 d0_4 d0_5 d0_6 d0_7 d0_8 d0_10
  go_wp2_with fail
  refine (HN1.out.peersC HF.ok (by have := HF.peers; omega) (by simp only [List.length_append, Fm.hasB, List.length_cons, List.length_nil, peerB_length, strB_length]; have := HF.key; omega)).mono ?_
  rintro e w2 ⟨v2, rfl, h2⟩
  have HN2 := Lib.hid h2
  clear h2
  go_wp2_with fail
  go_ret
  have ha := HN2.out.own
  simp only [List.append_assoc] at ha
  exact ⟨_, rfl, ha, HN2.out.kept⟩

theorem ownB_9t {m : Ms} (hk : m.kind = 9) (hh : m.has = true) : Fm.ownB m = Fm.hasB m.has ++ Fm.strB 2 m.val := by unfold Fm.ownB; rw [hk, hh]; rfl
theorem putown_9t {w : World} {base : Nat} {m : Ms} {v vm : Value} {xs : List Nat} (H : Mv w base m vm) (HF : Few m) (ho : w.ownsRow base 5 1 v xs.length (ints .u8 xs)) (hb : base ≤ w.heap.size) (hx : xs.length ≤ 1000000000) (hk : m.kind = 9) (hh : m.has = true) :
    Calls Tryd.prog 15 #[v, vm] w (MadeK base (xs ++ Fm.ownB m) v w) := by
  obtain ⟨b, vp, vq, w0, rfl, hsb, hal, hsz, hx0, hb0⟩ := boxedk H hb
  have hob : w0.ownsRow base 5 1 v xs.length (ints .u8 xs) := own_below ho (by rw [hsb]; exact hb0)
  have hne : v.ownBlock ≠ some b := by rw [← hsb]; exact own_new ho
  have HN : Hid (On base b m vp vq w v xs v w0) := Lib.hid ⟨hob, hx0, Kept.of_below (by rw [hsb]; exact hb0) _, hne, by omega⟩
  obtain ⟨c0, c1, c2, c3, c4, c5, c6, c7, c8, c9, c10⟩ := Bx.cells hx0.bx
  rw [hk] at c0
  have E := ownB_9t hk hh
  rw [E]
  rw [hh] at c3
  clear H ho hob hx0 hb0 hne E hk
  have HH := Lib.hid hh
  clear hh
  clear c1 c2 c4 c5 c7 c8 c9 c10
  go_enter Tryd.func15, Tryd.ntmps15
  go_wp2_with fail
  have C0 := Lib.hid (HN.out.has (by omega))
  rw [HH.out] at C0
  refine (C0.out).mono ?_
  clear C0
  rintro e w1 ⟨v1, rfl, h1⟩
  rw [← HH.out] at h1
  have HN1 := Lib.hid h1
  clear h1
  obtain ⟨d0_0, d0_1, d0_2, d0_3, d0_4, d0_5, d0_6, d0_7, d0_8, d0_9, d0_10⟩ := Bx.cells HN1.out.box.bx
  rw [HH.out] at d0_3
  clear d0_0 d0_1 d0_2 d0_4 d0_5 d0_7 d0_8 d0_9 d0_10
  go_wp2_with fail
  refine (HN1.out.val HF.val (by simp only [List.length_append, Fm.hasB, List.length_cons, List.length_nil, peerB_length, strB_length]; have := HF.key; omega)).mono ?_
  rintro e w2 ⟨v2, rfl, h2⟩
  have HN2 := Lib.hid h2
  clear h2
  go_wp2_with fail
  go_ret
  have ha := HN2.out.own
  simp only [List.append_assoc] at ha
  exact ⟨_, rfl, ha, HN2.out.kept⟩

theorem ownB_9f {m : Ms} (hk : m.kind = 9) (hh : m.has = false) : Fm.ownB m = Fm.hasB m.has := by unfold Fm.ownB; rw [hk, hh]; rfl
theorem putown_9f {w : World} {base : Nat} {m : Ms} {v vm : Value} {xs : List Nat} (H : Mv w base m vm) (HF : Few m) (ho : w.ownsRow base 5 1 v xs.length (ints .u8 xs)) (hb : base ≤ w.heap.size) (hx : xs.length ≤ 1000000000) (hk : m.kind = 9) (hh : m.has = false) :
    Calls Tryd.prog 15 #[v, vm] w (MadeK base (xs ++ Fm.ownB m) v w) := by
  obtain ⟨b, vp, vq, w0, rfl, hsb, hal, hsz, hx0, hb0⟩ := boxedk H hb
  have hob : w0.ownsRow base 5 1 v xs.length (ints .u8 xs) := own_below ho (by rw [hsb]; exact hb0)
  have hne : v.ownBlock ≠ some b := by rw [← hsb]; exact own_new ho
  have HN : Hid (On base b m vp vq w v xs v w0) := Lib.hid ⟨hob, hx0, Kept.of_below (by rw [hsb]; exact hb0) _, hne, by omega⟩
  obtain ⟨c0, c1, c2, c3, c4, c5, c6, c7, c8, c9, c10⟩ := Bx.cells hx0.bx
  rw [hk] at c0
  have E := ownB_9f hk hh
  rw [E]
  rw [hh] at c3
  clear H ho hob hx0 hb0 hne E hk
  have HH := Lib.hid hh
  clear hh
  clear c1 c2 c4 c5 c6 c7 c8 c9 c10
  go_enter Tryd.func15, Tryd.ntmps15
  go_wp2_with fail
  have C0 := Lib.hid (HN.out.has (by omega))
  rw [HH.out] at C0
  refine (C0.out).mono ?_
  clear C0
  rintro e w1 ⟨v1, rfl, h1⟩
  rw [← HH.out] at h1
  have HN1 := Lib.hid h1
  clear h1
  obtain ⟨d0_0, d0_1, d0_2, d0_3, d0_4, d0_5, d0_6, d0_7, d0_8, d0_9, d0_10⟩ := Bx.cells HN1.out.box.bx
  rw [HH.out] at d0_3
  clear d0_0 d0_1 d0_2 d0_4 d0_5 d0_6 d0_7 d0_8 d0_9 d0_10
  go_wp2_with fail
  go_ret
  exact ⟨_, rfl, HN1.out.own, HN1.out.kept⟩

theorem ownB_3 {m : Ms} (hk : m.kind = 3) : Fm.ownB m = [] := by unfold Fm.ownB; rw [hk]; rfl
theorem putown_3 {w : World} {base : Nat} {m : Ms} {v vm : Value} {xs : List Nat} (H : Mv w base m vm) (HF : Few m) (ho : w.ownsRow base 5 1 v xs.length (ints .u8 xs)) (hb : base ≤ w.heap.size) (hx : xs.length ≤ 1000000000) (hk : m.kind = 3) :
    Calls Tryd.prog 15 #[v, vm] w (MadeK base (xs ++ Fm.ownB m) v w) := by
  obtain ⟨b, vp, vq, w0, rfl, hsb, hal, hsz, hx0, hb0⟩ := boxedk H hb
  have hob : w0.ownsRow base 5 1 v xs.length (ints .u8 xs) := own_below ho (by rw [hsb]; exact hb0)
  have hne : v.ownBlock ≠ some b := by rw [← hsb]; exact own_new ho
  have HN : Hid (On base b m vp vq w v xs v w0) := Lib.hid ⟨hob, hx0, Kept.of_below (by rw [hsb]; exact hb0) _, hne, by omega⟩
  obtain ⟨c0, c1, c2, c3, c4, c5, c6, c7, c8, c9, c10⟩ := Bx.cells hx0.bx
  rw [hk] at c0
  have E := ownB_3 hk
  rw [E]
  clear H ho hob hx0 hb0 hne E hk
  clear c1 c2 c3 c4 c5 c6 c7 c8 c9 c10
  go_enter Tryd.func15, Tryd.ntmps15
  go_wp2_with fail
  go_ret
  exact ⟨_, rfl, by rw [List.append_nil]; exact HN.out.own, HN.out.kept⟩

theorem ownB_6 {m : Ms} (hk : m.kind = 6) : Fm.ownB m = [] := by unfold Fm.ownB; rw [hk]; rfl
theorem putown_6 {w : World} {base : Nat} {m : Ms} {v vm : Value} {xs : List Nat} (H : Mv w base m vm) (HF : Few m) (ho : w.ownsRow base 5 1 v xs.length (ints .u8 xs)) (hb : base ≤ w.heap.size) (hx : xs.length ≤ 1000000000) (hk : m.kind = 6) :
    Calls Tryd.prog 15 #[v, vm] w (MadeK base (xs ++ Fm.ownB m) v w) := by
  obtain ⟨b, vp, vq, w0, rfl, hsb, hal, hsz, hx0, hb0⟩ := boxedk H hb
  have hob : w0.ownsRow base 5 1 v xs.length (ints .u8 xs) := own_below ho (by rw [hsb]; exact hb0)
  have hne : v.ownBlock ≠ some b := by rw [← hsb]; exact own_new ho
  have HN : Hid (On base b m vp vq w v xs v w0) := Lib.hid ⟨hob, hx0, Kept.of_below (by rw [hsb]; exact hb0) _, hne, by omega⟩
  obtain ⟨c0, c1, c2, c3, c4, c5, c6, c7, c8, c9, c10⟩ := Bx.cells hx0.bx
  rw [hk] at c0
  have E := ownB_6 hk
  rw [E]
  clear H ho hob hx0 hb0 hne E hk
  clear c1 c2 c3 c4 c5 c6 c7 c8 c9 c10
  go_enter Tryd.func15, Tryd.ntmps15
  go_wp2_with fail
  go_ret
  exact ⟨_, rfl, by rw [List.append_nil]; exact HN.out.own, HN.out.kept⟩

theorem ownB_11 {m : Ms} (hk : m.kind = 11) : Fm.ownB m = [] := by unfold Fm.ownB; rw [hk]; rfl
theorem putown_11 {w : World} {base : Nat} {m : Ms} {v vm : Value} {xs : List Nat} (H : Mv w base m vm) (HF : Few m) (ho : w.ownsRow base 5 1 v xs.length (ints .u8 xs)) (hb : base ≤ w.heap.size) (hx : xs.length ≤ 1000000000) (hk : m.kind = 11) :
    Calls Tryd.prog 15 #[v, vm] w (MadeK base (xs ++ Fm.ownB m) v w) := by
  obtain ⟨b, vp, vq, w0, rfl, hsb, hal, hsz, hx0, hb0⟩ := boxedk H hb
  have hob : w0.ownsRow base 5 1 v xs.length (ints .u8 xs) := own_below ho (by rw [hsb]; exact hb0)
  have hne : v.ownBlock ≠ some b := by rw [← hsb]; exact own_new ho
  have HN : Hid (On base b m vp vq w v xs v w0) := Lib.hid ⟨hob, hx0, Kept.of_below (by rw [hsb]; exact hb0) _, hne, by omega⟩
  obtain ⟨c0, c1, c2, c3, c4, c5, c6, c7, c8, c9, c10⟩ := Bx.cells hx0.bx
  rw [hk] at c0
  have E := ownB_11 hk
  rw [E]
  clear H ho hob hx0 hb0 hne E hk
  clear c1 c2 c3 c4 c5 c6 c7 c8 c9 c10
  go_enter Tryd.func15, Tryd.ntmps15
  go_wp2_with fail
  go_ret
  exact ⟨_, rfl, by rw [List.append_nil]; exact HN.out.own, HN.out.kept⟩

theorem putown_any {w : World} {base : Nat} {m : Ms} {v vm : Value} {xs : List Nat} (H : Mv w base m vm) (HF : Few m) (ho : w.ownsRow base 5 1 v xs.length (ints .u8 xs)) (hb : base ≤ w.heap.size) (hx : xs.length ≤ 1000000000) (hkn : known m.kind = true) :
    Calls Tryd.prog 15 #[v, vm] w (MadeK base (xs ++ Fm.ownB m) v w) := by
  have hb' : 0 < m.kind ∧ m.kind < 13 := by unfold known at hkn; simpa using hkn
  have hc : m.kind = 1 ∨ m.kind = 2 ∨ m.kind = 3 ∨ m.kind = 4 ∨ m.kind = 5 ∨ m.kind = 6 ∨ m.kind = 7 ∨ m.kind = 8 ∨ m.kind = 9 ∨ m.kind = 10 ∨ m.kind = 11 ∨ m.kind = 12 := by omega
  rcases hc with h | h | h | h | h | h | h | h | h | h | h | h
  · exact putown_1 H HF ho hb hx h
  · exact putown_2 H HF ho hb hx h
  · exact putown_3 H HF ho hb hx h
  · cases hh : m.has
    · exact putown_4f H HF ho hb hx h hh
    · exact putown_4t H HF ho hb hx h hh
  · exact putown_5 H HF ho hb hx h
  · exact putown_6 H HF ho hb hx h
  · exact putown_7 H HF ho hb hx h
  · exact putown_8 H HF ho hb hx h
  · cases hh : m.has
    · exact putown_9f H HF ho hb hx h hh
    · exact putown_9t H HF ho hb hx h hh
  · exact putown_10 H HF ho hb hx h
  · exact putown_11 H HF ho hb hx h
  · exact putown_12 H HF ho hb hx h
theorem few_right {m : Ms} (ok : Ok m) (hk : m.key.size ≤ 1000) (h : right m = 0) : Few m := by
  obtain ⟨_, _, hbk, hlg⟩ := Fm.right_parts h
  obtain ⟨l1, l2, l3, l4, _⟩ := Fm.long_parts hlg hbk
  exact ⟨ok, hk, by omega, by omega, by omega, fun p hp => by have := l4 p hp; omega⟩

/-- bytes in new memory, and an error -/
def EncPost (r : List Nat × Nat) (w : World) (e : Ending) (w' : World) : Prop :=
  ∃ v, e = .returned (.tuple #[v, .int .i64 (r.2 : Int)]) ∧ w'.ownsRow w.heap.size 5 1 v r.1.length (ints .u8 r.1) ∧ Below w.heap.size w w'

set_option maxHeartbeats 1000000 in
theorem fenc_any {w : World} {B : Nat} {m : Ms} {v : Value} (H : Mv w B m v) (T : Tab w) (hkey : m.key.size ≤ 1000) :
    Calls Tryd.prog 8 #[v] w (EncPost (Fm.enc m) w) := by
  obtain ⟨b, vp, vq, w0, rfl, hsb, hal, hsz, hx0, hb0⟩ := boxedk H.all (Nat.le_refl _)
  rw [hsb] at hx0
  have hT0 := T.below hb0 (by rw [← hsb]; exact T.lt)
  have okm := H.ok
  have HM0 : Hid (Mv w0 b m (.agg #[.int .i64 m.kind, .int .u32 (m.rid : Int), .int .u8 (m.code : Int), .bool m.has, .int .u64 (m.id : Int), .string m.key, .string m.val, .int .u64 (m.pid : Int), .int .u16 (m.pad : Int), vp, vq])) := Lib.hid ⟨⟨vp, vq, rfl, hx0.peers, hx0.pairs⟩, okm⟩
  have HB0 := Lib.hid hb0
  have HX0 := Lib.hid hx0
  obtain ⟨c0, c1, c2, c3, c4, c5, c6, c7, c8, c9, c10⟩ := Bx.cells hx0.bx
  have R := Lib.hid (right_any HM0.out hT0)
  obtain ⟨r, hr⟩ : ∃ r, Hid (right m = r) := ⟨_, rfl⟩
  rw [hr.out] at R
  by_cases hr0 : r = 0
  case neg =>
    have E : Fm.enc m = ([], r) := by rw [← hr.out]; exact Fm.enc_bad (by rw [hr.out]; exact hr0)
    rw [E]
    have hlt : ¬ (r : Int) = 0 := by omega
    clear H hx0 T hT0 hb0 okm E
    go_enter Tryd.func8, Tryd.ntmps8
    go_wp2_with fail
    refine (R.out).mono ?_
    rintro e w1 ⟨rfl, hb1⟩
    have HB1 := Lib.hid (HB0.out.trans (hb1.mono (by omega)))
    clear hb1
    go_wp2_with fail
    go_ret2
    exact ⟨_, rfl, World.ownsRow_nil _ _ _ _, by rw [hsb]; exact HB1.out⟩
  subst hr0
  have hright : right m = 0 := hr.out
  have HF := few_right okm hkey hright
  have hkn := (Fm.right_parts hright).1
  have hb' : 0 < m.kind ∧ m.kind < 13 := by unfold known at hkn; simpa using hkn
  obtain ⟨K, hK⟩ : ∃ K : Nat, m.kind = (K : Int) := ⟨m.kind.toNat, by omega⟩
  have hK13 : K < 13 := by omega
  have hrid := okm.rid
  have E : Fm.enc m = (Bm.fix 1 K ++ Bm.fix 4 m.rid ++ Fm.ownB m, 0) := by rw [Fm.enc_good hright]; unfold Fm.put; rw [hK, Int.toNat_natCast, List.append_assoc]
  rw [E]
  have HKK := Lib.hid hK
  clear H hx0 T hT0 hb0 E hright hb' hK
  go_enter Tryd.func8, Tryd.ntmps8
  go_wp2_with fail
  refine (R.out).mono ?_
  rintro e w1 ⟨rfl, hb1⟩
  have hw1 := hb1.size
  have HX1 : Hid (Boxk w1 b b m vp vq) := Lib.hid ⟨Whole.below HX0.out.bx hb1 (Whole.lt HX0.out.bx), HX0.out.peers.below (hb1.mono (by omega)), HX0.out.pairs.below (hb1.mono (by omega))⟩
  have HN1 : Hid (On b b m vp vq w (.slice none 0 0) [] (.slice none 0 0) w1) := Lib.hid ⟨World.ownsRow_nil _ _ _ _, HX1.out, Kept.of_below (by rw [hsb]; exact HB0.out.trans (hb1.mono (by omega))) _, by simp [Value.ownBlock], by omega⟩
  clear hb1 c0 c1 c2 c3 c4 c5 c6 c7 c8 c9 c10
  obtain ⟨c0, c1, c2, c3, c4, c5, c6, c7, c8, c9, c10⟩ := Bx.cells HX1.out.bx
  rw [HKK.out] at c0
  go_wp2_with fail
  refine (HN1.out.fix K 1 1 rfl (by omega) (by omega) (by omega) (by simp)).mono ?_
  rintro e w2 ⟨v2, rfl, h2⟩
  have HN2 := Lib.hid h2
  clear h2 c0 c1 c2 c3 c4 c5 c6 c7 c8 c9 c10
  have c1 := (Bx.cells HN2.out.box.bx).2.1
  go_wp2_with fail
  refine (HN2.out.fix m.rid 4 4 rfl (by omega) (by omega) (by omega) (by simp [Bm.fix_length])).mono ?_
  rintro e w3 ⟨v3, rfl, h3⟩
  have HN3 := Lib.hid h3
  clear h3 c1
  obtain ⟨c0, c1, c2, c3, c4, c5, c6, c7, c8, c9, c10⟩ := Bx.cells HN3.out.box.bx
  have hm3 : Mv w3 b m (.agg #[.int .i64 m.kind, .int .u32 (m.rid : Int), .int .u8 (m.code : Int), .bool m.has, .int .u64 (m.id : Int), .string m.key, .string m.val, .int .u64 (m.pid : Int), .int .u16 (m.pad : Int), vp, vq]) := ⟨⟨vp, vq, rfl, HN3.out.box.peers, HN3.out.box.pairs⟩, okm⟩
  have P := Lib.hid (putown_any hm3 HF HN3.out.own HN3.out.size (by simp [Bm.fix_length]) hkn)
  rw [List.nil_append] at P
  clear hm3
  go_wp2_with fail
  refine (P.out).mono ?_
  rintro e w4 ⟨v4, rfl, ho4, hk4⟩
  have HO4 := Lib.hid ho4
  have HK4 := Lib.hid (HN3.out.kept.trans hk4)
  clear ho4 hk4
  go_wp2_with fail
  go_ret2
  exact ⟨_, rfl, by rw [hsb]; exact HO4.out, by rw [hsb]; exact HK4.out.below (fun k hk => by cases hk) (by omega)⟩
end Go.Proofs.YtpfeccbnkgnioaaDoor
