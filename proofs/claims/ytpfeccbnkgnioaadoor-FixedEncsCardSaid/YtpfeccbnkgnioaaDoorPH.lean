/- Texts Rput9, Renc9, in one. -/
import Derived.Test.YtpfeccbnkgnioaaDoorPG
import Derived.Test.YtpfeccbnkgnioaaDoorRright8
/- Contracts of the reference's functions of layer 9 that write numbers, truths, texts, peers. -/
namespace Go.Proofs.YtpfeccbnkgnioaaDoor
open Go.RowKit
set_option linter.unusedVariables false
set_option maxRecDepth 100000
open Gm

theorem rnums_any (base : Nat) (v : Value) (xs : List Nat) (n k : Nat) (s : Int) (hs : s = (k : Int)) (h1 : 1 ≤ k) (h8 : k ≤ 8) (w : World) (hn : n < 18446744073709551616) (ho : w.ownsRow base 5 1 v xs.length (ints .u8 xs)) (hb : base ≤ w.heap.size) (hx : xs.length ≤ 100000000000) :
    Calls Tryd.prog 50 #[v, .int .u64 (n : Int), .int .i64 s] w (MadeK base (xs ++ Bm.fix k n) v w) := by
  have C := Lib.hid (fixr_any n s w hn (by omega) (by omega))
  have hfx : Bm.fixI n s = Bm.fix k n := by subst hs; exact Bm.fixI_good h1 h8
  rw [hfx] at C
  have hl : (Bm.fix k n).length = k := Bm.fix_length k n
  have HO := Lib.hid ho
  clear ho hs hfx
  go_enter Tryd.func50, Tryd.ntmps50
  go_wp2_with fail
  refine (C.out).mono ?_
  rintro e w1 ⟨v1, rfl, ho1, hb1⟩
  obtain ⟨A, c, rfl⟩ := own_shape ho1
  have HS := Lib.hid (Sees.of_own ho1)
  have HNil := Lib.hid (own_nil ho1)
  have HOw := Lib.hid (own_below HO.out hb1)
  have HB := Lib.hid hb1
  have hz : base ≤ w1.heap.size := by have := hb1.size; omega
  clear ho1 hb1
  obtain ⟨p, hp⟩ : ∃ p, Hid (xs.length = p) := ⟨_, rfl⟩
  rw [hp.out] at HOw hx
  go_wp2_with (at_builtin; refine wpList_append_rowk byteT _ _ rfl rfl base _ p _ rfl HOw.out k c rfl hl HNil.out HS.out (by omega) hz ?_; intro v2 w2 ho2 hk2)
  go_ret
  refine ⟨_, rfl, ?_, (Kept.of_below HB.out _).trans hk2⟩
  rw [List.length_append, hp.out, hl, ints_append]
  exact ho2
theorem rflag9_any (base : Nat) (v : Value) (xs : List Nat) (h : Bool) (w : World) (ho : w.ownsRow base 5 1 v xs.length (ints .u8 xs)) (hb : base ≤ w.heap.size) (hx : xs.length ≤ 100000000000) :
    Calls Tryd.prog 51 #[v, .bool h] w (MadeK base (xs ++ Fm.hasB h) v w) := by
  have HO := Lib.hid ho
  obtain ⟨p, hp⟩ : ∃ p, Hid (xs.length = p) := ⟨_, rfl⟩
  rw [hp.out] at HO hx
  clear ho
  cases h with
  | true =>
    go_enter Tryd.func51, Tryd.ntmps51
    go_wp2_with (at_builtin; refine wpList_append1k byteT _ _ rfl rfl base _ p (ints .u8 xs) rfl rfl rfl HO.out (by omega) hb ?_; intro v1 w1 ho1 hk1)
    go_ret
    exact ⟨_, rfl, by rw [List.length_append, hp.out, ints_append]; exact ho1, hk1⟩
  | false =>
    go_enter Tryd.func51, Tryd.ntmps51
    go_wp2_with (at_builtin; refine wpList_append1k byteT _ _ rfl rfl base _ p (ints .u8 xs) rfl rfl rfl HO.out (by omega) hb ?_; intro v1 w1 ho1 hk1)
    go_ret
    exact ⟨_, rfl, by rw [List.length_append, hp.out, ints_append]; exact ho1, hk1⟩
theorem rtext9_any (base : Nat) (v : Value) (xs : List Nat) (s : ByteArray) (k : Nat) (z : Int) (hz : z = (k : Int)) (h1 : 1 ≤ k) (h8 : k ≤ 8) (w : World) (hs : s.size ≤ 1000000000) (ho : w.ownsRow base 5 1 v xs.length (ints .u8 xs)) (hb : base ≤ w.heap.size) (hx : xs.length ≤ 100000000000) :
    Calls Tryd.prog 53 #[v, .string s, .int .i64 z] w (MadeK base (xs ++ Fm.strB k s) v w) := by
  have HT := Lib.hid (Txt.nums s)
  have Hlen := Fm.nums_length s
  obtain ⟨n, hn⟩ : ∃ n, Hid (s.size = n) := ⟨_, rfl⟩
  have hsz : s.size = n := hn.out
  have C := Lib.hid (rnums_any base v xs n k z hz h1 h8 w (by omega) ho hb hx)
  have hl : (xs ++ Bm.fix k n).length = xs.length + k := by rw [List.length_append, Bm.fix_length]
  obtain ⟨q, hq⟩ : ∃ q, Hid ((xs ++ Bm.fix k n).length = q) := ⟨_, rfl⟩
  have hq1 : q ≤ 100000000008 := by rw [← hq.out, hl]; omega
  have hln : (nums s).length = n := by rw [Hlen, hsz]
  have hfin : Hid (xs ++ Fm.strB k s = (xs ++ Bm.fix k n) ++ nums s) := Lib.hid (by unfold Fm.strB; rw [hsz, List.append_assoc])
  rw [hfin.out]
  clear ho Hlen hl hz
  rw [hsz] at hs
  go_enter Tryd.func53, Tryd.ntmps53
  go_wp2_with fail
  refine (C.out).mono ?_
  rintro e w1 ⟨v1, rfl, ho1, hk1⟩
  rw [hq.out] at ho1
  obtain ⟨c, w2, hcv, hs2, hb2⟩ := conv_str (w := w1) HT.out n hln
  have HO1 := Lib.hid (own_below ho1 hb2)
  have HK1 := Lib.hid (hk1.behind hb2)
  have HS2 := Lib.hid hs2
  have hz2 : base ≤ w2.heap.size := by have := hk1.size; have := hb2.size; omega
  clear ho1 hk1 hb2 hs2
  go_wp2_with (at_builtin; refine wpList_append_rowk byteT _ _ rfl rfl base _ q _ rfl HO1.out n c rfl hln (fun h => by cases h) HS2.out (by omega) hz2 ?_; intro v3 w3 ho3 hk3)
  go_ret
  refine ⟨_, rfl, ?_, HK1.out.trans hk3⟩
  rw [List.length_append, hq.out, hln, ints_append]
  exact ho3
theorem rpeer9_any (base : Nat) (v : Value) (xs : List Nat) (p q : Nat) (w : World) (hp : p < 18446744073709551616) (hq : q < 65536) (ho : w.ownsRow base 5 1 v xs.length (ints .u8 xs)) (hb : base ≤ w.heap.size) (hx : xs.length ≤ 10000000000) :
    Calls Tryd.prog 52 #[v, .agg #[.int .u64 (p : Int), .int .u16 (q : Int)]] w (MadeK base (xs ++ Fm.peerB (p, q)) v w) := by
  obtain ⟨b, w0, hs, hal, hs0, hw0, hb0⟩ := boxed2 w 26 (.int .u64 (p : Int)) (.int .u16 (q : Int))
  have ho0 : w0.ownsRow base 5 1 v xs.length (ints .u8 xs) := own_below ho (by rw [hs]; exact hb0)
  have hne : v.ownBlock ≠ some b := by rw [← hs]; exact own_new ho
  have HC := Lib.hid (fun W (h : Whole W b 26 #[.int .u64 (p : Int), .int .u16 (q : Int)]) => (⟨h.at_ 0, h.at_ 1⟩ : W.cell? ⟨b, 0, none⟩ = some (.int .u64 (p : Int)) ∧ W.cell? ⟨b, 1, none⟩ = some (.int .u16 (q : Int))))
  have C := Lib.hid (rnums_any base v xs p 8 8 rfl (by omega) (by omega) w0.drew hp (ho0.drew) (by simp; omega) (by omega))
  have HW := Lib.hid hw0
  have HB : Hid (Kept w w0 v v) := Lib.hid (Kept.of_below (by rw [hs]; exact hb0) v)
  have HNE := Lib.hid hne
  have hl : (xs ++ Bm.fix 8 p).length ≤ 10000000008 := by rw [List.length_append, Bm.fix_length]; omega
  obtain ⟨ys, hys⟩ : ∃ ys, Hid (xs ++ Bm.fix 8 p = ys) := ⟨_, rfl⟩
  rw [hys.out] at C hl
  have hfin : Hid (xs ++ Fm.peerB (p, q) = ys ++ Bm.fix 2 q) := Lib.hid (by rw [← hys.out]; unfold Fm.peerB; rw [List.append_assoc])
  rw [hfin.out]
  have hwr : IntKind.u64.wrap (q : Int) = (q : Int) := by rw [IntKind.wrap_u64]; omega
  clear ho ho0 hw0 hb0 hne
  go_enter Tryd.func52, Tryd.ntmps52
  go_wp2_with fail
  refine wp_region_plan (S := fun W => Whole W b 26 #[.int .u64 (p : Int), .int .u16 (q : Int)]) [(0, true), (1, true), (2, true), (4, true), (5, true), (6, true), (3, false), (7, false), (8, true)] (by kernel_rfl) (by kernel_rfl) rfl (by kernel_rfl) (fun _ _ _ _ _ h => h) HW.out.drew ?_
  iterate 6
    refine along_take (v := ?_) rfl (by rfl) ?_ ?_
    rotate_left
    · intro W hW; obtain ⟨c0, c1⟩ := HC.out W hW; clear hW; go_simp; try with_reducible rfl
    try simp only [Act.put, List.setIfInBounds_toArray, List.set_cons_zero, List.set_cons_succ]
  refine along_step rfl (fun K hK => ?_)
  go_simp
  refine (C.out).mono ?_
  rintro e w1 ⟨v1, rfl, ho1, hk1⟩
  have HW1 := Lib.hid (HW.out.drew.kept hk1 HNE.out)
  have C2 := Lib.hid (rnums_any base v1 ys q 2 2 rfl (by omega) (by omega) w1 (by omega) ho1 (by have := hk1.size; simp at this; omega) (by omega))
  have HNE1 := Lib.hid (hk1.apart (by simpa using HW.out.lt) HNE.out)
  have HK1 := Lib.hid (HB.out.drew.trans hk1)
  clear ho1 hk1
  refine hK.out _ _ HW1.out ?_
  clear hK K
  try simp only [Act.put, List.setIfInBounds_toArray, List.set_cons_zero, List.set_cons_succ]
  refine along_step rfl (fun K hK => ?_)
  go_simp
  refine (C2.out).mono ?_
  rintro e w2 ⟨v2, rfl, ho2, hk2⟩
  have HO := Lib.hid ho2
  have HK := Lib.hid (HK1.out.trans hk2)
  have HW2 := Lib.hid (HW1.out.kept hk2 HNE1.out)
  clear ho2 hk2
  refine hK.out _ _ HW2.out ?_
  clear hK K
  try simp only [Act.put, List.setIfInBounds_toArray, List.set_cons_zero, List.set_cons_succ]
  refine along_take (v := ?_) rfl (by rfl) ?_ ?_
  rotate_left
  · intro W hW; clear hW; go_simp; try with_reducible rfl
  simp only [Act.put, List.setIfInBounds_toArray, List.set_cons_zero, List.set_cons_succ]
  refine along_done ?_
  go_wp2_with fail
  go_ret
  exact ⟨_, rfl, HO.out, HK.out⟩
end Go.Proofs.YtpfeccbnkgnioaaDoor
/- Contracts of the reference's Put and Enc of layer 9. -/
namespace Go.Proofs.YtpfeccbnkgnioaaDoor
open Go.RowKit
set_option linter.unusedVariables false
set_option maxRecDepth 100000
set_option linter.unusedSimpArgs false
open Gm

section
variable {w w' w0 : World} {base b : Nat} {m : Ms} {vp vq v v' v0 : Value} {xs ys : List Nat} {e : Ending}
theorem On.push (h : On base b m vp vq w0 v0 xs v w) {x : Nat} (ho : w'.ownsRow base 5 1 v' (xs.length + 1) (ints .u8 xs ++ [.int .u8 (x : Int)])) (hk : Kept w w' v v') : On base b m vp vq w0 v0 (xs ++ [x]) v' w' := by
  have hm : MadeK base (xs ++ [x]) v w (.returned v') w' := ⟨v', rfl, by rw [List.length_append, ints_append]; exact ho, hk⟩
  obtain ⟨v2, e2, h2⟩ := h.next hm
  injection e2 with e2
  subst e2
  exact h2
theorem On.drew (h : On base b m vp vq w0 v0 xs v w) : On base b m vp vq w0 v0 xs v w.drew := by
  have hm : MadeK base xs v w (.returned v) w.drew := ⟨v, rfl, h.own.drew, (Kept.refl w v).drew⟩
  obtain ⟨v2, e2, h2⟩ := h.next hm
  injection e2 with e2
  subst e2
  exact h2
theorem Boxk.cellP {b1 o1 n c : Nat} (h : Boxk w base b m (.slice (some ⟨b1, o1, none⟩) n c) vq) {i : Nat} (hi : i < m.peers.length) : w.cell? ⟨b1, o1 + i * 2, none⟩ = some (.int .u64 ((m.peers[i].1 : Nat) : Int)) ∧ w.cell? ⟨b1, o1 + i * 2 + 1, none⟩ = some (.int .u16 ((m.peers[i].2 : Nat) : Int)) := by
  obtain ⟨A, c', hv, ht, _⟩ := h.peers.ex
  injection hv with hA _ _
  subst hA
  obtain ⟨b2, o2, e2, _, d0, d1⟩ := ht.at_ hi
  injection e2 with e2
  injection e2 with e3 e4 _
  subst e3 e4
  exact ⟨d0, d1⟩
theorem Boxk.cellQ {b1 o1 n c : Nat} (h : Boxk w base b m vp (.slice (some ⟨b1, o1, none⟩) n c)) {i : Nat} (hi : i < m.pairs.length) : w.cell? ⟨b1, o1 + i * 2, none⟩ = some (.string m.pairs[i].1) ∧ w.cell? ⟨b1, o1 + i * 2 + 1, none⟩ = some (.string m.pairs[i].2) := by
  obtain ⟨A, c', hv, ht, _⟩ := h.pairs.ex
  injection hv with hA _ _
  subst hA
  obtain ⟨b2, o2, e2, _, d0, d1⟩ := ht.at_ hi
  injection e2 with e2
  injection e2 with e3 e4 _
  subst e3 e4
  exact ⟨d0, d1⟩
theorem Boxk.someP {A : Option Addr} {n c : Nat} (h : Boxk w base b m (.slice A n c) vq) (hl : 0 < m.peers.length) : ∃ b1 o1, A = some ⟨b1, o1, none⟩ := by
  obtain ⟨A', c', hv, ht, _⟩ := h.peers.ex
  injection hv with hA _ _
  subst hA
  obtain ⟨b2, o2, e2, _⟩ := ht hl
  exact ⟨b2, o2, e2⟩
theorem Boxk.someQ {A : Option Addr} {n c : Nat} (h : Boxk w base b m vp (.slice A n c)) (hl : 0 < m.pairs.length) : ∃ b1 o1, A = some ⟨b1, o1, none⟩ := by
  obtain ⟨A', c', hv, ht, _⟩ := h.pairs.ex
  injection hv with hA _ _
  subst hA
  obtain ⟨b2, o2, e2, _⟩ := ht hl
  exact ⟨b2, o2, e2⟩
variable (h : On base b m vp vq w0 v0 xs v w)
include h
theorem On.rnums (n : Nat) (k : Nat) (s : Int) (hs : s = (k : Int)) (h1 : 1 ≤ k) (h8 : k ≤ 8) (hn : n < 18446744073709551616) (hx : xs.length ≤ 1000000000) : Calls Tryd.prog 50 #[v, .int .u64 (n : Int), .int .i64 s] w fun e w' => ∃ v', e = .returned v' ∧ On base b m vp vq w0 v0 (xs ++ Bm.fix k n) v' w' :=
  h.next' (rnums_any base v xs n k s hs h1 h8 w hn h.own h.size (by omega))
theorem On.rhas (hx : xs.length ≤ 1000000000) : Calls Tryd.prog 51 #[v, .bool m.has] w fun e w' => ∃ v', e = .returned v' ∧ On base b m vp vq w0 v0 (xs ++ Fm.hasB m.has) v' w' :=
  h.next' (rflag9_any base v xs m.has w h.own h.size (by omega))
theorem On.rpeer (p q : Nat) (hp : p < 18446744073709551616) (hq : q < 65536) (hx : xs.length ≤ 1000000000) : Calls Tryd.prog 52 #[v, .agg #[.int .u64 (p : Int), .int .u16 (q : Int)]] w fun e w' => ∃ v', e = .returned v' ∧ On base b m vp vq w0 v0 (xs ++ Fm.peerB (p, q)) v' w' :=
  h.next' (rpeer9_any base v xs p q w hp hq h.own h.size (by omega))
theorem On.rtext (s : ByteArray) (k : Nat) (z : Int) (hz : z = (k : Int)) (h1 : 1 ≤ k) (h8 : k ≤ 8) (hs : s.size ≤ 1000) (hx : xs.length ≤ 1000000000) : Calls Tryd.prog 53 #[v, .string s, .int .i64 z] w fun e w' => ∃ v', e = .returned v' ∧ On base b m vp vq w0 v0 (xs ++ Fm.strB k s) v' w' :=
  h.next' (rtext9_any base v xs s k z hz h1 h8 w (by omega) h.own h.size (by omega))
end
theorem fix1 {x : Nat} (h : x < 256) : Bm.fix 1 x = [x] := by show [] ++ [x % 256] = [x]; rw [Nat.mod_eq_of_lt h]; rfl


set_option maxHeartbeats 1000000 in
theorem rput_1 {w : World} {B : Nat} {m : Ms} {vm : Value} (H : Mv w B m vm) (HF : Few m) (hk : m.kind = 1) :
    Calls Tryd.prog 17 #[vm] w fun e w' => ∃ v, e = .returned v ∧ w'.ownsRow w.heap.size 5 1 v (Fm.put m).length (ints .u8 (Fm.put m)) ∧ Below w.heap.size w w' := by
  obtain ⟨b, vp, vq, w0, rfl, hsb, hal, hsz, hx0, hb0⟩ := boxedk H.all (Nat.le_refl _)
  rw [hsb] at hx0
  obtain ⟨Ap, cp, rfl, _, hp1, hp2, _⟩ := hx0.peers.ex
  obtain ⟨Aq, cq, rfl, _, hq1, hq2, _⟩ := hx0.pairs.ex
  unfold maxLen at hp2 hq2
  have hn16 := HF.peers
  have hn8 := HF.pairs
  have HN0 : Hid (On b b m (.slice Ap m.peers.length cp) (.slice Aq m.pairs.length cq) w (.slice none 0 0) [] (.slice none 0 0) w0) := Lib.hid ⟨World.ownsRow_nil _ _ _ _, hx0, Kept.of_below (by rw [hsb]; exact hb0) _, by simp [Value.ownBlock], by omega⟩
  obtain ⟨c0, c1, c2, c3, c4, c5, c6, c7, c8, c9, c10⟩ := Bx.cells hx0.bx
  rw [hk] at c0
  have E : Fm.put m = Bm.fix 1 1 ++ Bm.fix 4 m.rid ++ Fm.ownB m := by unfold Fm.put; rw [hk, List.append_assoc]; rfl
  rw [ownB_1 hk] at E
  rw [E]
  have HLen : Hid ((Bm.fix 1 1 ++ Bm.fix 4 m.rid).length = 5) := Lib.hid (by rw [List.length_append, Bm.fix_length, Bm.fix_length])
  obtain ⟨xs, HX⟩ : ∃ xs, Hid (Bm.fix 1 1 ++ Bm.fix 4 m.rid = xs) := ⟨_, rfl⟩
  rw [HX.out] at HLen ⊢
  have hxs : xs.length = 5 := HLen.out
  have hrid := HF.ok.rid
  have hwk : IntKind.u64.wrap (1 : Int) = ((1 : Nat) : Int) := by decide
  have hwr : IntKind.u64.wrap (m.rid : Int) = (m.rid : Int) := by rw [IntKind.wrap_u64]; omega
  have HSC := Lib.hid (fun W (h : Boxk W b b m (.slice Ap m.peers.length cp) (.slice Aq m.pairs.length cq)) => Bx.cells h.bx)
  have HKK := Lib.hid hk
  have hcode := HF.ok.code
  have hid := HF.ok.id
  clear H hx0 hb0 E hk
  go_enter Tryd.func17, Tryd.ntmps17
  go_wp2_with fail
  refine wp_region_plan (S := fun W => Boxk W b b m (.slice Ap m.peers.length cp) (.slice Aq m.pairs.length cq)) [(0, true), (1, true), (2, true), (4, true), (5, true), (6, true), (3, false), (7, false), (8, true)] (by kernel_rfl) (by kernel_rfl) rfl (by kernel_rfl) (fun _ _ _ _ _ h => h) HN0.out.drew.box ?_
  clear c0 c1 c2 c3 c4 c5 c6 c7 c8 c9 c10
  iterate 6
    refine along_take (v := ?_) rfl (by rfl) ?_ ?_
    rotate_left
    · intro W hW; obtain ⟨c0, c1, _⟩ := HSC.out W hW; rw [HKK.out] at c0; clear hW; go_simp; try with_reducible rfl
    try simp only [Act.put, List.setIfInBounds_toArray, List.set_cons_zero, List.set_cons_succ]
  refine along_step rfl (fun K hK => ?_)
  go_simp
  refine (HN0.out.drew.rnums 1 1 1 rfl (by omega) (by omega) (by omega) (by simp)).mono ?_
  rintro e w1 ⟨v1, rfl, h1⟩
  have HN1 := Lib.hid h1
  clear h1
  refine hK.out _ _ HN1.out.box ?_
  clear hK K
  try simp only [Act.put, List.setIfInBounds_toArray, List.set_cons_zero, List.set_cons_succ]
  refine along_step rfl (fun K hK => ?_)
  go_simp
  refine (HN1.out.rnums m.rid 4 4 rfl (by omega) (by omega) (by omega) (by simp [Bm.fix_length])).mono ?_
  rintro e w2 ⟨v2, rfl, h2⟩
  rw [List.nil_append, HX.out] at h2
  have HN2 := Lib.hid h2
  clear h2
  refine hK.out _ _ HN2.out.box ?_
  clear hK K
  try simp only [Act.put, List.setIfInBounds_toArray, List.set_cons_zero, List.set_cons_succ]
  refine along_take (v := ?_) rfl (by rfl) ?_ ?_
  rotate_left
  · intro W hW; clear hW; go_simp; try with_reducible rfl
  simp only [Act.put, List.setIfInBounds_toArray, List.set_cons_zero, List.set_cons_succ]
  refine along_done ?_
  obtain ⟨d2_0, d2_1, d2_2, d2_3, d2_4, d2_5, d2_6, d2_7, d2_8, d2_9, d2_10⟩ := Bx.cells HN2.out.box.bx
  rw [HKK.out] at d2_0
  go_wp2_with fail
  refine (HN2.out.rnums m.id 8 8 rfl (by omega) (by omega) (by omega) (by omega)).mono ?_
  rintro e w3 ⟨v3, rfl, h3⟩
  have HN3 := Lib.hid h3
  clear h3 d2_0 d2_1 d2_2 d2_3 d2_4 d2_5 d2_6 d2_7 d2_8 d2_9 d2_10
  obtain ⟨d3_0, d3_1, d3_2, d3_3, d3_4, d3_5, d3_6, d3_7, d3_8, d3_9, d3_10⟩ := Bx.cells HN3.out.box.bx
  rw [HKK.out] at d3_0
  go_wp2_with fail
  go_ret
  have ho := HN3.out.own
  try simp only [List.append_assoc] at ho
  exact ⟨_, rfl, by rw [hsb]; exact ho, by rw [hsb]; exact HN3.out.kept.below (fun k hk => by cases hk) (by omega)⟩

set_option maxHeartbeats 1000000 in
theorem rput_2 {w : World} {B : Nat} {m : Ms} {vm : Value} (H : Mv w B m vm) (HF : Few m) (hk : m.kind = 2) :
    Calls Tryd.prog 17 #[vm] w fun e w' => ∃ v, e = .returned v ∧ w'.ownsRow w.heap.size 5 1 v (Fm.put m).length (ints .u8 (Fm.put m)) ∧ Below w.heap.size w w' := by
  obtain ⟨b, vp, vq, w0, rfl, hsb, hal, hsz, hx0, hb0⟩ := boxedk H.all (Nat.le_refl _)
  rw [hsb] at hx0
  obtain ⟨Ap, cp, rfl, _, hp1, hp2, _⟩ := hx0.peers.ex
  obtain ⟨Aq, cq, rfl, _, hq1, hq2, _⟩ := hx0.pairs.ex
  unfold maxLen at hp2 hq2
  have hn16 := HF.peers
  have hn8 := HF.pairs
  have HN0 : Hid (On b b m (.slice Ap m.peers.length cp) (.slice Aq m.pairs.length cq) w (.slice none 0 0) [] (.slice none 0 0) w0) := Lib.hid ⟨World.ownsRow_nil _ _ _ _, hx0, Kept.of_below (by rw [hsb]; exact hb0) _, by simp [Value.ownBlock], by omega⟩
  obtain ⟨c0, c1, c2, c3, c4, c5, c6, c7, c8, c9, c10⟩ := Bx.cells hx0.bx
  rw [hk] at c0
  have E : Fm.put m = Bm.fix 1 2 ++ Bm.fix 4 m.rid ++ Fm.ownB m := by unfold Fm.put; rw [hk, List.append_assoc]; rfl
  rw [ownB_2 hk] at E
  rw [E]
  have HLen : Hid ((Bm.fix 1 2 ++ Bm.fix 4 m.rid).length = 5) := Lib.hid (by rw [List.length_append, Bm.fix_length, Bm.fix_length])
  obtain ⟨xs, HX⟩ : ∃ xs, Hid (Bm.fix 1 2 ++ Bm.fix 4 m.rid = xs) := ⟨_, rfl⟩
  rw [HX.out] at HLen ⊢
  have hxs : xs.length = 5 := HLen.out
  have hrid := HF.ok.rid
  have hwk : IntKind.u64.wrap (2 : Int) = ((2 : Nat) : Int) := by decide
  have hwr : IntKind.u64.wrap (m.rid : Int) = (m.rid : Int) := by rw [IntKind.wrap_u64]; omega
  have HSC := Lib.hid (fun W (h : Boxk W b b m (.slice Ap m.peers.length cp) (.slice Aq m.pairs.length cq)) => Bx.cells h.bx)
  have HKK := Lib.hid hk
  have hcode := HF.ok.code
  have hid := HF.ok.id
  clear H hx0 hb0 E hk
  go_enter Tryd.func17, Tryd.ntmps17
  go_wp2_with fail
  refine wp_region_plan (S := fun W => Boxk W b b m (.slice Ap m.peers.length cp) (.slice Aq m.pairs.length cq)) [(0, true), (1, true), (2, true), (4, true), (5, true), (6, true), (3, false), (7, false), (8, true)] (by kernel_rfl) (by kernel_rfl) rfl (by kernel_rfl) (fun _ _ _ _ _ h => h) HN0.out.drew.box ?_
  clear c0 c1 c2 c3 c4 c5 c6 c7 c8 c9 c10
  iterate 6
    refine along_take (v := ?_) rfl (by rfl) ?_ ?_
    rotate_left
    · intro W hW; obtain ⟨c0, c1, _⟩ := HSC.out W hW; rw [HKK.out] at c0; clear hW; go_simp; try with_reducible rfl
    try simp only [Act.put, List.setIfInBounds_toArray, List.set_cons_zero, List.set_cons_succ]
  refine along_step rfl (fun K hK => ?_)
  go_simp
  refine (HN0.out.drew.rnums 2 1 1 rfl (by omega) (by omega) (by omega) (by simp)).mono ?_
  rintro e w1 ⟨v1, rfl, h1⟩
  have HN1 := Lib.hid h1
  clear h1
  refine hK.out _ _ HN1.out.box ?_
  clear hK K
  try simp only [Act.put, List.setIfInBounds_toArray, List.set_cons_zero, List.set_cons_succ]
  refine along_step rfl (fun K hK => ?_)
  go_simp
  refine (HN1.out.rnums m.rid 4 4 rfl (by omega) (by omega) (by omega) (by simp [Bm.fix_length])).mono ?_
  rintro e w2 ⟨v2, rfl, h2⟩
  rw [List.nil_append, HX.out] at h2
  have HN2 := Lib.hid h2
  clear h2
  refine hK.out _ _ HN2.out.box ?_
  clear hK K
  try simp only [Act.put, List.setIfInBounds_toArray, List.set_cons_zero, List.set_cons_succ]
  refine along_take (v := ?_) rfl (by rfl) ?_ ?_
  rotate_left
  · intro W hW; clear hW; go_simp; try with_reducible rfl
  simp only [Act.put, List.setIfInBounds_toArray, List.set_cons_zero, List.set_cons_succ]
  refine along_done ?_
  obtain ⟨d2_0, d2_1, d2_2, d2_3, d2_4, d2_5, d2_6, d2_7, d2_8, d2_9, d2_10⟩ := Bx.cells HN2.out.box.bx
  rw [HKK.out] at d2_0
  go_wp2_with fail
  refine (HN2.out.rhas (by omega)).mono ?_
  rintro e w3 ⟨v3, rfl, h3⟩
  have HN3 := Lib.hid h3
  clear h3 d2_0 d2_1 d2_2 d2_3 d2_4 d2_5 d2_6 d2_7 d2_8 d2_9 d2_10
  obtain ⟨d3_0, d3_1, d3_2, d3_3, d3_4, d3_5, d3_6, d3_7, d3_8, d3_9, d3_10⟩ := Bx.cells HN3.out.box.bx
  rw [HKK.out] at d3_0
  obtain ⟨ys, HY⟩ : ∃ ys, Hid (xs ++ Fm.hasB m.has = ys) := ⟨_, rfl⟩
  have hys : ys.length ≤ 10000 := by rw [← HY.out]; simp only [List.length_append, Fm.hasB, List.length_cons, List.length_nil, peerB_length, strB_length, Bm.fix_length]; have := HF.key; omega
  rw [HY.out] at HN3
  go_wp2_with (at_builtin; refine wpList_append1k byteT _ _ rfl rfl b _ ys.length (ints .u8 ys) rfl rfl rfl HN3.out.own (by omega) HN3.out.size ?_; intro v7 w7 ho7 hk7; have HN7 := Lib.hid (HN3.out.push ho7 hk7); clear ho7 hk7)
  clear d3_0 d3_1 d3_2 d3_3 d3_4 d3_5 d3_6 d3_7 d3_8 d3_9 d3_10
  obtain ⟨zs, HZ⟩ : ∃ zs, Hid (ys ++ [m.peers.length] = zs) := ⟨_, rfl⟩
  have hzs : zs.length ≤ 10001 := by rw [← HZ.out, List.length_append, List.length_cons, List.length_nil]; omega
  rw [HZ.out] at HN7
  go_loopw [3, 4] (fun vb vi wr => ∃ (j : Nat), j ≤ m.peers.length ∧ vi = .int .i64 j ∧ Hid (On b b m (.slice Ap m.peers.length cp) (.slice Aq m.pairs.length cq) w (.slice none 0 0) (zs ++ (m.peers.take j).flatMap Fm.peerB) vb wr)) (fun _ vi _ => m.peers.length - (intOf vi).toNat)
  case atStart => exact ⟨0, by omega, rfl, by simpa using HN7⟩
  case round =>
    obtain ⟨j, hj, rfl, HR⟩ := hrel
    obtain ⟨g0, g1, g2, g3, g4, g5, g6, g7, g8, g9, g10⟩ := Bx.cells HR.out.box.bx
    by_cases hlt : j < m.peers.length
    · obtain ⟨b1, o1, rfl⟩ := HR.out.box.someP (by omega)
      obtain ⟨d0, d1⟩ := HR.out.box.cellP hlt
      have OK := HF.ok.peers _ (List.getElem_mem hlt)
      have hlen : (zs ++ (m.peers.take j).flatMap Fm.peerB).length ≤ 1000000 := by rw [List.length_append, flat_peers, List.length_take]; omega
      have HNx := Lib.hid (flat_next Fm.peerB m.peers hlt _ rfl)
      obtain ⟨p, hp⟩ : ∃ p : Nat × Nat, Hid (m.peers[j] = p) := ⟨m.peers[j], Lib.hid rfl⟩
      obtain ⟨p1, p2⟩ := p
      rw [hp.out] at d0 d1 OK HNx
      simp only at d0 d1 OK
      obtain ⟨OK1, OK2⟩ := OK
      have P := Lib.hid (HR.out.rpeer p1 p2 OK1 OK2 (by omega))
      clear OK1 OK2
      go_wp2_with fail
      refine (P.out).mono ?_
      rintro e w8 ⟨v8, rfl, h8⟩
      rw [List.append_assoc, ← HNx.out] at h8
      have HN8 := Lib.hid h8
      clear h8
      go_wp2_with fail
      go_roundw
      case rel => exact ⟨j + 1, by omega, by go_num, HN8⟩
      case measure => simp [intOf]; omega
    · have hjn : j = m.peers.length := by omega
      rw [HKK.out] at g0
      go_wp2_with fail
      go_ret
      have ho := HR.out.own
      rw [hjn, List.take_length, ← HZ.out, ← HY.out, ← fix1 (show m.peers.length < 256 by omega)] at ho
      simp only [List.append_assoc] at ho
      refine ⟨_, rfl, ?_, by rw [hsb]; exact HR.out.kept.below (fun k hk => by cases hk) (by omega)⟩
      rw [hsb]
      unfold Fm.peersB
      simp only [List.append_assoc]
      exact ho

set_option maxHeartbeats 1000000 in
theorem rput_5 {w : World} {B : Nat} {m : Ms} {vm : Value} (H : Mv w B m vm) (HF : Few m) (hk : m.kind = 5) :
    Calls Tryd.prog 17 #[vm] w fun e w' => ∃ v, e = .returned v ∧ w'.ownsRow w.heap.size 5 1 v (Fm.put m).length (ints .u8 (Fm.put m)) ∧ Below w.heap.size w w' := by
  obtain ⟨b, vp, vq, w0, rfl, hsb, hal, hsz, hx0, hb0⟩ := boxedk H.all (Nat.le_refl _)
  rw [hsb] at hx0
  obtain ⟨Ap, cp, rfl, _, hp1, hp2, _⟩ := hx0.peers.ex
  obtain ⟨Aq, cq, rfl, _, hq1, hq2, _⟩ := hx0.pairs.ex
  unfold maxLen at hp2 hq2
  have hn16 := HF.peers
  have hn8 := HF.pairs
  have HN0 : Hid (On b b m (.slice Ap m.peers.length cp) (.slice Aq m.pairs.length cq) w (.slice none 0 0) [] (.slice none 0 0) w0) := Lib.hid ⟨World.ownsRow_nil _ _ _ _, hx0, Kept.of_below (by rw [hsb]; exact hb0) _, by simp [Value.ownBlock], by omega⟩
  obtain ⟨c0, c1, c2, c3, c4, c5, c6, c7, c8, c9, c10⟩ := Bx.cells hx0.bx
  rw [hk] at c0
  have E : Fm.put m = Bm.fix 1 5 ++ Bm.fix 4 m.rid ++ Fm.ownB m := by unfold Fm.put; rw [hk, List.append_assoc]; rfl
  rw [ownB_5 hk] at E
  rw [E]
  have HLen : Hid ((Bm.fix 1 5 ++ Bm.fix 4 m.rid).length = 5) := Lib.hid (by rw [List.length_append, Bm.fix_length, Bm.fix_length])
  obtain ⟨xs, HX⟩ : ∃ xs, Hid (Bm.fix 1 5 ++ Bm.fix 4 m.rid = xs) := ⟨_, rfl⟩
  rw [HX.out] at HLen ⊢
  have hxs : xs.length = 5 := HLen.out
  have hrid := HF.ok.rid
  have hwk : IntKind.u64.wrap (5 : Int) = ((5 : Nat) : Int) := by decide
  have hwr : IntKind.u64.wrap (m.rid : Int) = (m.rid : Int) := by rw [IntKind.wrap_u64]; omega
  have HSC := Lib.hid (fun W (h : Boxk W b b m (.slice Ap m.peers.length cp) (.slice Aq m.pairs.length cq)) => Bx.cells h.bx)
  have HKK := Lib.hid hk
  have hcode := HF.ok.code
  have hid := HF.ok.id
  clear H hx0 hb0 E hk
  go_enter Tryd.func17, Tryd.ntmps17
  go_wp2_with fail
  refine wp_region_plan (S := fun W => Boxk W b b m (.slice Ap m.peers.length cp) (.slice Aq m.pairs.length cq)) [(0, true), (1, true), (2, true), (4, true), (5, true), (6, true), (3, false), (7, false), (8, true)] (by kernel_rfl) (by kernel_rfl) rfl (by kernel_rfl) (fun _ _ _ _ _ h => h) HN0.out.drew.box ?_
  clear c0 c1 c2 c3 c4 c5 c6 c7 c8 c9 c10
  iterate 6
    refine along_take (v := ?_) rfl (by rfl) ?_ ?_
    rotate_left
    · intro W hW; obtain ⟨c0, c1, _⟩ := HSC.out W hW; rw [HKK.out] at c0; clear hW; go_simp; try with_reducible rfl
    try simp only [Act.put, List.setIfInBounds_toArray, List.set_cons_zero, List.set_cons_succ]
  refine along_step rfl (fun K hK => ?_)
  go_simp
  refine (HN0.out.drew.rnums 5 1 1 rfl (by omega) (by omega) (by omega) (by simp)).mono ?_
  rintro e w1 ⟨v1, rfl, h1⟩
  have HN1 := Lib.hid h1
  clear h1
  refine hK.out _ _ HN1.out.box ?_
  clear hK K
  try simp only [Act.put, List.setIfInBounds_toArray, List.set_cons_zero, List.set_cons_succ]
  refine along_step rfl (fun K hK => ?_)
  go_simp
  refine (HN1.out.rnums m.rid 4 4 rfl (by omega) (by omega) (by omega) (by simp [Bm.fix_length])).mono ?_
  rintro e w2 ⟨v2, rfl, h2⟩
  rw [List.nil_append, HX.out] at h2
  have HN2 := Lib.hid h2
  clear h2
  refine hK.out _ _ HN2.out.box ?_
  clear hK K
  try simp only [Act.put, List.setIfInBounds_toArray, List.set_cons_zero, List.set_cons_succ]
  refine along_take (v := ?_) rfl (by rfl) ?_ ?_
  rotate_left
  · intro W hW; clear hW; go_simp; try with_reducible rfl
  simp only [Act.put, List.setIfInBounds_toArray, List.set_cons_zero, List.set_cons_succ]
  refine along_done ?_
  obtain ⟨d2_0, d2_1, d2_2, d2_3, d2_4, d2_5, d2_6, d2_7, d2_8, d2_9, d2_10⟩ := Bx.cells HN2.out.box.bx
  rw [HKK.out] at d2_0
  go_wp2_with fail
  refine (HN2.out.rpeer m.pid m.pad HF.ok.pid HF.ok.pad (by omega)).mono ?_
  rintro e w3 ⟨v3, rfl, h3⟩
  have HN3 := Lib.hid h3
  clear h3 d2_0 d2_1 d2_2 d2_3 d2_4 d2_5 d2_6 d2_7 d2_8 d2_9 d2_10
  obtain ⟨d3_0, d3_1, d3_2, d3_3, d3_4, d3_5, d3_6, d3_7, d3_8, d3_9, d3_10⟩ := Bx.cells HN3.out.box.bx
  rw [HKK.out] at d3_0
  go_wp2_with fail
  go_ret
  have ho := HN3.out.own
  try simp only [List.append_assoc] at ho
  exact ⟨_, rfl, by rw [hsb]; exact ho, by rw [hsb]; exact HN3.out.kept.below (fun k hk => by cases hk) (by omega)⟩

set_option maxHeartbeats 1000000 in
theorem rput_7 {w : World} {B : Nat} {m : Ms} {vm : Value} (H : Mv w B m vm) (HF : Few m) (hk : m.kind = 7) :
    Calls Tryd.prog 17 #[vm] w fun e w' => ∃ v, e = .returned v ∧ w'.ownsRow w.heap.size 5 1 v (Fm.put m).length (ints .u8 (Fm.put m)) ∧ Below w.heap.size w w' := by
  obtain ⟨b, vp, vq, w0, rfl, hsb, hal, hsz, hx0, hb0⟩ := boxedk H.all (Nat.le_refl _)
  rw [hsb] at hx0
  obtain ⟨Ap, cp, rfl, _, hp1, hp2, _⟩ := hx0.peers.ex
  obtain ⟨Aq, cq, rfl, _, hq1, hq2, _⟩ := hx0.pairs.ex
  unfold maxLen at hp2 hq2
  have hn16 := HF.peers
  have hn8 := HF.pairs
  have HN0 : Hid (On b b m (.slice Ap m.peers.length cp) (.slice Aq m.pairs.length cq) w (.slice none 0 0) [] (.slice none 0 0) w0) := Lib.hid ⟨World.ownsRow_nil _ _ _ _, hx0, Kept.of_below (by rw [hsb]; exact hb0) _, by simp [Value.ownBlock], by omega⟩
  obtain ⟨c0, c1, c2, c3, c4, c5, c6, c7, c8, c9, c10⟩ := Bx.cells hx0.bx
  rw [hk] at c0
  have E : Fm.put m = Bm.fix 1 7 ++ Bm.fix 4 m.rid ++ Fm.ownB m := by unfold Fm.put; rw [hk, List.append_assoc]; rfl
  rw [ownB_7 hk] at E
  rw [E]
  have HLen : Hid ((Bm.fix 1 7 ++ Bm.fix 4 m.rid).length = 5) := Lib.hid (by rw [List.length_append, Bm.fix_length, Bm.fix_length])
  obtain ⟨xs, HX⟩ : ∃ xs, Hid (Bm.fix 1 7 ++ Bm.fix 4 m.rid = xs) := ⟨_, rfl⟩
  rw [HX.out] at HLen ⊢
  have hxs : xs.length = 5 := HLen.out
  have hrid := HF.ok.rid
  have hwk : IntKind.u64.wrap (7 : Int) = ((7 : Nat) : Int) := by decide
  have hwr : IntKind.u64.wrap (m.rid : Int) = (m.rid : Int) := by rw [IntKind.wrap_u64]; omega
  have HSC := Lib.hid (fun W (h : Boxk W b b m (.slice Ap m.peers.length cp) (.slice Aq m.pairs.length cq)) => Bx.cells h.bx)
  have HKK := Lib.hid hk
  have hcode := HF.ok.code
  have hid := HF.ok.id
  clear H hx0 hb0 E hk
  go_enter Tryd.func17, Tryd.ntmps17
  go_wp2_with fail
  refine wp_region_plan (S := fun W => Boxk W b b m (.slice Ap m.peers.length cp) (.slice Aq m.pairs.length cq)) [(0, true), (1, true), (2, true), (4, true), (5, true), (6, true), (3, false), (7, false), (8, true)] (by kernel_rfl) (by kernel_rfl) rfl (by kernel_rfl) (fun _ _ _ _ _ h => h) HN0.out.drew.box ?_
  clear c0 c1 c2 c3 c4 c5 c6 c7 c8 c9 c10
  iterate 6
    refine along_take (v := ?_) rfl (by rfl) ?_ ?_
    rotate_left
    · intro W hW; obtain ⟨c0, c1, _⟩ := HSC.out W hW; rw [HKK.out] at c0; clear hW; go_simp; try with_reducible rfl
    try simp only [Act.put, List.setIfInBounds_toArray, List.set_cons_zero, List.set_cons_succ]
  refine along_step rfl (fun K hK => ?_)
  go_simp
  refine (HN0.out.drew.rnums 7 1 1 rfl (by omega) (by omega) (by omega) (by simp)).mono ?_
  rintro e w1 ⟨v1, rfl, h1⟩
  have HN1 := Lib.hid h1
  clear h1
  refine hK.out _ _ HN1.out.box ?_
  clear hK K
  try simp only [Act.put, List.setIfInBounds_toArray, List.set_cons_zero, List.set_cons_succ]
  refine along_step rfl (fun K hK => ?_)
  go_simp
  refine (HN1.out.rnums m.rid 4 4 rfl (by omega) (by omega) (by omega) (by simp [Bm.fix_length])).mono ?_
  rintro e w2 ⟨v2, rfl, h2⟩
  rw [List.nil_append, HX.out] at h2
  have HN2 := Lib.hid h2
  clear h2
  refine hK.out _ _ HN2.out.box ?_
  clear hK K
  try simp only [Act.put, List.setIfInBounds_toArray, List.set_cons_zero, List.set_cons_succ]
  refine along_take (v := ?_) rfl (by rfl) ?_ ?_
  rotate_left
  · intro W hW; clear hW; go_simp; try with_reducible rfl
  simp only [Act.put, List.setIfInBounds_toArray, List.set_cons_zero, List.set_cons_succ]
  refine along_done ?_
  obtain ⟨d2_0, d2_1, d2_2, d2_3, d2_4, d2_5, d2_6, d2_7, d2_8, d2_9, d2_10⟩ := Bx.cells HN2.out.box.bx
  rw [HKK.out] at d2_0
  go_wp2_with fail
  refine (HN2.out.rtext m.key 1 1 rfl (by omega) (by omega) HF.key (by omega)).mono ?_
  rintro e w3 ⟨v3, rfl, h3⟩
  have HN3 := Lib.hid h3
  clear h3 d2_0 d2_1 d2_2 d2_3 d2_4 d2_5 d2_6 d2_7 d2_8 d2_9 d2_10
  obtain ⟨d3_0, d3_1, d3_2, d3_3, d3_4, d3_5, d3_6, d3_7, d3_8, d3_9, d3_10⟩ := Bx.cells HN3.out.box.bx
  rw [HKK.out] at d3_0
  go_wp2_with fail
  refine (HN3.out.rtext m.val 2 2 rfl (by omega) (by omega) HF.val (by simp only [List.length_append, Fm.hasB, List.length_cons, List.length_nil, peerB_length, strB_length, Bm.fix_length]; have := HF.key; omega)).mono ?_
  rintro e w4 ⟨v4, rfl, h4⟩
  have HN4 := Lib.hid h4
  clear h4 d3_0 d3_1 d3_2 d3_3 d3_4 d3_5 d3_6 d3_7 d3_8 d3_9 d3_10
  obtain ⟨d4_0, d4_1, d4_2, d4_3, d4_4, d4_5, d4_6, d4_7, d4_8, d4_9, d4_10⟩ := Bx.cells HN4.out.box.bx
  rw [HKK.out] at d4_0
  go_wp2_with fail
  go_ret
  have ho := HN4.out.own
  try simp only [List.append_assoc] at ho
  exact ⟨_, rfl, by rw [hsb]; simp only [List.append_assoc]; exact ho, by rw [hsb]; exact HN4.out.kept.below (fun k hk => by cases hk) (by omega)⟩

set_option maxHeartbeats 1000000 in
theorem rput_8 {w : World} {B : Nat} {m : Ms} {vm : Value} (H : Mv w B m vm) (HF : Few m) (hk : m.kind = 8) :
    Calls Tryd.prog 17 #[vm] w fun e w' => ∃ v, e = .returned v ∧ w'.ownsRow w.heap.size 5 1 v (Fm.put m).length (ints .u8 (Fm.put m)) ∧ Below w.heap.size w w' := by
  obtain ⟨b, vp, vq, w0, rfl, hsb, hal, hsz, hx0, hb0⟩ := boxedk H.all (Nat.le_refl _)
  rw [hsb] at hx0
  obtain ⟨Ap, cp, rfl, _, hp1, hp2, _⟩ := hx0.peers.ex
  obtain ⟨Aq, cq, rfl, _, hq1, hq2, _⟩ := hx0.pairs.ex
  unfold maxLen at hp2 hq2
  have hn16 := HF.peers
  have hn8 := HF.pairs
  have HN0 : Hid (On b b m (.slice Ap m.peers.length cp) (.slice Aq m.pairs.length cq) w (.slice none 0 0) [] (.slice none 0 0) w0) := Lib.hid ⟨World.ownsRow_nil _ _ _ _, hx0, Kept.of_below (by rw [hsb]; exact hb0) _, by simp [Value.ownBlock], by omega⟩
  obtain ⟨c0, c1, c2, c3, c4, c5, c6, c7, c8, c9, c10⟩ := Bx.cells hx0.bx
  rw [hk] at c0
  have E : Fm.put m = Bm.fix 1 8 ++ Bm.fix 4 m.rid ++ Fm.ownB m := by unfold Fm.put; rw [hk, List.append_assoc]; rfl
  rw [ownB_8 hk] at E
  rw [E]
  have HLen : Hid ((Bm.fix 1 8 ++ Bm.fix 4 m.rid).length = 5) := Lib.hid (by rw [List.length_append, Bm.fix_length, Bm.fix_length])
  obtain ⟨xs, HX⟩ : ∃ xs, Hid (Bm.fix 1 8 ++ Bm.fix 4 m.rid = xs) := ⟨_, rfl⟩
  rw [HX.out] at HLen ⊢
  have hxs : xs.length = 5 := HLen.out
  have hrid := HF.ok.rid
  have hwk : IntKind.u64.wrap (8 : Int) = ((8 : Nat) : Int) := by decide
  have hwr : IntKind.u64.wrap (m.rid : Int) = (m.rid : Int) := by rw [IntKind.wrap_u64]; omega
  have HSC := Lib.hid (fun W (h : Boxk W b b m (.slice Ap m.peers.length cp) (.slice Aq m.pairs.length cq)) => Bx.cells h.bx)
  have HKK := Lib.hid hk
  have hcode := HF.ok.code
  have hid := HF.ok.id
  clear H hx0 hb0 E hk
  go_enter Tryd.func17, Tryd.ntmps17
  go_wp2_with fail
  refine wp_region_plan (S := fun W => Boxk W b b m (.slice Ap m.peers.length cp) (.slice Aq m.pairs.length cq)) [(0, true), (1, true), (2, true), (4, true), (5, true), (6, true), (3, false), (7, false), (8, true)] (by kernel_rfl) (by kernel_rfl) rfl (by kernel_rfl) (fun _ _ _ _ _ h => h) HN0.out.drew.box ?_
  clear c0 c1 c2 c3 c4 c5 c6 c7 c8 c9 c10
  iterate 6
    refine along_take (v := ?_) rfl (by rfl) ?_ ?_
    rotate_left
    · intro W hW; obtain ⟨c0, c1, _⟩ := HSC.out W hW; rw [HKK.out] at c0; clear hW; go_simp; try with_reducible rfl
    try simp only [Act.put, List.setIfInBounds_toArray, List.set_cons_zero, List.set_cons_succ]
  refine along_step rfl (fun K hK => ?_)
  go_simp
  refine (HN0.out.drew.rnums 8 1 1 rfl (by omega) (by omega) (by omega) (by simp)).mono ?_
  rintro e w1 ⟨v1, rfl, h1⟩
  have HN1 := Lib.hid h1
  clear h1
  refine hK.out _ _ HN1.out.box ?_
  clear hK K
  try simp only [Act.put, List.setIfInBounds_toArray, List.set_cons_zero, List.set_cons_succ]
  refine along_step rfl (fun K hK => ?_)
  go_simp
  refine (HN1.out.rnums m.rid 4 4 rfl (by omega) (by omega) (by omega) (by simp [Bm.fix_length])).mono ?_
  rintro e w2 ⟨v2, rfl, h2⟩
  rw [List.nil_append, HX.out] at h2
  have HN2 := Lib.hid h2
  clear h2
  refine hK.out _ _ HN2.out.box ?_
  clear hK K
  try simp only [Act.put, List.setIfInBounds_toArray, List.set_cons_zero, List.set_cons_succ]
  refine along_take (v := ?_) rfl (by rfl) ?_ ?_
  rotate_left
  · intro W hW; clear hW; go_simp; try with_reducible rfl
  simp only [Act.put, List.setIfInBounds_toArray, List.set_cons_zero, List.set_cons_succ]
  refine along_done ?_
  obtain ⟨d2_0, d2_1, d2_2, d2_3, d2_4, d2_5, d2_6, d2_7, d2_8, d2_9, d2_10⟩ := Bx.cells HN2.out.box.bx
  rw [HKK.out] at d2_0
  go_wp2_with fail
  refine (HN2.out.rtext m.key 1 1 rfl (by omega) (by omega) HF.key (by omega)).mono ?_
  rintro e w3 ⟨v3, rfl, h3⟩
  have HN3 := Lib.hid h3
  clear h3 d2_0 d2_1 d2_2 d2_3 d2_4 d2_5 d2_6 d2_7 d2_8 d2_9 d2_10
  obtain ⟨d3_0, d3_1, d3_2, d3_3, d3_4, d3_5, d3_6, d3_7, d3_8, d3_9, d3_10⟩ := Bx.cells HN3.out.box.bx
  rw [HKK.out] at d3_0
  go_wp2_with fail
  go_ret
  have ho := HN3.out.own
  try simp only [List.append_assoc] at ho
  exact ⟨_, rfl, by rw [hsb]; exact ho, by rw [hsb]; exact HN3.out.kept.below (fun k hk => by cases hk) (by omega)⟩

set_option maxHeartbeats 1000000 in
theorem rput_10 {w : World} {B : Nat} {m : Ms} {vm : Value} (H : Mv w B m vm) (HF : Few m) (hk : m.kind = 10) :
    Calls Tryd.prog 17 #[vm] w fun e w' => ∃ v, e = .returned v ∧ w'.ownsRow w.heap.size 5 1 v (Fm.put m).length (ints .u8 (Fm.put m)) ∧ Below w.heap.size w w' := by
  obtain ⟨b, vp, vq, w0, rfl, hsb, hal, hsz, hx0, hb0⟩ := boxedk H.all (Nat.le_refl _)
  rw [hsb] at hx0
  obtain ⟨Ap, cp, rfl, _, hp1, hp2, _⟩ := hx0.peers.ex
  obtain ⟨Aq, cq, rfl, _, hq1, hq2, _⟩ := hx0.pairs.ex
  unfold maxLen at hp2 hq2
  have hn16 := HF.peers
  have hn8 := HF.pairs
  have HN0 : Hid (On b b m (.slice Ap m.peers.length cp) (.slice Aq m.pairs.length cq) w (.slice none 0 0) [] (.slice none 0 0) w0) := Lib.hid ⟨World.ownsRow_nil _ _ _ _, hx0, Kept.of_below (by rw [hsb]; exact hb0) _, by simp [Value.ownBlock], by omega⟩
  obtain ⟨c0, c1, c2, c3, c4, c5, c6, c7, c8, c9, c10⟩ := Bx.cells hx0.bx
  rw [hk] at c0
  have E : Fm.put m = Bm.fix 1 10 ++ Bm.fix 4 m.rid ++ Fm.ownB m := by unfold Fm.put; rw [hk, List.append_assoc]; rfl
  rw [ownB_10 hk] at E
  rw [E]
  have HLen : Hid ((Bm.fix 1 10 ++ Bm.fix 4 m.rid).length = 5) := Lib.hid (by rw [List.length_append, Bm.fix_length, Bm.fix_length])
  obtain ⟨xs, HX⟩ : ∃ xs, Hid (Bm.fix 1 10 ++ Bm.fix 4 m.rid = xs) := ⟨_, rfl⟩
  rw [HX.out] at HLen ⊢
  have hxs : xs.length = 5 := HLen.out
  have hrid := HF.ok.rid
  have hwk : IntKind.u64.wrap (10 : Int) = ((10 : Nat) : Int) := by decide
  have hwr : IntKind.u64.wrap (m.rid : Int) = (m.rid : Int) := by rw [IntKind.wrap_u64]; omega
  have HSC := Lib.hid (fun W (h : Boxk W b b m (.slice Ap m.peers.length cp) (.slice Aq m.pairs.length cq)) => Bx.cells h.bx)
  have HKK := Lib.hid hk
  have hcode := HF.ok.code
  have hid := HF.ok.id
  clear H hx0 hb0 E hk
  go_enter Tryd.func17, Tryd.ntmps17
  go_wp2_with fail
  refine wp_region_plan (S := fun W => Boxk W b b m (.slice Ap m.peers.length cp) (.slice Aq m.pairs.length cq)) [(0, true), (1, true), (2, true), (4, true), (5, true), (6, true), (3, false), (7, false), (8, true)] (by kernel_rfl) (by kernel_rfl) rfl (by kernel_rfl) (fun _ _ _ _ _ h => h) HN0.out.drew.box ?_
  clear c0 c1 c2 c3 c4 c5 c6 c7 c8 c9 c10
  iterate 6
    refine along_take (v := ?_) rfl (by rfl) ?_ ?_
    rotate_left
    · intro W hW; obtain ⟨c0, c1, _⟩ := HSC.out W hW; rw [HKK.out] at c0; clear hW; go_simp; try with_reducible rfl
    try simp only [Act.put, List.setIfInBounds_toArray, List.set_cons_zero, List.set_cons_succ]
  refine along_step rfl (fun K hK => ?_)
  go_simp
  refine (HN0.out.drew.rnums 10 1 1 rfl (by omega) (by omega) (by omega) (by simp)).mono ?_
  rintro e w1 ⟨v1, rfl, h1⟩
  have HN1 := Lib.hid h1
  clear h1
  refine hK.out _ _ HN1.out.box ?_
  clear hK K
  try simp only [Act.put, List.setIfInBounds_toArray, List.set_cons_zero, List.set_cons_succ]
  refine along_step rfl (fun K hK => ?_)
  go_simp
  refine (HN1.out.rnums m.rid 4 4 rfl (by omega) (by omega) (by omega) (by simp [Bm.fix_length])).mono ?_
  rintro e w2 ⟨v2, rfl, h2⟩
  rw [List.nil_append, HX.out] at h2
  have HN2 := Lib.hid h2
  clear h2
  refine hK.out _ _ HN2.out.box ?_
  clear hK K
  try simp only [Act.put, List.setIfInBounds_toArray, List.set_cons_zero, List.set_cons_succ]
  refine along_take (v := ?_) rfl (by rfl) ?_ ?_
  rotate_left
  · intro W hW; clear hW; go_simp; try with_reducible rfl
  simp only [Act.put, List.setIfInBounds_toArray, List.set_cons_zero, List.set_cons_succ]
  refine along_done ?_
  obtain ⟨d2_0, d2_1, d2_2, d2_3, d2_4, d2_5, d2_6, d2_7, d2_8, d2_9, d2_10⟩ := Bx.cells HN2.out.box.bx
  rw [HKK.out] at d2_0
  go_wp2_with fail
  refine (HN2.out.rhas (by omega)).mono ?_
  rintro e w3 ⟨v3, rfl, h3⟩
  have HN3 := Lib.hid h3
  clear h3 d2_0 d2_1 d2_2 d2_3 d2_4 d2_5 d2_6 d2_7 d2_8 d2_9 d2_10
  obtain ⟨d3_0, d3_1, d3_2, d3_3, d3_4, d3_5, d3_6, d3_7, d3_8, d3_9, d3_10⟩ := Bx.cells HN3.out.box.bx
  rw [HKK.out] at d3_0
  obtain ⟨ys, HY⟩ : ∃ ys, Hid (xs ++ Fm.hasB m.has = ys) := ⟨_, rfl⟩
  have hys : ys.length ≤ 10000 := by rw [← HY.out]; simp only [List.length_append, Fm.hasB, List.length_cons, List.length_nil, peerB_length, strB_length, Bm.fix_length]; have := HF.key; omega
  rw [HY.out] at HN3
  go_wp2_with (at_builtin; refine wpList_append1k byteT _ _ rfl rfl b _ ys.length (ints .u8 ys) rfl rfl rfl HN3.out.own (by omega) HN3.out.size ?_; intro v7 w7 ho7 hk7; have HN7 := Lib.hid (HN3.out.push ho7 hk7); clear ho7 hk7)
  clear d3_0 d3_1 d3_2 d3_3 d3_4 d3_5 d3_6 d3_7 d3_8 d3_9 d3_10
  obtain ⟨zs, HZ⟩ : ∃ zs, Hid (ys ++ [m.pairs.length] = zs) := ⟨_, rfl⟩
  have hzs : zs.length ≤ 10001 := by rw [← HZ.out, List.length_append, List.length_cons, List.length_nil]; omega
  rw [HZ.out] at HN7
  go_loopw [3, 5] (fun vb vi wr => ∃ (j : Nat), j ≤ m.pairs.length ∧ vi = .int .i64 j ∧ Hid (On b b m (.slice Ap m.peers.length cp) (.slice Aq m.pairs.length cq) w (.slice none 0 0) (zs ++ (m.pairs.take j).flatMap Fm.pairB) vb wr)) (fun _ vi _ => m.pairs.length - (intOf vi).toNat)
  case atStart => exact ⟨0, by omega, rfl, by simpa using HN7⟩
  case round =>
    obtain ⟨j, hj, rfl, HR⟩ := hrel
    obtain ⟨g0, g1, g2, g3, g4, g5, g6, g7, g8, g9, g10⟩ := Bx.cells HR.out.box.bx
    by_cases hlt : j < m.pairs.length
    · obtain ⟨b1, o1, rfl⟩ := HR.out.box.someQ (by omega)
      have hlen : (zs ++ (m.pairs.take j).flatMap Fm.pairB).length ≤ 1000000 := by have := flat_pairs (m.pairs.take j) (fun p hp => HF.pair p (List.mem_of_mem_take hp)); rw [List.length_take] at this; rw [List.length_append]; omega
      have OK := HF.pair _ (List.getElem_mem hlt)
      have HNx := Lib.hid (flat_next Fm.pairB m.pairs hlt _ rfl)
      have HCQ := Lib.hid (fun W (h : Boxk W b b m (.slice Ap m.peers.length cp) (.slice (some ⟨b1, o1, none⟩) m.pairs.length cq)) => h.cellQ hlt)
      obtain ⟨p, hp⟩ : ∃ p : ByteArray × ByteArray, Hid (m.pairs[j] = p) := ⟨m.pairs[j], Lib.hid rfl⟩
      obtain ⟨p1, p2⟩ := p
      rw [hp.out] at OK HNx HCQ
      simp only at OK HCQ
      obtain ⟨OK1, OK2⟩ := OK
      have P := Lib.hid (HR.out.drew.rtext p1 1 1 rfl (by omega) (by omega) OK1 (by omega))
      go_wp2_with fail
      clear g0 g1 g2 g3 g4 g5 g6 g7 g8 g9 g10
      refine wp_region_plan (S := fun W => Boxk W b b m (.slice Ap m.peers.length cp) (.slice (some ⟨b1, o1, none⟩) m.pairs.length cq)) [(0, true), (1, true), (2, true), (3, true), (4, true), (5, true), (6, true), (8, true), (9, true), (10, true), (11, true), (12, true), (13, true), (7, false), (14, false), (15, true)] (by kernel_rfl) (by kernel_rfl) rfl (by kernel_rfl) (fun _ _ _ _ _ h => h) HR.out.drew.box ?_
      iterate 13
        refine along_take (v := ?_) rfl (by rfl) ?_ ?_
        rotate_left
        · intro W hW; have hc := HSC.out W hW; obtain ⟨c0, c1, c2, c3, c4, c5, c6, c7, c8, c9, c10⟩ := hc; obtain ⟨d0, d1⟩ := HCQ.out W hW; clear hW; go_simp; try with_reducible rfl
        try simp only [Act.put, List.setIfInBounds_toArray, List.set_cons_zero, List.set_cons_succ]
      refine along_step rfl (fun K hK => ?_)
      go_simp
      refine (P.out).mono ?_
      rintro e w8 ⟨v8, rfl, h8⟩
      have HN8 := Lib.hid h8
      clear h8
      refine hK.out _ _ HN8.out.box ?_
      clear hK K
      try simp only [Act.put, List.setIfInBounds_toArray, List.set_cons_zero, List.set_cons_succ]
      refine along_step rfl (fun K hK => ?_)
      go_simp
      refine (HN8.out.rtext p2 2 2 rfl (by omega) (by omega) OK2 (by rw [List.length_append, strB_length]; omega)).mono ?_
      rintro e w9 ⟨v9, rfl, h9⟩
      rw [List.append_assoc, List.append_assoc, ← show Fm.pairB (p1, p2) = Fm.strB 1 p1 ++ Fm.strB 2 p2 from rfl, ← HNx.out] at h9
      have HN9 := Lib.hid h9
      clear h9
      refine hK.out _ _ HN9.out.box ?_
      clear hK K
      try simp only [Act.put, List.setIfInBounds_toArray, List.set_cons_zero, List.set_cons_succ]
      refine along_take (v := ?_) rfl (by rfl) ?_ ?_
      rotate_left
      · intro W hW; clear hW; go_simp; try with_reducible rfl
      simp only [Act.put, List.setIfInBounds_toArray, List.set_cons_zero, List.set_cons_succ]
      refine along_done ?_
      go_wp2_with fail
      go_roundw
      case rel => exact ⟨j + 1, by omega, by go_num, HN9⟩
      case measure => simp [intOf]; omega
    · have hjn : j = m.pairs.length := by omega
      rw [HKK.out] at g0
      go_wp2_with fail
      go_ret
      have ho := HR.out.own
      rw [hjn, List.take_length, ← HZ.out, ← HY.out, ← fix1 (show m.pairs.length < 256 by omega)] at ho
      simp only [List.append_assoc] at ho
      refine ⟨_, rfl, ?_, by rw [hsb]; exact HR.out.kept.below (fun k hk => by cases hk) (by omega)⟩
      rw [hsb]
      unfold Fm.pairsB
      simp only [List.append_assoc]
      exact ho

set_option maxHeartbeats 1000000 in
theorem rput_12 {w : World} {B : Nat} {m : Ms} {vm : Value} (H : Mv w B m vm) (HF : Few m) (hk : m.kind = 12) :
    Calls Tryd.prog 17 #[vm] w fun e w' => ∃ v, e = .returned v ∧ w'.ownsRow w.heap.size 5 1 v (Fm.put m).length (ints .u8 (Fm.put m)) ∧ Below w.heap.size w w' := by
  obtain ⟨b, vp, vq, w0, rfl, hsb, hal, hsz, hx0, hb0⟩ := boxedk H.all (Nat.le_refl _)
  rw [hsb] at hx0
  obtain ⟨Ap, cp, rfl, _, hp1, hp2, _⟩ := hx0.peers.ex
  obtain ⟨Aq, cq, rfl, _, hq1, hq2, _⟩ := hx0.pairs.ex
  unfold maxLen at hp2 hq2
  have hn16 := HF.peers
  have hn8 := HF.pairs
  have HN0 : Hid (On b b m (.slice Ap m.peers.length cp) (.slice Aq m.pairs.length cq) w (.slice none 0 0) [] (.slice none 0 0) w0) := Lib.hid ⟨World.ownsRow_nil _ _ _ _, hx0, Kept.of_below (by rw [hsb]; exact hb0) _, by simp [Value.ownBlock], by omega⟩
  obtain ⟨c0, c1, c2, c3, c4, c5, c6, c7, c8, c9, c10⟩ := Bx.cells hx0.bx
  rw [hk] at c0
  have E : Fm.put m = Bm.fix 1 12 ++ Bm.fix 4 m.rid ++ Fm.ownB m := by unfold Fm.put; rw [hk, List.append_assoc]; rfl
  rw [ownB_12 hk] at E
  rw [E]
  have HLen : Hid ((Bm.fix 1 12 ++ Bm.fix 4 m.rid).length = 5) := Lib.hid (by rw [List.length_append, Bm.fix_length, Bm.fix_length])
  obtain ⟨xs, HX⟩ : ∃ xs, Hid (Bm.fix 1 12 ++ Bm.fix 4 m.rid = xs) := ⟨_, rfl⟩
  rw [HX.out] at HLen ⊢
  have hxs : xs.length = 5 := HLen.out
  have hrid := HF.ok.rid
  have hwk : IntKind.u64.wrap (12 : Int) = ((12 : Nat) : Int) := by decide
  have hwr : IntKind.u64.wrap (m.rid : Int) = (m.rid : Int) := by rw [IntKind.wrap_u64]; omega
  have HSC := Lib.hid (fun W (h : Boxk W b b m (.slice Ap m.peers.length cp) (.slice Aq m.pairs.length cq)) => Bx.cells h.bx)
  have HKK := Lib.hid hk
  have hcode := HF.ok.code
  have hid := HF.ok.id
  clear H hx0 hb0 E hk
  go_enter Tryd.func17, Tryd.ntmps17
  go_wp2_with fail
  refine wp_region_plan (S := fun W => Boxk W b b m (.slice Ap m.peers.length cp) (.slice Aq m.pairs.length cq)) [(0, true), (1, true), (2, true), (4, true), (5, true), (6, true), (3, false), (7, false), (8, true)] (by kernel_rfl) (by kernel_rfl) rfl (by kernel_rfl) (fun _ _ _ _ _ h => h) HN0.out.drew.box ?_
  clear c0 c1 c2 c3 c4 c5 c6 c7 c8 c9 c10
  iterate 6
    refine along_take (v := ?_) rfl (by rfl) ?_ ?_
    rotate_left
    · intro W hW; obtain ⟨c0, c1, _⟩ := HSC.out W hW; rw [HKK.out] at c0; clear hW; go_simp; try with_reducible rfl
    try simp only [Act.put, List.setIfInBounds_toArray, List.set_cons_zero, List.set_cons_succ]
  refine along_step rfl (fun K hK => ?_)
  go_simp
  refine (HN0.out.drew.rnums 12 1 1 rfl (by omega) (by omega) (by omega) (by simp)).mono ?_
  rintro e w1 ⟨v1, rfl, h1⟩
  have HN1 := Lib.hid h1
  clear h1
  refine hK.out _ _ HN1.out.box ?_
  clear hK K
  try simp only [Act.put, List.setIfInBounds_toArray, List.set_cons_zero, List.set_cons_succ]
  refine along_step rfl (fun K hK => ?_)
  go_simp
  refine (HN1.out.rnums m.rid 4 4 rfl (by omega) (by omega) (by omega) (by simp [Bm.fix_length])).mono ?_
  rintro e w2 ⟨v2, rfl, h2⟩
  rw [List.nil_append, HX.out] at h2
  have HN2 := Lib.hid h2
  clear h2
  refine hK.out _ _ HN2.out.box ?_
  clear hK K
  try simp only [Act.put, List.setIfInBounds_toArray, List.set_cons_zero, List.set_cons_succ]
  refine along_take (v := ?_) rfl (by rfl) ?_ ?_
  rotate_left
  · intro W hW; clear hW; go_simp; try with_reducible rfl
  simp only [Act.put, List.setIfInBounds_toArray, List.set_cons_zero, List.set_cons_succ]
  refine along_done ?_
  obtain ⟨d2_0, d2_1, d2_2, d2_3, d2_4, d2_5, d2_6, d2_7, d2_8, d2_9, d2_10⟩ := Bx.cells HN2.out.box.bx
  rw [HKK.out] at d2_0
  go_wp2_with (at_builtin; refine wpList_append1k byteT _ _ rfl rfl b _ xs.length (ints .u8 xs) rfl rfl rfl HN2.out.own (by omega) HN2.out.size ?_; intro v3 w3 ho3 hk3; have HN3 := Lib.hid (HN2.out.push ho3 hk3); clear ho3 hk3; obtain ⟨q0, q1, q2, q3, q4, q5, q6, q7, q8, q9, q10⟩ := Bx.cells HN3.out.box.bx; rw [HKK.out] at q0)
  go_ret
  exact ⟨_, rfl, by rw [hsb, fix1 hcode]; exact HN3.out.own, by rw [hsb]; exact HN3.out.kept.below (fun k hk => by cases hk) (by omega)⟩

set_option maxHeartbeats 1000000 in
theorem rput_4t {w : World} {B : Nat} {m : Ms} {vm : Value} (H : Mv w B m vm) (HF : Few m) (hk : m.kind = 4) (hh : m.has = true) :
    Calls Tryd.prog 17 #[vm] w fun e w' => ∃ v, e = .returned v ∧ w'.ownsRow w.heap.size 5 1 v (Fm.put m).length (ints .u8 (Fm.put m)) ∧ Below w.heap.size w w' := by
  obtain ⟨b, vp, vq, w0, rfl, hsb, hal, hsz, hx0, hb0⟩ := boxedk H.all (Nat.le_refl _)
  rw [hsb] at hx0
  obtain ⟨Ap, cp, rfl, _, hp1, hp2, _⟩ := hx0.peers.ex
  obtain ⟨Aq, cq, rfl, _, hq1, hq2, _⟩ := hx0.pairs.ex
  unfold maxLen at hp2 hq2
  have hn16 := HF.peers
  have hn8 := HF.pairs
  have HN0 : Hid (On b b m (.slice Ap m.peers.length cp) (.slice Aq m.pairs.length cq) w (.slice none 0 0) [] (.slice none 0 0) w0) := Lib.hid ⟨World.ownsRow_nil _ _ _ _, hx0, Kept.of_below (by rw [hsb]; exact hb0) _, by simp [Value.ownBlock], by omega⟩
  obtain ⟨c0, c1, c2, c3, c4, c5, c6, c7, c8, c9, c10⟩ := Bx.cells hx0.bx
  rw [hk] at c0
  have E : Fm.put m = Bm.fix 1 4 ++ Bm.fix 4 m.rid ++ Fm.ownB m := by unfold Fm.put; rw [hk, List.append_assoc]; rfl
  rw [ownB_4t hk hh] at E
  rw [E]
  have HLen : Hid ((Bm.fix 1 4 ++ Bm.fix 4 m.rid).length = 5) := Lib.hid (by rw [List.length_append, Bm.fix_length, Bm.fix_length])
  obtain ⟨xs, HX⟩ : ∃ xs, Hid (Bm.fix 1 4 ++ Bm.fix 4 m.rid = xs) := ⟨_, rfl⟩
  rw [HX.out] at HLen ⊢
  have hxs : xs.length = 5 := HLen.out
  have hrid := HF.ok.rid
  have hwk : IntKind.u64.wrap (4 : Int) = ((4 : Nat) : Int) := by decide
  have hwr : IntKind.u64.wrap (m.rid : Int) = (m.rid : Int) := by rw [IntKind.wrap_u64]; omega
  have HSC := Lib.hid (fun W (h : Boxk W b b m (.slice Ap m.peers.length cp) (.slice Aq m.pairs.length cq)) => Bx.cells h.bx)
  have HKK := Lib.hid hk
  have hcode := HF.ok.code
  have hid := HF.ok.id
  have HH := Lib.hid hh
  rw [hh] at c3
  clear hh
  clear H hx0 hb0 E hk
  go_enter Tryd.func17, Tryd.ntmps17
  go_wp2_with fail
  refine wp_region_plan (S := fun W => Boxk W b b m (.slice Ap m.peers.length cp) (.slice Aq m.pairs.length cq)) [(0, true), (1, true), (2, true), (4, true), (5, true), (6, true), (3, false), (7, false), (8, true)] (by kernel_rfl) (by kernel_rfl) rfl (by kernel_rfl) (fun _ _ _ _ _ h => h) HN0.out.drew.box ?_
  clear c0 c1 c2 c3 c4 c5 c6 c7 c8 c9 c10
  iterate 6
    refine along_take (v := ?_) rfl (by rfl) ?_ ?_
    rotate_left
    · intro W hW; obtain ⟨c0, c1, _⟩ := HSC.out W hW; rw [HKK.out] at c0; clear hW; go_simp; try with_reducible rfl
    try simp only [Act.put, List.setIfInBounds_toArray, List.set_cons_zero, List.set_cons_succ]
  refine along_step rfl (fun K hK => ?_)
  go_simp
  refine (HN0.out.drew.rnums 4 1 1 rfl (by omega) (by omega) (by omega) (by simp)).mono ?_
  rintro e w1 ⟨v1, rfl, h1⟩
  have HN1 := Lib.hid h1
  clear h1
  refine hK.out _ _ HN1.out.box ?_
  clear hK K
  try simp only [Act.put, List.setIfInBounds_toArray, List.set_cons_zero, List.set_cons_succ]
  refine along_step rfl (fun K hK => ?_)
  go_simp
  refine (HN1.out.rnums m.rid 4 4 rfl (by omega) (by omega) (by omega) (by simp [Bm.fix_length])).mono ?_
  rintro e w2 ⟨v2, rfl, h2⟩
  rw [List.nil_append, HX.out] at h2
  have HN2 := Lib.hid h2
  clear h2
  refine hK.out _ _ HN2.out.box ?_
  clear hK K
  try simp only [Act.put, List.setIfInBounds_toArray, List.set_cons_zero, List.set_cons_succ]
  refine along_take (v := ?_) rfl (by rfl) ?_ ?_
  rotate_left
  · intro W hW; clear hW; go_simp; try with_reducible rfl
  simp only [Act.put, List.setIfInBounds_toArray, List.set_cons_zero, List.set_cons_succ]
  refine along_done ?_
  obtain ⟨d2_0, d2_1, d2_2, d2_3, d2_4, d2_5, d2_6, d2_7, d2_8, d2_9, d2_10⟩ := Bx.cells HN2.out.box.bx
  rw [HKK.out] at d2_0
  rw [HH.out] at d2_3
  go_wp2_with fail
  have C0 := Lib.hid (HN2.out.rhas (by omega))
  rw [HH.out] at C0
  refine (C0.out).mono ?_
  clear C0
  rintro e w3 ⟨v3, rfl, h3⟩
  rw [← HH.out] at h3
  have HN3 := Lib.hid h3
  clear h3 d2_0 d2_1 d2_2 d2_3 d2_4 d2_5 d2_6 d2_7 d2_8 d2_9 d2_10
  obtain ⟨d3_0, d3_1, d3_2, d3_3, d3_4, d3_5, d3_6, d3_7, d3_8, d3_9, d3_10⟩ := Bx.cells HN3.out.box.bx
  rw [HKK.out] at d3_0
  rw [HH.out] at d3_3
  go_wp2_with fail
  refine (HN3.out.rpeer m.pid m.pad HF.ok.pid HF.ok.pad (by simp only [List.length_append, Fm.hasB, List.length_cons, List.length_nil, peerB_length, strB_length, Bm.fix_length]; have := HF.key; omega)).mono ?_
  rintro e w4 ⟨v4, rfl, h4⟩
  have HN4 := Lib.hid h4
  clear h4 d3_0 d3_1 d3_2 d3_3 d3_4 d3_5 d3_6 d3_7 d3_8 d3_9 d3_10
  obtain ⟨d4_0, d4_1, d4_2, d4_3, d4_4, d4_5, d4_6, d4_7, d4_8, d4_9, d4_10⟩ := Bx.cells HN4.out.box.bx
  rw [HKK.out] at d4_0
  rw [HH.out] at d4_3
  obtain ⟨ys, HY⟩ : ∃ ys, Hid (xs ++ Fm.hasB m.has ++ Fm.peerB (m.pid, m.pad) = ys) := ⟨_, rfl⟩
  have hys : ys.length ≤ 10000 := by rw [← HY.out]; simp only [List.length_append, Fm.hasB, List.length_cons, List.length_nil, peerB_length, strB_length, Bm.fix_length]; have := HF.key; omega
  rw [HY.out] at HN4
  go_wp2_with (at_builtin; refine wpList_append1k byteT _ _ rfl rfl b _ ys.length (ints .u8 ys) rfl rfl rfl HN4.out.own (by omega) HN4.out.size ?_; intro v7 w7 ho7 hk7; have HN7 := Lib.hid (HN4.out.push ho7 hk7); clear ho7 hk7)
  clear d4_0 d4_1 d4_2 d4_3 d4_4 d4_5 d4_6 d4_7 d4_8 d4_9 d4_10
  obtain ⟨zs, HZ⟩ : ∃ zs, Hid (ys ++ [m.peers.length] = zs) := ⟨_, rfl⟩
  have hzs : zs.length ≤ 10001 := by rw [← HZ.out, List.length_append, List.length_cons, List.length_nil]; omega
  rw [HZ.out] at HN7
  go_loopw [3, 4] (fun vb vi wr => ∃ (j : Nat), j ≤ m.peers.length ∧ vi = .int .i64 j ∧ Hid (On b b m (.slice Ap m.peers.length cp) (.slice Aq m.pairs.length cq) w (.slice none 0 0) (zs ++ (m.peers.take j).flatMap Fm.peerB) vb wr)) (fun _ vi _ => m.peers.length - (intOf vi).toNat)
  case atStart => exact ⟨0, by omega, rfl, by simpa using HN7⟩
  case round =>
    obtain ⟨j, hj, rfl, HR⟩ := hrel
    obtain ⟨g0, g1, g2, g3, g4, g5, g6, g7, g8, g9, g10⟩ := Bx.cells HR.out.box.bx
    by_cases hlt : j < m.peers.length
    · obtain ⟨b1, o1, rfl⟩ := HR.out.box.someP (by omega)
      obtain ⟨d0, d1⟩ := HR.out.box.cellP hlt
      have OK := HF.ok.peers _ (List.getElem_mem hlt)
      have hlen : (zs ++ (m.peers.take j).flatMap Fm.peerB).length ≤ 1000000 := by rw [List.length_append, flat_peers, List.length_take]; omega
      have HNx := Lib.hid (flat_next Fm.peerB m.peers hlt _ rfl)
      obtain ⟨p, hp⟩ : ∃ p : Nat × Nat, Hid (m.peers[j] = p) := ⟨m.peers[j], Lib.hid rfl⟩
      obtain ⟨p1, p2⟩ := p
      rw [hp.out] at d0 d1 OK HNx
      simp only at d0 d1 OK
      obtain ⟨OK1, OK2⟩ := OK
      have P := Lib.hid (HR.out.rpeer p1 p2 OK1 OK2 (by omega))
      clear OK1 OK2
      go_wp2_with fail
      refine (P.out).mono ?_
      rintro e w8 ⟨v8, rfl, h8⟩
      rw [List.append_assoc, ← HNx.out] at h8
      have HN8 := Lib.hid h8
      clear h8
      go_wp2_with fail
      go_roundw
      case rel => exact ⟨j + 1, by omega, by go_num, HN8⟩
      case measure => simp [intOf]; omega
    · have hjn : j = m.peers.length := by omega
      rw [HKK.out] at g0
      rw [HH.out] at g3
      go_wp2_with fail
      go_ret
      have ho := HR.out.own
      rw [hjn, List.take_length, ← HZ.out, ← HY.out, ← fix1 (show m.peers.length < 256 by omega)] at ho
      simp only [List.append_assoc] at ho
      refine ⟨_, rfl, ?_, by rw [hsb]; exact HR.out.kept.below (fun k hk => by cases hk) (by omega)⟩
      rw [hsb]
      unfold Fm.peersB
      simp only [List.append_assoc]
      exact ho

set_option maxHeartbeats 1000000 in
theorem rput_4f {w : World} {B : Nat} {m : Ms} {vm : Value} (H : Mv w B m vm) (HF : Few m) (hk : m.kind = 4) (hh : m.has = false) :
    Calls Tryd.prog 17 #[vm] w fun e w' => ∃ v, e = .returned v ∧ w'.ownsRow w.heap.size 5 1 v (Fm.put m).length (ints .u8 (Fm.put m)) ∧ Below w.heap.size w w' := by
  obtain ⟨b, vp, vq, w0, rfl, hsb, hal, hsz, hx0, hb0⟩ := boxedk H.all (Nat.le_refl _)
  rw [hsb] at hx0
  obtain ⟨Ap, cp, rfl, _, hp1, hp2, _⟩ := hx0.peers.ex
  obtain ⟨Aq, cq, rfl, _, hq1, hq2, _⟩ := hx0.pairs.ex
  unfold maxLen at hp2 hq2
  have hn16 := HF.peers
  have hn8 := HF.pairs
  have HN0 : Hid (On b b m (.slice Ap m.peers.length cp) (.slice Aq m.pairs.length cq) w (.slice none 0 0) [] (.slice none 0 0) w0) := Lib.hid ⟨World.ownsRow_nil _ _ _ _, hx0, Kept.of_below (by rw [hsb]; exact hb0) _, by simp [Value.ownBlock], by omega⟩
  obtain ⟨c0, c1, c2, c3, c4, c5, c6, c7, c8, c9, c10⟩ := Bx.cells hx0.bx
  rw [hk] at c0
  have E : Fm.put m = Bm.fix 1 4 ++ Bm.fix 4 m.rid ++ Fm.ownB m := by unfold Fm.put; rw [hk, List.append_assoc]; rfl
  rw [ownB_4f hk hh] at E
  rw [E]
  have HLen : Hid ((Bm.fix 1 4 ++ Bm.fix 4 m.rid).length = 5) := Lib.hid (by rw [List.length_append, Bm.fix_length, Bm.fix_length])
  obtain ⟨xs, HX⟩ : ∃ xs, Hid (Bm.fix 1 4 ++ Bm.fix 4 m.rid = xs) := ⟨_, rfl⟩
  rw [HX.out] at HLen ⊢
  have hxs : xs.length = 5 := HLen.out
  have hrid := HF.ok.rid
  have hwk : IntKind.u64.wrap (4 : Int) = ((4 : Nat) : Int) := by decide
  have hwr : IntKind.u64.wrap (m.rid : Int) = (m.rid : Int) := by rw [IntKind.wrap_u64]; omega
  have HSC := Lib.hid (fun W (h : Boxk W b b m (.slice Ap m.peers.length cp) (.slice Aq m.pairs.length cq)) => Bx.cells h.bx)
  have HKK := Lib.hid hk
  have hcode := HF.ok.code
  have hid := HF.ok.id
  have HH := Lib.hid hh
  rw [hh] at c3
  clear hh
  clear H hx0 hb0 E hk
  go_enter Tryd.func17, Tryd.ntmps17
  go_wp2_with fail
  refine wp_region_plan (S := fun W => Boxk W b b m (.slice Ap m.peers.length cp) (.slice Aq m.pairs.length cq)) [(0, true), (1, true), (2, true), (4, true), (5, true), (6, true), (3, false), (7, false), (8, true)] (by kernel_rfl) (by kernel_rfl) rfl (by kernel_rfl) (fun _ _ _ _ _ h => h) HN0.out.drew.box ?_
  clear c0 c1 c2 c3 c4 c5 c6 c7 c8 c9 c10
  iterate 6
    refine along_take (v := ?_) rfl (by rfl) ?_ ?_
    rotate_left
    · intro W hW; obtain ⟨c0, c1, _⟩ := HSC.out W hW; rw [HKK.out] at c0; clear hW; go_simp; try with_reducible rfl
    try simp only [Act.put, List.setIfInBounds_toArray, List.set_cons_zero, List.set_cons_succ]
  refine along_step rfl (fun K hK => ?_)
  go_simp
  refine (HN0.out.drew.rnums 4 1 1 rfl (by omega) (by omega) (by omega) (by simp)).mono ?_
  rintro e w1 ⟨v1, rfl, h1⟩
  have HN1 := Lib.hid h1
  clear h1
  refine hK.out _ _ HN1.out.box ?_
  clear hK K
  try simp only [Act.put, List.setIfInBounds_toArray, List.set_cons_zero, List.set_cons_succ]
  refine along_step rfl (fun K hK => ?_)
  go_simp
  refine (HN1.out.rnums m.rid 4 4 rfl (by omega) (by omega) (by omega) (by simp [Bm.fix_length])).mono ?_
  rintro e w2 ⟨v2, rfl, h2⟩
  rw [List.nil_append, HX.out] at h2
  have HN2 := Lib.hid h2
  clear h2
  refine hK.out _ _ HN2.out.box ?_
  clear hK K
  try simp only [Act.put, List.setIfInBounds_toArray, List.set_cons_zero, List.set_cons_succ]
  refine along_take (v := ?_) rfl (by rfl) ?_ ?_
  rotate_left
  · intro W hW; clear hW; go_simp; try with_reducible rfl
  simp only [Act.put, List.setIfInBounds_toArray, List.set_cons_zero, List.set_cons_succ]
  refine along_done ?_
  obtain ⟨d2_0, d2_1, d2_2, d2_3, d2_4, d2_5, d2_6, d2_7, d2_8, d2_9, d2_10⟩ := Bx.cells HN2.out.box.bx
  rw [HKK.out] at d2_0
  rw [HH.out] at d2_3
  go_wp2_with fail
  have C0 := Lib.hid (HN2.out.rhas (by omega))
  rw [HH.out] at C0
  refine (C0.out).mono ?_
  clear C0
  rintro e w3 ⟨v3, rfl, h3⟩
  rw [← HH.out] at h3
  have HN3 := Lib.hid h3
  clear h3 d2_0 d2_1 d2_2 d2_3 d2_4 d2_5 d2_6 d2_7 d2_8 d2_9 d2_10
  obtain ⟨d3_0, d3_1, d3_2, d3_3, d3_4, d3_5, d3_6, d3_7, d3_8, d3_9, d3_10⟩ := Bx.cells HN3.out.box.bx
  rw [HKK.out] at d3_0
  rw [HH.out] at d3_3
  obtain ⟨ys, HY⟩ : ∃ ys, Hid (xs ++ Fm.hasB m.has = ys) := ⟨_, rfl⟩
  have hys : ys.length ≤ 10000 := by rw [← HY.out]; simp only [List.length_append, Fm.hasB, List.length_cons, List.length_nil, peerB_length, strB_length, Bm.fix_length]; have := HF.key; omega
  rw [HY.out] at HN3
  go_wp2_with (at_builtin; refine wpList_append1k byteT _ _ rfl rfl b _ ys.length (ints .u8 ys) rfl rfl rfl HN3.out.own (by omega) HN3.out.size ?_; intro v7 w7 ho7 hk7; have HN7 := Lib.hid (HN3.out.push ho7 hk7); clear ho7 hk7)
  clear d3_0 d3_1 d3_2 d3_3 d3_4 d3_5 d3_6 d3_7 d3_8 d3_9 d3_10
  obtain ⟨zs, HZ⟩ : ∃ zs, Hid (ys ++ [m.peers.length] = zs) := ⟨_, rfl⟩
  have hzs : zs.length ≤ 10001 := by rw [← HZ.out, List.length_append, List.length_cons, List.length_nil]; omega
  rw [HZ.out] at HN7
  go_loopw [3, 4] (fun vb vi wr => ∃ (j : Nat), j ≤ m.peers.length ∧ vi = .int .i64 j ∧ Hid (On b b m (.slice Ap m.peers.length cp) (.slice Aq m.pairs.length cq) w (.slice none 0 0) (zs ++ (m.peers.take j).flatMap Fm.peerB) vb wr)) (fun _ vi _ => m.peers.length - (intOf vi).toNat)
  case atStart => exact ⟨0, by omega, rfl, by simpa using HN7⟩
  case round =>
    obtain ⟨j, hj, rfl, HR⟩ := hrel
    obtain ⟨g0, g1, g2, g3, g4, g5, g6, g7, g8, g9, g10⟩ := Bx.cells HR.out.box.bx
    by_cases hlt : j < m.peers.length
    · obtain ⟨b1, o1, rfl⟩ := HR.out.box.someP (by omega)
      obtain ⟨d0, d1⟩ := HR.out.box.cellP hlt
      have OK := HF.ok.peers _ (List.getElem_mem hlt)
      have hlen : (zs ++ (m.peers.take j).flatMap Fm.peerB).length ≤ 1000000 := by rw [List.length_append, flat_peers, List.length_take]; omega
      have HNx := Lib.hid (flat_next Fm.peerB m.peers hlt _ rfl)
      obtain ⟨p, hp⟩ : ∃ p : Nat × Nat, Hid (m.peers[j] = p) := ⟨m.peers[j], Lib.hid rfl⟩
      obtain ⟨p1, p2⟩ := p
      rw [hp.out] at d0 d1 OK HNx
      simp only at d0 d1 OK
      obtain ⟨OK1, OK2⟩ := OK
      have P := Lib.hid (HR.out.rpeer p1 p2 OK1 OK2 (by omega))
      clear OK1 OK2
      go_wp2_with fail
      refine (P.out).mono ?_
      rintro e w8 ⟨v8, rfl, h8⟩
      rw [List.append_assoc, ← HNx.out] at h8
      have HN8 := Lib.hid h8
      clear h8
      go_wp2_with fail
      go_roundw
      case rel => exact ⟨j + 1, by omega, by go_num, HN8⟩
      case measure => simp [intOf]; omega
    · have hjn : j = m.peers.length := by omega
      rw [HKK.out] at g0
      rw [HH.out] at g3
      go_wp2_with fail
      go_ret
      have ho := HR.out.own
      rw [hjn, List.take_length, ← HZ.out, ← HY.out, ← fix1 (show m.peers.length < 256 by omega)] at ho
      simp only [List.append_assoc] at ho
      refine ⟨_, rfl, ?_, by rw [hsb]; exact HR.out.kept.below (fun k hk => by cases hk) (by omega)⟩
      rw [hsb]
      unfold Fm.peersB
      simp only [List.append_assoc]
      exact ho

set_option maxHeartbeats 1000000 in
theorem rput_9t {w : World} {B : Nat} {m : Ms} {vm : Value} (H : Mv w B m vm) (HF : Few m) (hk : m.kind = 9) (hh : m.has = true) :
    Calls Tryd.prog 17 #[vm] w fun e w' => ∃ v, e = .returned v ∧ w'.ownsRow w.heap.size 5 1 v (Fm.put m).length (ints .u8 (Fm.put m)) ∧ Below w.heap.size w w' := by
  obtain ⟨b, vp, vq, w0, rfl, hsb, hal, hsz, hx0, hb0⟩ := boxedk H.all (Nat.le_refl _)
  rw [hsb] at hx0
  obtain ⟨Ap, cp, rfl, _, hp1, hp2, _⟩ := hx0.peers.ex
  obtain ⟨Aq, cq, rfl, _, hq1, hq2, _⟩ := hx0.pairs.ex
  unfold maxLen at hp2 hq2
  have hn16 := HF.peers
  have hn8 := HF.pairs
  have HN0 : Hid (On b b m (.slice Ap m.peers.length cp) (.slice Aq m.pairs.length cq) w (.slice none 0 0) [] (.slice none 0 0) w0) := Lib.hid ⟨World.ownsRow_nil _ _ _ _, hx0, Kept.of_below (by rw [hsb]; exact hb0) _, by simp [Value.ownBlock], by omega⟩
  obtain ⟨c0, c1, c2, c3, c4, c5, c6, c7, c8, c9, c10⟩ := Bx.cells hx0.bx
  rw [hk] at c0
  have E : Fm.put m = Bm.fix 1 9 ++ Bm.fix 4 m.rid ++ Fm.ownB m := by unfold Fm.put; rw [hk, List.append_assoc]; rfl
  rw [ownB_9t hk hh] at E
  rw [E]
  have HLen : Hid ((Bm.fix 1 9 ++ Bm.fix 4 m.rid).length = 5) := Lib.hid (by rw [List.length_append, Bm.fix_length, Bm.fix_length])
  obtain ⟨xs, HX⟩ : ∃ xs, Hid (Bm.fix 1 9 ++ Bm.fix 4 m.rid = xs) := ⟨_, rfl⟩
  rw [HX.out] at HLen ⊢
  have hxs : xs.length = 5 := HLen.out
  have hrid := HF.ok.rid
  have hwk : IntKind.u64.wrap (9 : Int) = ((9 : Nat) : Int) := by decide
  have hwr : IntKind.u64.wrap (m.rid : Int) = (m.rid : Int) := by rw [IntKind.wrap_u64]; omega
  have HSC := Lib.hid (fun W (h : Boxk W b b m (.slice Ap m.peers.length cp) (.slice Aq m.pairs.length cq)) => Bx.cells h.bx)
  have HKK := Lib.hid hk
  have hcode := HF.ok.code
  have hid := HF.ok.id
  have HH := Lib.hid hh
  rw [hh] at c3
  clear hh
  clear H hx0 hb0 E hk
  go_enter Tryd.func17, Tryd.ntmps17
  go_wp2_with fail
  refine wp_region_plan (S := fun W => Boxk W b b m (.slice Ap m.peers.length cp) (.slice Aq m.pairs.length cq)) [(0, true), (1, true), (2, true), (4, true), (5, true), (6, true), (3, false), (7, false), (8, true)] (by kernel_rfl) (by kernel_rfl) rfl (by kernel_rfl) (fun _ _ _ _ _ h => h) HN0.out.drew.box ?_
  clear c0 c1 c2 c3 c4 c5 c6 c7 c8 c9 c10
  iterate 6
    refine along_take (v := ?_) rfl (by rfl) ?_ ?_
    rotate_left
    · intro W hW; obtain ⟨c0, c1, _⟩ := HSC.out W hW; rw [HKK.out] at c0; clear hW; go_simp; try with_reducible rfl
    try simp only [Act.put, List.setIfInBounds_toArray, List.set_cons_zero, List.set_cons_succ]
  refine along_step rfl (fun K hK => ?_)
  go_simp
  refine (HN0.out.drew.rnums 9 1 1 rfl (by omega) (by omega) (by omega) (by simp)).mono ?_
  rintro e w1 ⟨v1, rfl, h1⟩
  have HN1 := Lib.hid h1
  clear h1
  refine hK.out _ _ HN1.out.box ?_
  clear hK K
  try simp only [Act.put, List.setIfInBounds_toArray, List.set_cons_zero, List.set_cons_succ]
  refine along_step rfl (fun K hK => ?_)
  go_simp
  refine (HN1.out.rnums m.rid 4 4 rfl (by omega) (by omega) (by omega) (by simp [Bm.fix_length])).mono ?_
  rintro e w2 ⟨v2, rfl, h2⟩
  rw [List.nil_append, HX.out] at h2
  have HN2 := Lib.hid h2
  clear h2
  refine hK.out _ _ HN2.out.box ?_
  clear hK K
  try simp only [Act.put, List.setIfInBounds_toArray, List.set_cons_zero, List.set_cons_succ]
  refine along_take (v := ?_) rfl (by rfl) ?_ ?_
  rotate_left
  · intro W hW; clear hW; go_simp; try with_reducible rfl
  simp only [Act.put, List.setIfInBounds_toArray, List.set_cons_zero, List.set_cons_succ]
  refine along_done ?_
  obtain ⟨d2_0, d2_1, d2_2, d2_3, d2_4, d2_5, d2_6, d2_7, d2_8, d2_9, d2_10⟩ := Bx.cells HN2.out.box.bx
  rw [HKK.out] at d2_0
  rw [HH.out] at d2_3
  go_wp2_with fail
  have C0 := Lib.hid (HN2.out.rhas (by omega))
  rw [HH.out] at C0
  refine (C0.out).mono ?_
  clear C0
  rintro e w3 ⟨v3, rfl, h3⟩
  rw [← HH.out] at h3
  have HN3 := Lib.hid h3
  clear h3 d2_0 d2_1 d2_2 d2_3 d2_4 d2_5 d2_6 d2_7 d2_8 d2_9 d2_10
  obtain ⟨d3_0, d3_1, d3_2, d3_3, d3_4, d3_5, d3_6, d3_7, d3_8, d3_9, d3_10⟩ := Bx.cells HN3.out.box.bx
  rw [HKK.out] at d3_0
  rw [HH.out] at d3_3
  go_wp2_with fail
  refine (HN3.out.rtext m.val 2 2 rfl (by omega) (by omega) HF.val (by simp only [List.length_append, Fm.hasB, List.length_cons, List.length_nil, peerB_length, strB_length, Bm.fix_length]; have := HF.key; omega)).mono ?_
  rintro e w4 ⟨v4, rfl, h4⟩
  have HN4 := Lib.hid h4
  clear h4 d3_0 d3_1 d3_2 d3_3 d3_4 d3_5 d3_6 d3_7 d3_8 d3_9 d3_10
  obtain ⟨d4_0, d4_1, d4_2, d4_3, d4_4, d4_5, d4_6, d4_7, d4_8, d4_9, d4_10⟩ := Bx.cells HN4.out.box.bx
  rw [HKK.out] at d4_0
  rw [HH.out] at d4_3
  go_wp2_with fail
  go_ret
  have ho := HN4.out.own
  try simp only [List.append_assoc] at ho
  exact ⟨_, rfl, by rw [hsb]; simp only [List.append_assoc]; exact ho, by rw [hsb]; exact HN4.out.kept.below (fun k hk => by cases hk) (by omega)⟩

set_option maxHeartbeats 1000000 in
theorem rput_9f {w : World} {B : Nat} {m : Ms} {vm : Value} (H : Mv w B m vm) (HF : Few m) (hk : m.kind = 9) (hh : m.has = false) :
    Calls Tryd.prog 17 #[vm] w fun e w' => ∃ v, e = .returned v ∧ w'.ownsRow w.heap.size 5 1 v (Fm.put m).length (ints .u8 (Fm.put m)) ∧ Below w.heap.size w w' := by
  obtain ⟨b, vp, vq, w0, rfl, hsb, hal, hsz, hx0, hb0⟩ := boxedk H.all (Nat.le_refl _)
  rw [hsb] at hx0
  obtain ⟨Ap, cp, rfl, _, hp1, hp2, _⟩ := hx0.peers.ex
  obtain ⟨Aq, cq, rfl, _, hq1, hq2, _⟩ := hx0.pairs.ex
  unfold maxLen at hp2 hq2
  have hn16 := HF.peers
  have hn8 := HF.pairs
  have HN0 : Hid (On b b m (.slice Ap m.peers.length cp) (.slice Aq m.pairs.length cq) w (.slice none 0 0) [] (.slice none 0 0) w0) := Lib.hid ⟨World.ownsRow_nil _ _ _ _, hx0, Kept.of_below (by rw [hsb]; exact hb0) _, by simp [Value.ownBlock], by omega⟩
  obtain ⟨c0, c1, c2, c3, c4, c5, c6, c7, c8, c9, c10⟩ := Bx.cells hx0.bx
  rw [hk] at c0
  have E : Fm.put m = Bm.fix 1 9 ++ Bm.fix 4 m.rid ++ Fm.ownB m := by unfold Fm.put; rw [hk, List.append_assoc]; rfl
  rw [ownB_9f hk hh] at E
  rw [E]
  have HLen : Hid ((Bm.fix 1 9 ++ Bm.fix 4 m.rid).length = 5) := Lib.hid (by rw [List.length_append, Bm.fix_length, Bm.fix_length])
  obtain ⟨xs, HX⟩ : ∃ xs, Hid (Bm.fix 1 9 ++ Bm.fix 4 m.rid = xs) := ⟨_, rfl⟩
  rw [HX.out] at HLen ⊢
  have hxs : xs.length = 5 := HLen.out
  have hrid := HF.ok.rid
  have hwk : IntKind.u64.wrap (9 : Int) = ((9 : Nat) : Int) := by decide
  have hwr : IntKind.u64.wrap (m.rid : Int) = (m.rid : Int) := by rw [IntKind.wrap_u64]; omega
  have HSC := Lib.hid (fun W (h : Boxk W b b m (.slice Ap m.peers.length cp) (.slice Aq m.pairs.length cq)) => Bx.cells h.bx)
  have HKK := Lib.hid hk
  have hcode := HF.ok.code
  have hid := HF.ok.id
  have HH := Lib.hid hh
  rw [hh] at c3
  clear hh
  clear H hx0 hb0 E hk
  go_enter Tryd.func17, Tryd.ntmps17
  go_wp2_with fail
  refine wp_region_plan (S := fun W => Boxk W b b m (.slice Ap m.peers.length cp) (.slice Aq m.pairs.length cq)) [(0, true), (1, true), (2, true), (4, true), (5, true), (6, true), (3, false), (7, false), (8, true)] (by kernel_rfl) (by kernel_rfl) rfl (by kernel_rfl) (fun _ _ _ _ _ h => h) HN0.out.drew.box ?_
  clear c0 c1 c2 c3 c4 c5 c6 c7 c8 c9 c10
  iterate 6
    refine along_take (v := ?_) rfl (by rfl) ?_ ?_
    rotate_left
    · intro W hW; obtain ⟨c0, c1, _⟩ := HSC.out W hW; rw [HKK.out] at c0; clear hW; go_simp; try with_reducible rfl
    try simp only [Act.put, List.setIfInBounds_toArray, List.set_cons_zero, List.set_cons_succ]
  refine along_step rfl (fun K hK => ?_)
  go_simp
  refine (HN0.out.drew.rnums 9 1 1 rfl (by omega) (by omega) (by omega) (by simp)).mono ?_
  rintro e w1 ⟨v1, rfl, h1⟩
  have HN1 := Lib.hid h1
  clear h1
  refine hK.out _ _ HN1.out.box ?_
  clear hK K
  try simp only [Act.put, List.setIfInBounds_toArray, List.set_cons_zero, List.set_cons_succ]
  refine along_step rfl (fun K hK => ?_)
  go_simp
  refine (HN1.out.rnums m.rid 4 4 rfl (by omega) (by omega) (by omega) (by simp [Bm.fix_length])).mono ?_
  rintro e w2 ⟨v2, rfl, h2⟩
  rw [List.nil_append, HX.out] at h2
  have HN2 := Lib.hid h2
  clear h2
  refine hK.out _ _ HN2.out.box ?_
  clear hK K
  try simp only [Act.put, List.setIfInBounds_toArray, List.set_cons_zero, List.set_cons_succ]
  refine along_take (v := ?_) rfl (by rfl) ?_ ?_
  rotate_left
  · intro W hW; clear hW; go_simp; try with_reducible rfl
  simp only [Act.put, List.setIfInBounds_toArray, List.set_cons_zero, List.set_cons_succ]
  refine along_done ?_
  obtain ⟨d2_0, d2_1, d2_2, d2_3, d2_4, d2_5, d2_6, d2_7, d2_8, d2_9, d2_10⟩ := Bx.cells HN2.out.box.bx
  rw [HKK.out] at d2_0
  rw [HH.out] at d2_3
  go_wp2_with fail
  have C0 := Lib.hid (HN2.out.rhas (by omega))
  rw [HH.out] at C0
  refine (C0.out).mono ?_
  clear C0
  rintro e w3 ⟨v3, rfl, h3⟩
  rw [← HH.out] at h3
  have HN3 := Lib.hid h3
  clear h3 d2_0 d2_1 d2_2 d2_3 d2_4 d2_5 d2_6 d2_7 d2_8 d2_9 d2_10
  obtain ⟨d3_0, d3_1, d3_2, d3_3, d3_4, d3_5, d3_6, d3_7, d3_8, d3_9, d3_10⟩ := Bx.cells HN3.out.box.bx
  rw [HKK.out] at d3_0
  rw [HH.out] at d3_3
  go_wp2_with fail
  go_ret
  have ho := HN3.out.own
  try simp only [List.append_assoc] at ho
  exact ⟨_, rfl, by rw [hsb]; exact ho, by rw [hsb]; exact HN3.out.kept.below (fun k hk => by cases hk) (by omega)⟩

set_option maxHeartbeats 1000000 in
theorem rput_3 {w : World} {B : Nat} {m : Ms} {vm : Value} (H : Mv w B m vm) (HF : Few m) (hk : m.kind = 3) :
    Calls Tryd.prog 17 #[vm] w fun e w' => ∃ v, e = .returned v ∧ w'.ownsRow w.heap.size 5 1 v (Fm.put m).length (ints .u8 (Fm.put m)) ∧ Below w.heap.size w w' := by
  obtain ⟨b, vp, vq, w0, rfl, hsb, hal, hsz, hx0, hb0⟩ := boxedk H.all (Nat.le_refl _)
  rw [hsb] at hx0
  obtain ⟨Ap, cp, rfl, _, hp1, hp2, _⟩ := hx0.peers.ex
  obtain ⟨Aq, cq, rfl, _, hq1, hq2, _⟩ := hx0.pairs.ex
  unfold maxLen at hp2 hq2
  have hn16 := HF.peers
  have hn8 := HF.pairs
  have HN0 : Hid (On b b m (.slice Ap m.peers.length cp) (.slice Aq m.pairs.length cq) w (.slice none 0 0) [] (.slice none 0 0) w0) := Lib.hid ⟨World.ownsRow_nil _ _ _ _, hx0, Kept.of_below (by rw [hsb]; exact hb0) _, by simp [Value.ownBlock], by omega⟩
  obtain ⟨c0, c1, c2, c3, c4, c5, c6, c7, c8, c9, c10⟩ := Bx.cells hx0.bx
  rw [hk] at c0
  have E : Fm.put m = Bm.fix 1 3 ++ Bm.fix 4 m.rid ++ Fm.ownB m := by unfold Fm.put; rw [hk, List.append_assoc]; rfl
  rw [ownB_3 hk] at E
  rw [E]
  have HLen : Hid ((Bm.fix 1 3 ++ Bm.fix 4 m.rid).length = 5) := Lib.hid (by rw [List.length_append, Bm.fix_length, Bm.fix_length])
  obtain ⟨xs, HX⟩ : ∃ xs, Hid (Bm.fix 1 3 ++ Bm.fix 4 m.rid = xs) := ⟨_, rfl⟩
  rw [HX.out] at HLen ⊢
  have hxs : xs.length = 5 := HLen.out
  have hrid := HF.ok.rid
  have hwk : IntKind.u64.wrap (3 : Int) = ((3 : Nat) : Int) := by decide
  have hwr : IntKind.u64.wrap (m.rid : Int) = (m.rid : Int) := by rw [IntKind.wrap_u64]; omega
  have HSC := Lib.hid (fun W (h : Boxk W b b m (.slice Ap m.peers.length cp) (.slice Aq m.pairs.length cq)) => Bx.cells h.bx)
  have HKK := Lib.hid hk
  have hcode := HF.ok.code
  have hid := HF.ok.id
  clear H hx0 hb0 E hk
  go_enter Tryd.func17, Tryd.ntmps17
  go_wp2_with fail
  refine wp_region_plan (S := fun W => Boxk W b b m (.slice Ap m.peers.length cp) (.slice Aq m.pairs.length cq)) [(0, true), (1, true), (2, true), (4, true), (5, true), (6, true), (3, false), (7, false), (8, true)] (by kernel_rfl) (by kernel_rfl) rfl (by kernel_rfl) (fun _ _ _ _ _ h => h) HN0.out.drew.box ?_
  clear c0 c1 c2 c3 c4 c5 c6 c7 c8 c9 c10
  iterate 6
    refine along_take (v := ?_) rfl (by rfl) ?_ ?_
    rotate_left
    · intro W hW; obtain ⟨c0, c1, _⟩ := HSC.out W hW; rw [HKK.out] at c0; clear hW; go_simp; try with_reducible rfl
    try simp only [Act.put, List.setIfInBounds_toArray, List.set_cons_zero, List.set_cons_succ]
  refine along_step rfl (fun K hK => ?_)
  go_simp
  refine (HN0.out.drew.rnums 3 1 1 rfl (by omega) (by omega) (by omega) (by simp)).mono ?_
  rintro e w1 ⟨v1, rfl, h1⟩
  have HN1 := Lib.hid h1
  clear h1
  refine hK.out _ _ HN1.out.box ?_
  clear hK K
  try simp only [Act.put, List.setIfInBounds_toArray, List.set_cons_zero, List.set_cons_succ]
  refine along_step rfl (fun K hK => ?_)
  go_simp
  refine (HN1.out.rnums m.rid 4 4 rfl (by omega) (by omega) (by omega) (by simp [Bm.fix_length])).mono ?_
  rintro e w2 ⟨v2, rfl, h2⟩
  rw [List.nil_append, HX.out] at h2
  have HN2 := Lib.hid h2
  clear h2
  refine hK.out _ _ HN2.out.box ?_
  clear hK K
  try simp only [Act.put, List.setIfInBounds_toArray, List.set_cons_zero, List.set_cons_succ]
  refine along_take (v := ?_) rfl (by rfl) ?_ ?_
  rotate_left
  · intro W hW; clear hW; go_simp; try with_reducible rfl
  simp only [Act.put, List.setIfInBounds_toArray, List.set_cons_zero, List.set_cons_succ]
  refine along_done ?_
  obtain ⟨d2_0, d2_1, d2_2, d2_3, d2_4, d2_5, d2_6, d2_7, d2_8, d2_9, d2_10⟩ := Bx.cells HN2.out.box.bx
  rw [HKK.out] at d2_0
  go_wp2_with fail
  go_ret
  have ho := HN2.out.own
  try simp only [List.append_assoc] at ho
  exact ⟨_, rfl, by rw [hsb]; rw [List.append_nil]; exact ho, by rw [hsb]; exact HN2.out.kept.below (fun k hk => by cases hk) (by omega)⟩

set_option maxHeartbeats 1000000 in
theorem rput_6 {w : World} {B : Nat} {m : Ms} {vm : Value} (H : Mv w B m vm) (HF : Few m) (hk : m.kind = 6) :
    Calls Tryd.prog 17 #[vm] w fun e w' => ∃ v, e = .returned v ∧ w'.ownsRow w.heap.size 5 1 v (Fm.put m).length (ints .u8 (Fm.put m)) ∧ Below w.heap.size w w' := by
  obtain ⟨b, vp, vq, w0, rfl, hsb, hal, hsz, hx0, hb0⟩ := boxedk H.all (Nat.le_refl _)
  rw [hsb] at hx0
  obtain ⟨Ap, cp, rfl, _, hp1, hp2, _⟩ := hx0.peers.ex
  obtain ⟨Aq, cq, rfl, _, hq1, hq2, _⟩ := hx0.pairs.ex
  unfold maxLen at hp2 hq2
  have hn16 := HF.peers
  have hn8 := HF.pairs
  have HN0 : Hid (On b b m (.slice Ap m.peers.length cp) (.slice Aq m.pairs.length cq) w (.slice none 0 0) [] (.slice none 0 0) w0) := Lib.hid ⟨World.ownsRow_nil _ _ _ _, hx0, Kept.of_below (by rw [hsb]; exact hb0) _, by simp [Value.ownBlock], by omega⟩
  obtain ⟨c0, c1, c2, c3, c4, c5, c6, c7, c8, c9, c10⟩ := Bx.cells hx0.bx
  rw [hk] at c0
  have E : Fm.put m = Bm.fix 1 6 ++ Bm.fix 4 m.rid ++ Fm.ownB m := by unfold Fm.put; rw [hk, List.append_assoc]; rfl
  rw [ownB_6 hk] at E
  rw [E]
  have HLen : Hid ((Bm.fix 1 6 ++ Bm.fix 4 m.rid).length = 5) := Lib.hid (by rw [List.length_append, Bm.fix_length, Bm.fix_length])
  obtain ⟨xs, HX⟩ : ∃ xs, Hid (Bm.fix 1 6 ++ Bm.fix 4 m.rid = xs) := ⟨_, rfl⟩
  rw [HX.out] at HLen ⊢
  have hxs : xs.length = 5 := HLen.out
  have hrid := HF.ok.rid
  have hwk : IntKind.u64.wrap (6 : Int) = ((6 : Nat) : Int) := by decide
  have hwr : IntKind.u64.wrap (m.rid : Int) = (m.rid : Int) := by rw [IntKind.wrap_u64]; omega
  have HSC := Lib.hid (fun W (h : Boxk W b b m (.slice Ap m.peers.length cp) (.slice Aq m.pairs.length cq)) => Bx.cells h.bx)
  have HKK := Lib.hid hk
  have hcode := HF.ok.code
  have hid := HF.ok.id
  clear H hx0 hb0 E hk
  go_enter Tryd.func17, Tryd.ntmps17
  go_wp2_with fail
  refine wp_region_plan (S := fun W => Boxk W b b m (.slice Ap m.peers.length cp) (.slice Aq m.pairs.length cq)) [(0, true), (1, true), (2, true), (4, true), (5, true), (6, true), (3, false), (7, false), (8, true)] (by kernel_rfl) (by kernel_rfl) rfl (by kernel_rfl) (fun _ _ _ _ _ h => h) HN0.out.drew.box ?_
  clear c0 c1 c2 c3 c4 c5 c6 c7 c8 c9 c10
  iterate 6
    refine along_take (v := ?_) rfl (by rfl) ?_ ?_
    rotate_left
    · intro W hW; obtain ⟨c0, c1, _⟩ := HSC.out W hW; rw [HKK.out] at c0; clear hW; go_simp; try with_reducible rfl
    try simp only [Act.put, List.setIfInBounds_toArray, List.set_cons_zero, List.set_cons_succ]
  refine along_step rfl (fun K hK => ?_)
  go_simp
  refine (HN0.out.drew.rnums 6 1 1 rfl (by omega) (by omega) (by omega) (by simp)).mono ?_
  rintro e w1 ⟨v1, rfl, h1⟩
  have HN1 := Lib.hid h1
  clear h1
  refine hK.out _ _ HN1.out.box ?_
  clear hK K
  try simp only [Act.put, List.setIfInBounds_toArray, List.set_cons_zero, List.set_cons_succ]
  refine along_step rfl (fun K hK => ?_)
  go_simp
  refine (HN1.out.rnums m.rid 4 4 rfl (by omega) (by omega) (by omega) (by simp [Bm.fix_length])).mono ?_
  rintro e w2 ⟨v2, rfl, h2⟩
  rw [List.nil_append, HX.out] at h2
  have HN2 := Lib.hid h2
  clear h2
  refine hK.out _ _ HN2.out.box ?_
  clear hK K
  try simp only [Act.put, List.setIfInBounds_toArray, List.set_cons_zero, List.set_cons_succ]
  refine along_take (v := ?_) rfl (by rfl) ?_ ?_
  rotate_left
  · intro W hW; clear hW; go_simp; try with_reducible rfl
  simp only [Act.put, List.setIfInBounds_toArray, List.set_cons_zero, List.set_cons_succ]
  refine along_done ?_
  obtain ⟨d2_0, d2_1, d2_2, d2_3, d2_4, d2_5, d2_6, d2_7, d2_8, d2_9, d2_10⟩ := Bx.cells HN2.out.box.bx
  rw [HKK.out] at d2_0
  go_wp2_with fail
  go_ret
  have ho := HN2.out.own
  try simp only [List.append_assoc] at ho
  exact ⟨_, rfl, by rw [hsb]; rw [List.append_nil]; exact ho, by rw [hsb]; exact HN2.out.kept.below (fun k hk => by cases hk) (by omega)⟩

set_option maxHeartbeats 1000000 in
theorem rput_11 {w : World} {B : Nat} {m : Ms} {vm : Value} (H : Mv w B m vm) (HF : Few m) (hk : m.kind = 11) :
    Calls Tryd.prog 17 #[vm] w fun e w' => ∃ v, e = .returned v ∧ w'.ownsRow w.heap.size 5 1 v (Fm.put m).length (ints .u8 (Fm.put m)) ∧ Below w.heap.size w w' := by
  obtain ⟨b, vp, vq, w0, rfl, hsb, hal, hsz, hx0, hb0⟩ := boxedk H.all (Nat.le_refl _)
  rw [hsb] at hx0
  obtain ⟨Ap, cp, rfl, _, hp1, hp2, _⟩ := hx0.peers.ex
  obtain ⟨Aq, cq, rfl, _, hq1, hq2, _⟩ := hx0.pairs.ex
  unfold maxLen at hp2 hq2
  have hn16 := HF.peers
  have hn8 := HF.pairs
  have HN0 : Hid (On b b m (.slice Ap m.peers.length cp) (.slice Aq m.pairs.length cq) w (.slice none 0 0) [] (.slice none 0 0) w0) := Lib.hid ⟨World.ownsRow_nil _ _ _ _, hx0, Kept.of_below (by rw [hsb]; exact hb0) _, by simp [Value.ownBlock], by omega⟩
  obtain ⟨c0, c1, c2, c3, c4, c5, c6, c7, c8, c9, c10⟩ := Bx.cells hx0.bx
  rw [hk] at c0
  have E : Fm.put m = Bm.fix 1 11 ++ Bm.fix 4 m.rid ++ Fm.ownB m := by unfold Fm.put; rw [hk, List.append_assoc]; rfl
  rw [ownB_11 hk] at E
  rw [E]
  have HLen : Hid ((Bm.fix 1 11 ++ Bm.fix 4 m.rid).length = 5) := Lib.hid (by rw [List.length_append, Bm.fix_length, Bm.fix_length])
  obtain ⟨xs, HX⟩ : ∃ xs, Hid (Bm.fix 1 11 ++ Bm.fix 4 m.rid = xs) := ⟨_, rfl⟩
  rw [HX.out] at HLen ⊢
  have hxs : xs.length = 5 := HLen.out
  have hrid := HF.ok.rid
  have hwk : IntKind.u64.wrap (11 : Int) = ((11 : Nat) : Int) := by decide
  have hwr : IntKind.u64.wrap (m.rid : Int) = (m.rid : Int) := by rw [IntKind.wrap_u64]; omega
  have HSC := Lib.hid (fun W (h : Boxk W b b m (.slice Ap m.peers.length cp) (.slice Aq m.pairs.length cq)) => Bx.cells h.bx)
  have HKK := Lib.hid hk
  have hcode := HF.ok.code
  have hid := HF.ok.id
  clear H hx0 hb0 E hk
  go_enter Tryd.func17, Tryd.ntmps17
  go_wp2_with fail
  refine wp_region_plan (S := fun W => Boxk W b b m (.slice Ap m.peers.length cp) (.slice Aq m.pairs.length cq)) [(0, true), (1, true), (2, true), (4, true), (5, true), (6, true), (3, false), (7, false), (8, true)] (by kernel_rfl) (by kernel_rfl) rfl (by kernel_rfl) (fun _ _ _ _ _ h => h) HN0.out.drew.box ?_
  clear c0 c1 c2 c3 c4 c5 c6 c7 c8 c9 c10
  iterate 6
    refine along_take (v := ?_) rfl (by rfl) ?_ ?_
    rotate_left
    · intro W hW; obtain ⟨c0, c1, _⟩ := HSC.out W hW; rw [HKK.out] at c0; clear hW; go_simp; try with_reducible rfl
    try simp only [Act.put, List.setIfInBounds_toArray, List.set_cons_zero, List.set_cons_succ]
  refine along_step rfl (fun K hK => ?_)
  go_simp
  refine (HN0.out.drew.rnums 11 1 1 rfl (by omega) (by omega) (by omega) (by simp)).mono ?_
  rintro e w1 ⟨v1, rfl, h1⟩
  have HN1 := Lib.hid h1
  clear h1
  refine hK.out _ _ HN1.out.box ?_
  clear hK K
  try simp only [Act.put, List.setIfInBounds_toArray, List.set_cons_zero, List.set_cons_succ]
  refine along_step rfl (fun K hK => ?_)
  go_simp
  refine (HN1.out.rnums m.rid 4 4 rfl (by omega) (by omega) (by omega) (by simp [Bm.fix_length])).mono ?_
  rintro e w2 ⟨v2, rfl, h2⟩
  rw [List.nil_append, HX.out] at h2
  have HN2 := Lib.hid h2
  clear h2
  refine hK.out _ _ HN2.out.box ?_
  clear hK K
  try simp only [Act.put, List.setIfInBounds_toArray, List.set_cons_zero, List.set_cons_succ]
  refine along_take (v := ?_) rfl (by rfl) ?_ ?_
  rotate_left
  · intro W hW; clear hW; go_simp; try with_reducible rfl
  simp only [Act.put, List.setIfInBounds_toArray, List.set_cons_zero, List.set_cons_succ]
  refine along_done ?_
  obtain ⟨d2_0, d2_1, d2_2, d2_3, d2_4, d2_5, d2_6, d2_7, d2_8, d2_9, d2_10⟩ := Bx.cells HN2.out.box.bx
  rw [HKK.out] at d2_0
  go_wp2_with fail
  go_ret
  have ho := HN2.out.own
  try simp only [List.append_assoc] at ho
  exact ⟨_, rfl, by rw [hsb]; rw [List.append_nil]; exact ho, by rw [hsb]; exact HN2.out.kept.below (fun k hk => by cases hk) (by omega)⟩

theorem rput_any {w : World} {B : Nat} {m : Ms} {vm : Value} (H : Mv w B m vm) (HF : Few m) (hkn : known m.kind = true) :
    Calls Tryd.prog 17 #[vm] w fun e w' => ∃ v, e = .returned v ∧ w'.ownsRow w.heap.size 5 1 v (Fm.put m).length (ints .u8 (Fm.put m)) ∧ Below w.heap.size w w' := by
  have hb' : 0 < m.kind ∧ m.kind < 13 := by unfold known at hkn; simpa using hkn
  have hc : m.kind = 1 ∨ m.kind = 2 ∨ m.kind = 3 ∨ m.kind = 4 ∨ m.kind = 5 ∨ m.kind = 6 ∨ m.kind = 7 ∨ m.kind = 8 ∨ m.kind = 9 ∨ m.kind = 10 ∨ m.kind = 11 ∨ m.kind = 12 := by omega
  rcases hc with h | h | h | h | h | h | h | h | h | h | h | h
  · exact rput_1 H HF h
  · exact rput_2 H HF h
  · exact rput_3 H HF h
  · cases hh : m.has
    · exact rput_4f H HF h hh
    · exact rput_4t H HF h hh
  · exact rput_5 H HF h
  · exact rput_6 H HF h
  · exact rput_7 H HF h
  · exact rput_8 H HF h
  · cases hh : m.has
    · exact rput_9f H HF h hh
    · exact rput_9t H HF h hh
  · exact rput_10 H HF h
  · exact rput_11 H HF h
  · exact rput_12 H HF h
set_option maxHeartbeats 1000000 in
theorem renc_any {w : World} {B : Nat} {m : Ms} {v : Value} (H : Mv w B m v) (hlp : m.peers.length ≤ 1000000000) (hlq : m.pairs.length ≤ 1000000000) (hkey : m.key.size ≤ 1000) :
    Calls Tryd.prog 9 #[v] w (EncPost (Fm.enc m) w) := by
  obtain ⟨b, vp, vq, w0, rfl, hsb, hal, hsz, hx0, hb0⟩ := boxed H
  have okm := H.ok
  have HB0 := Lib.hid hb0
  have HX0 := Lib.hid hx0
  obtain ⟨c0, c1, c2, c3, c4, c5, c6, c7, c8, c9, c10⟩ := hx0.cells
  have R := Lib.hid (rright_any hx0.mv hlp hlq)
  obtain ⟨r, hr⟩ : ∃ r, Hid (right m = r) := ⟨_, rfl⟩
  rw [hr.out] at R
  by_cases hr0 : r = 0
  case neg =>
    have E : Fm.enc m = ([], r) := by rw [← hr.out]; exact Fm.enc_bad (by rw [hr.out]; exact hr0)
    rw [E]
    have hlt : ¬ (r : Int) = 0 := by omega
    clear H hx0 hb0 okm E
    go_enter Tryd.func9, Tryd.ntmps9
    go_wp2_with fail
    refine (R.out).mono ?_
    rintro e w1 ⟨rfl, hb1⟩
    have HB1 := Lib.hid (HB0.out.trans (hb1.mono (by omega)))
    clear hb1
    go_wp2_with fail
    go_ret2
    exact ⟨_, rfl, World.ownsRow_nil _ _ _ _, by first | exact HB1.out | (rw [hsb]; exact HB1.out)⟩
  subst hr0
  have hright : right m = 0 := hr.out
  have HF := few_right okm hkey hright
  have hkn := (Fm.right_parts hright).1
  have E : Fm.enc m = (Fm.put m, 0) := Fm.enc_good hright
  rw [E]
  clear H hx0 hb0 E hright okm
  go_enter Tryd.func9, Tryd.ntmps9
  go_wp2_with fail
  refine (R.out).mono ?_
  rintro e w1 ⟨rfl, hb1⟩
  have hx1 := HX0.out.kept hb1
  have hw1 := hb1.size
  have HB1 := Lib.hid (HB0.out.trans (hb1.mono (by omega)))
  clear hb1 c0 c1 c2 c3 c4 c5 c6 c7 c8 c9 c10
  obtain ⟨c0, c1, c2, c3, c4, c5, c6, c7, c8, c9, c10⟩ := hx1.cells
  have P := Lib.hid (rput_any hx1.mv HF hkn)
  clear hx1
  go_wp2_with fail
  refine (P.out).mono ?_
  rintro e w2 ⟨v2, rfl, ho2, hb2⟩
  have HO2 := Lib.hid (own_lower ho2 (by omega : b ≤ w1.heap.size))
  have HB2 := Lib.hid (HB1.out.trans (hb2.mono (by omega)))
  clear ho2 hb2
  go_wp2_with fail
  go_ret2
  exact ⟨_, rfl, by first | exact HO2.out | (rw [hsb]; exact HO2.out), by first | exact HB2.out | (rw [hsb]; exact HB2.out)⟩
end Go.Proofs.YtpfeccbnkgnioaaDoor
