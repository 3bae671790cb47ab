/- Contract of layer 18's reference: Get. -/
import Derived.Test.YtbhdgfpaoghnbaaRgr18
import Derived.Test.YtbhdgfpaoghnbaaCurt
import Derived.Test.YtbhdgfpaoghnbaaPA
namespace Go.Proofs.Ytbhdgfpaoghnbaa
open Go.RowKit
set_option linter.unusedVariables false
set_option maxRecDepth 100000
set_option linter.unusedSimpArgs false

theorem results_gram2 {fn : Func} {p u : Tmp} {x : Value} {tmps : Array Value} {w : World} {g : Nat} {cs : Array Value} (h : fn.results = #[.cell p 36, .tmp u])
    (hp : tmps.getD p undef = .pointer (some ⟨g, 0, none⟩)) (hx : tmps.getD u undef = x) (hg : Whole w g 36 cs) (hc : cs.size = 7) :
    (results fn tmps).run Try.prog w = .ok (.tuple #[.agg cs, x]) w := by
  subst hx
  have hp' : tmps[p]?.getD undef = .pointer (some ⟨g, 0, none⟩) := by simpa using hp
  simp [results, h, hp', asAddr, run_loadVar_row w g 36 36 cs (0, 0) _ hg Try.underlying36 rfl (gramI hc)]
/-- a datagram whose body is the call's own -/
def Gown (w : World) (base : Nat) (g : Gd) (v : Value) : Prop :=
  (∃ vb, v = .agg #[.int .u8 (g.kind : Int), .int .u8 (g.version : Int), .int .u32 (g.epoch : Int), .int .u32 (g.id : Int), .int .u16 (g.index : Int), .int .u16 (g.count : Int), vb] ∧ w.ownsRow base 5 1 vb g.body.length (ints .u8 g.body)) ∧ g.Ok
theorem Gown.gv {w : World} {base : Nat} {g : Gd} {v : Value} (h : Gown w base g v) : Gv w w.heap.size g v := by
  obtain ⟨⟨vb, rfl, ho⟩, ok⟩ := h
  have hp := own_piece ho
  have hp0 := hp
  obtain ⟨A, c, rfl, _⟩ := hp
  exact ⟨⟨A, c, rfl, hp0⟩, ok⟩
theorem Gown.zero (w : World) (base : Nat) : Gown w base Gr.zero (.agg #[.int .u8 0, .int .u8 0, .int .u32 0, .int .u32 0, .int .u16 0, .int .u16 0, .slice none 0 0]) := ⟨⟨_, rfl, World.ownsRow_nil w base 5 1⟩, Gr.ok_zero⟩
theorem own_set {w : World} {base n sz g i : Nat} {t : TypeId} {v : Value} {xs : List Value} (h : w.ownsRow base t sz v n xs) (hg : g < base) (u : Value) : (w.setCell ⟨g, i, none⟩ u).ownsRow base t sz v n xs := by
  obtain ⟨h1, h2⟩ := h
  refine ⟨h1, ?_⟩
  rcases h2 with h2 | ⟨q, cap, cur, hv, hq, hh, r⟩
  · exact .inl h2
  · exact .inr ⟨q, cap, cur, hv, hq, by rw [heap_setCell_other w ⟨g, i, none⟩ q u (by show q ≠ g; omega)]; exact hh, r⟩
theorem own_setrow {w : World} {base n sz g : Nat} {t : TypeId} {v : Value} {xs : List Value} (h : w.ownsRow base t sz v n xs) (hg : g < base) (cs : Array Value) : (w.setRow g cs).ownsRow base t sz v n xs := by
  obtain ⟨h1, h2⟩ := h
  refine ⟨h1, ?_⟩
  rcases h2 with h2 | ⟨q, cap, cur, hv, hq, hh, r⟩
  · exact .inl h2
  · exact .inr ⟨q, cap, cur, hv, hq, by rw [setRow_other w g q cs (by omega)]; exact hh, r⟩
/-- what Get answers -/
def GgetPost (r : Gd × Nat) (w : World) (e : Ending) (w' : World) : Prop := ∃ v, e = .returned (.tuple #[v, .int .i64 (r.2 : Int)]) ∧ Gown w' w.heap.size r.1 v ∧ Below w.heap.size w w'
set_option maxHeartbeats 4000000 in
theorem rgget18_any {w : World} {B : Nat} {v : Value} {l : List Nat} (h : Piece w B v l) (hB : B ≤ w.heap.size) (hb : ∀ x ∈ l, x < 256) (hl : l.length ≤ 1000000000) :
    Calls Try.prog 11 #[v] w (GgetPost (Gr.get l) w) := by
  obtain ⟨r, w1, hr, hal1, hs1, hR1, hb1⟩ := var_gram w
  obtain ⟨gn, w2, hgn, hal2, hs2, hN2, hb2⟩ := var_gram w1
  obtain ⟨w3, hw3⟩ : ∃ W, Hid (w2.setRow gn #[.int .u8 0, .int .u8 0, .int .u32 0, .int .u32 0, .int .u16 0, .int .u16 0, .slice none 0 0] = W) := ⟨_, Lib.hid rfl⟩
  have hN3 : Whole w3 gn 36 #[.int .u8 0, .int .u8 0, .int .u32 0, .int .u32 0, .int .u16 0, .int .u16 0, .slice none 0 0] := by rw [← hw3.out]; exact hN2.whole.row _
  have hR3 : Whole w3 r 36 #[.int .u8 0, .int .u8 0, .int .u32 0, .int .u32 0, .int .u16 0, .int .u16 0, .slice none 0 0] := by rw [← hw3.out]; exact (hR1.whole.below hb2 (by omega)).rowOther (by omega) _
  have hz3 : w3.heap.size = w2.heap.size := by rw [← hw3.out, size_setRow]
  have hB3 : Below w.heap.size w w3 := by rw [← hw3.out]; exact below_row ((show Below w.heap.size w w1 by rw [hr]; exact hb1).trans (hb2.mono (by omega))) (by omega) _
  have HR3 := Lib.hid hR3
  have HN3 := Lib.hid hN3
  have HN2 := Lib.hid hN2.whole
  have HB3 := Lib.hid hB3
  have hrn : r < gn := by omega
  have hn3 : gn < w3.heap.size := by omega
  have hwr : w.heap.size ≤ r := by omega
  have HP : Hid (∀ W, Below w.heap.size w W → Piece W B v l) := Lib.hid (fun W hW => h.below (hW.mono hB))
  obtain ⟨A, c, rfl, _, hnull, hle, hmx⟩ := h
  unfold maxLen at hmx
  have HNu := Lib.hid hnull
  have HS : Hid (∀ W, Below w.heap.size w W → Sees .u8 W B A l) := Lib.hid (fun W hW => by
    obtain ⟨A', c', e, k, _⟩ := HP.out W hW
    injection e with e1 _ _
    subst e1
    exact k)
  have HBy := Lib.hid hb
  have E1 := Lib.hid (fun h => Gr.get_short (l := l) h)
  have E2 := Lib.hid (fun h k => Gr.get_long (l := l) h k)
  have E3 := Lib.hid (fun h k s => Gr.get_sum (l := l) h k s)
  have E4 := Lib.hid (fun h k s f => Gr.get_form (l := l) h k s f)
  have E5 := Lib.hid (fun h k s f r => Gr.get_bad (l := l) h k s f r)
  have E6 := Lib.hid (fun h k s f r => Gr.get_good (l := l) h k s f r)
  have CSum := Lib.hid (fun W (hW : Below w.heap.size w W) (hk : ¬ l.length < 20) => rsum18_any (w := W) (B := B) (v := .slice A (l.length - 4) c) (l := Gr.ahead l) ⟨A, c, by unfold Gr.ahead; rw [List.length_take]; congr 1; omega, (HS.out W hW).take _, HNu.out, by unfold Gr.ahead; rw [List.length_take]; omega, by unfold maxLen; omega⟩ (fun x hx => HBy.out x (List.mem_of_mem_take hx)))
  have CTl := Lib.hid (fun W (hW : Below w.heap.size w W) => (show Piece W B (.slice (cutAt A c (l.length - 4)) (l.length - (l.length - 4)) (c - (l.length - 4))) (Gr.tail4 l) from ⟨_, _, by unfold Gr.tail4; rw [List.length_drop], (HS.out W hW).cut (by omega) hle, cutAt_null HNu.out, by unfold Gr.tail4; rw [List.length_drop]; omega, by unfold maxLen; omega⟩).conv)
  obtain ⟨n, hn⟩ : ∃ n, Hid (l.length = n) := ⟨_, Lib.hid rfl⟩
  rw [hn.out] at hle hl E1 E2 E3 E4 E5 E6 CSum CTl ⊢
  clear hN2 hR1 hN3 hR3 hB3 hb1 hb2 hnull hb hs1 hs2 hz3
  by_cases c1 : n < 20
  · rw [E1.out c1]
    go_enter Try.func11, Try.ntmps11
    go_wp2_with (first | (refine wpList_load_struct Try.underlying36 (gramI rfl) rfl rfl rfl HN3.out ?_) | (refine wpList_store_whole rfl rfl rfl rfl rfl HN2.out (gramI rfl) rfl (by simp [Value.oneCell']) ?_; try rw [hw3.out]) | (refine wpList_store_whole rfl rfl rfl rfl rfl HR3.out (gramI rfl) rfl (by simp [Value.oneCell']) ?_))
    refine bodyPost_ret (v := .tuple #[.agg #[.int .u8 0, .int .u8 0, .int .u32 0, .int .u32 0, .int .u16 0, .int .u16 0, .slice none 0 0], .int .i64 2]) ?_ rfl ⟨_, rfl, Gown.zero _ _, below_row HB3.out (by omega) _⟩
    exact results_gram2 rfl rfl rfl (HR3.out.row _) rfl

  by_cases c2 : 65507 < n
  · rw [E2.out c1 c2]
    go_enter Try.func11, Try.ntmps11
    go_wp2_with (first | (refine wpList_load_struct Try.underlying36 (gramI rfl) rfl rfl rfl HN3.out ?_) | (refine wpList_store_whole rfl rfl rfl rfl rfl HN2.out (gramI rfl) rfl (by simp [Value.oneCell']) ?_; try rw [hw3.out]) | (refine wpList_store_whole rfl rfl rfl rfl rfl HR3.out (gramI rfl) rfl (by simp [Value.oneCell']) ?_))
    refine bodyPost_ret (v := .tuple #[.agg #[.int .u8 0, .int .u8 0, .int .u32 0, .int .u32 0, .int .u16 0, .int .u16 0, .slice none 0 0], .int .i64 5]) ?_ rfl ⟨_, rfl, Gown.zero _ _, below_row HB3.out (by omega) _⟩
    exact results_gram2 rfl rfl rfl (HR3.out.row _) rfl

  obtain ⟨q, hq⟩ : ∃ q, Hid (n - 4 = q) := ⟨_, Lib.hid rfl⟩
  have hq4 : Hid (q + 4 = n) := Lib.hid (by have := hq.out; omega)
  have hqn1 : q ≤ n := by have := hq.out; omega
  have hqn2 : n ≤ q + 4 := by have := hq.out; omega
  have CS := Lib.hid (fun W hW => CSum.out W hW c1)
  rw [hq.out] at CS CTl
  rw [show n - q = 4 from by have := hq4.out; omega] at CTl
  have hqi : (n : Int) - 4 = (q : Int) := by have := hq4.out; omega
  have hwq : IntKind.i64.wrap (q : Int) = (q : Int) := by rw [IntKind.wrap_i64]; omega
  have hqc1 : q ≤ c := by omega
  have hqc : ¬ c = q := by have := hq4.out; omega
  rw [show cutAt A c q = A.map (fun x => x.add q) from if_neg hqc] at CTl
  have hnq : n - q = 4 := by have := hq4.out; omega
  have HTB : Hid (∀ x ∈ Gr.tail4 l, x < 256) := Lib.hid (fun x hx => HBy.out x (List.mem_of_mem_drop hx))
  have HEQ := Lib.hid (strOf_ne (a := Gr.le 4 (Cm.sum (Gr.ahead l))) (b := Gr.tail4 l) (Gr.le_byte _ _) HTB.out)
  obtain ⟨z4, hz4⟩ : ∃ z, Hid (Gr.le 4 (Cm.sum (Gr.ahead l)) = z) := ⟨_, Lib.hid rfl⟩
  obtain ⟨y4, hy4⟩ : ∃ z, Hid (Gr.tail4 l = z) := ⟨_, Lib.hid rfl⟩
  rw [hz4.out] at CS HEQ E3 E4 E5 E6
  rw [hy4.out] at CTl HEQ E3 E4 E5 E6
  obtain ⟨sz, hsz⟩ : ∃ s, Hid (strOf z4 = s) := ⟨_, Lib.hid rfl⟩
  obtain ⟨sy, hsy⟩ : ∃ s, Hid (strOf y4 = s) := ⟨_, Lib.hid rfl⟩
  rw [hsz.out, hsy.out] at HEQ
  rw [hsy.out] at CTl
  obtain ⟨eq, heq⟩ : ∃ b, Hid (decide (z4 = y4) = b) := ⟨_, Lib.hid rfl⟩
  rw [heq.out] at HEQ
  clear CSum
  go_enter Try.func11, Try.ntmps11
  go_wp2_with (first | (refine wpList_load_struct Try.underlying36 (gramI rfl) rfl rfl rfl HN3.out ?_) | (refine wpList_store_whole rfl rfl rfl rfl rfl HN2.out (gramI rfl) rfl (by simp [Value.oneCell']) ?_; try rw [hw3.out]) | (refine wpList_store_whole rfl rfl rfl rfl rfl HR3.out (gramI rfl) rfl (by simp [Value.oneCell']) ?_))
  refine wp_region_plans (fun W => Below w3.heap.size w3 W) [(0, true), (1, true), (2, true), (3, true), (6, true), (7, true), (8, true), (9, true), (10, true), (4, false), (5, true), (11, true)] (by kernel_rfl) (by kernel_rfl) rfl (by kernel_rfl) (fun _ _ _ _ _ h => h) (Below.refl _ _).drew ?_
  iterate 9
    refine alongs_take (v := ?_) rfl (by rfl) ?_ ?_
    rotate_left
    · intro W hW; have x := CTl.out W (HB3.out.trans (hW.mono HB3.out.size)); clear hW; go_simp; try with_reducible rfl
    simp only [Act.put, List.setIfInBounds_toArray, List.set_cons_zero, List.set_cons_succ]
  refine alongs_step rfl (fun K hK => ?_)
  go_simp
  refine (CS.out _ (HB3.out.trans ((Below.refl _ _).drew.mono HB3.out.size))).mono ?_
  rintro e w4 ⟨u4, rfl, ho4, hb4⟩
  have hb34 : Below w3.heap.size w3 w4 := (Below.refl _ _).drew.trans hb4
  have HB4 := Lib.hid (HB3.out.trans (hb34.mono HB3.out.size))
  have O4 := Lib.hid (fun W (h : Below w4.heap.size w4 W) => ((own_piece ho4).kept h).conv)
  rw [hsz.out] at O4
  obtain ⟨A4, c4, rfl, _⟩ := own_look ho4
  have HR4 := Lib.hid (HR3.out.below hb34 (by omega))
  have HN4 := Lib.hid (HN3.out.below hb34 (by omega))
  have hn4 : gn < w4.heap.size := by have := hb34.size; omega
  refine hK.out (fun W => Below w4.heap.size w4 W) _ _ (fun W hW => hb34.trans (hW.mono hb34.size)) (Below.refl _ _) ?_
  clear hK K ho4 hb4 hb34
  try simp only [Act.put, List.setIfInBounds_toArray, List.set_cons_zero, List.set_cons_succ]
  iterate 2
    refine alongs_take (v := ?_) rfl (by rfl) ?_ ?_
    rotate_left
    · intro W hW; have x := O4.out W hW; have y := HEQ.out; clear hW; go_simp; try with_reducible rfl
    simp only [Act.put, List.setIfInBounds_toArray, List.set_cons_zero, List.set_cons_succ]
  refine alongs_done ?_
  cases eq
  case false =>
    have hne : Hid (¬ z4 = y4) := Lib.hid (by simpa using heq.out)
    go_wp2_with (first | (refine wpList_load_struct Try.underlying36 (gramI rfl) rfl rfl rfl HN4.out ?_) | (refine wpList_store_whole rfl rfl rfl rfl rfl HN2.out (gramI rfl) rfl (by simp [Value.oneCell']) ?_; try rw [hw3.out]) | (refine wpList_store_whole rfl rfl rfl rfl rfl HR4.out (gramI rfl) rfl (by simp [Value.oneCell']) ?_))
    refine bodyPost_ret (v := .tuple #[.agg #[.int .u8 0, .int .u8 0, .int .u32 0, .int .u32 0, .int .u16 0, .int .u16 0, .slice none 0 0], .int .i64 8]) ?_ rfl (by rw [E3.out c1 c2 hne.out]; exact ⟨_, rfl, Gown.zero _ _, below_row HB4.out (by omega) _⟩)
    exact results_gram2 rfl rfl rfl (HR4.out.row _) rfl

  have HZ : Hid (z4 = y4) := Lib.hid (by simpa using heq.out)
  obtain ⟨bb, off, rfl, hbB, hcell⟩ := HS.out w4 HB4.out (by rw [hn.out]; omega)
  have x0 := hcell 0 (by rw [hn.out]; omega)
  have x1 := hcell 1 (by rw [hn.out]; omega)
  have hx0b : l.getD 0 0 < 256 := getD_lt HBy.out 0
  have hx1b : l.getD 1 0 < 256 := getD_lt HBy.out 1
  have hh : Hid (w4.cell? ⟨bb, off, none⟩ = some (.int .u8 ((l.getD 0 0 : Nat) : Int))) := Lib.hid x0
  have x0' := hh.out
  have HSe := Lib.hid (fun W (hW : Below w.heap.size w W) => (HS.out W hW).take q)
  clear hcell
  obtain ⟨a0, ha0⟩ : ∃ a, Hid (l.getD 0 0 = a) := ⟨_, Lib.hid rfl⟩
  obtain ⟨a1, ha1⟩ : ∃ a, Hid (l.getD 1 0 = a) := ⟨_, Lib.hid rfl⟩
  rw [ha0.out] at x0 x0' E4 E5 E6
  rw [ha1.out] at x1 E4 E5 E6
  clear hh hx0b hx1b
  by_cases f0 : a0 = 167
  case neg =>
    have g0 : ((a0 : Int) != 167) = true := by simp; omega
    have EF : Hid (Gr.get l = (Gr.zero, 3)) := Lib.hid (E4.out c1 c2 HZ.out (fun e => f0 e.1))
    clear f0
    go_wp2_with (first | (refine wpList_load_struct Try.underlying36 (gramI rfl) rfl rfl rfl HN4.out ?_) | (refine wpList_store_whole rfl rfl rfl rfl rfl HN2.out (gramI rfl) rfl (by simp [Value.oneCell']) ?_; try rw [hw3.out]) | (refine wpList_store_whole rfl rfl rfl rfl rfl HR4.out (gramI rfl) rfl (by simp [Value.oneCell']) ?_))
    refine bodyPost_ret (v := .tuple #[.agg #[.int .u8 0, .int .u8 0, .int .u32 0, .int .u32 0, .int .u16 0, .int .u16 0, .slice none 0 0], .int .i64 3]) ?_ rfl (by rw [EF.out]; exact ⟨_, rfl, Gown.zero _ _, below_row HB4.out (by omega) _⟩)
    exact results_gram2 rfl rfl rfl (HR4.out.row _) rfl

  have g0 : ((a0 : Int) != 167) = false := by simp; omega
  by_cases f1 : a1 = 78
  case neg =>
    have g1 : ((a1 : Int) != 78) = true := by simp; omega
    have EF : Hid (Gr.get l = (Gr.zero, 3)) := Lib.hid (E4.out c1 c2 HZ.out (fun e => f1 e.2))
    clear f0 f1
    go_wp2_with (first | (refine wpList_load_struct Try.underlying36 (gramI rfl) rfl rfl rfl HN4.out ?_) | (refine wpList_store_whole rfl rfl rfl rfl rfl HN2.out (gramI rfl) rfl (by simp [Value.oneCell']) ?_; try rw [hw3.out]) | (refine wpList_store_whole rfl rfl rfl rfl rfl HR4.out (gramI rfl) rfl (by simp [Value.oneCell']) ?_))
    refine bodyPost_ret (v := .tuple #[.agg #[.int .u8 0, .int .u8 0, .int .u32 0, .int .u32 0, .int .u16 0, .int .u16 0, .slice none 0 0], .int .i64 3]) ?_ rfl (by rw [EF.out]; exact ⟨_, rfl, Gown.zero _ _, below_row HB4.out (by omega) _⟩)
    exact results_gram2 rfl rfl rfl (HR4.out.row _) rfl

  have g1 : ((a1 : Int) != 78) = false := by simp; omega
  have E5' := Lib.hid (fun r => E5.out c1 c2 HZ.out ⟨f0, f1⟩ r)
  have E6' := Lib.hid (fun r => E6.out c1 c2 HZ.out ⟨f0, f1⟩ r)
  clear f0 f1 E1 E2 E3 E4 E5 E6 CTl CS
  obtain ⟨m, hm⟩ : ∃ m, Hid ((Gr.ahead l).drop 2 = m) := ⟨_, Lib.hid rfl⟩
  rw [hm.out] at E5' E6'
  have hml : Hid (m.length = q - 2) := Lib.hid (by rw [← hm.out]; unfold Gr.ahead; rw [List.length_drop, List.length_take, hn.out]; omega)
  have hmb : Hid (∀ x ∈ m, x < 256) := Lib.hid (by rw [← hm.out]; exact fun x hx => HBy.out x (List.mem_of_mem_take (List.mem_of_mem_drop hx)))
  have HSm := Lib.hid (fun W (hW : Below w.heap.size w W) => (by
    have k := ((HS.out W hW).take q).drop 2
    rw [← hm.out]
    unfold Gr.ahead
    rw [hn.out, hq.out]
    exact k : Sees .u8 W B (some ⟨bb, off + 2, none⟩) m))
  obtain ⟨cb, hh⟩ : ∃ cb, w4.heap.size = cb := ⟨_, rfl⟩
  obtain ⟨w5, hw5⟩ : ∃ W, w4.alloc (.cells #[.slice (some ⟨bb, off + 2, none⟩) (q - 2) (c - 2), .int .i64 0, .int .i64 0] 69) = W := ⟨_, rfl⟩
  have hW5 : Whole w5 cb 69 #[.slice (some ⟨bb, off + 2, none⟩) (q - 2) (c - 2), .int .i64 0, .int .i64 0] := by rw [← hw5, ← hh]; exact Whole.made _ _ _
  have hb5 : Below w4.heap.size w4 w5 := by rw [← hw5]; exact (Below.refl _ _).alloc (Nat.le_refl _) _
  have hz5 : w5.heap.size = cb + 1 := by rw [← hw5]; simp [hh]
  obtain ⟨gg, w6, hgg, hal6, hz6, hG6, hb6⟩ := var_gram w5
  obtain rfl : gg = cb + 1 := by omega
  obtain ⟨w7, hw7⟩ : ∃ W, Hid (w6.setRow (cb + 1) #[.int .u8 0, .int .u8 0, .int .u32 0, .int .u32 0, .int .u16 0, .int .u16 0, .slice none 0 0] = W) := ⟨_, Lib.hid rfl⟩
  have hG7 : Whole w7 (cb + 1) 36 #[.int .u8 0, .int .u8 0, .int .u32 0, .int .u32 0, .int .u16 0, .int .u16 0, .slice none 0 0] := by rw [← hw7.out]; exact hG6.whole.row _
  have hC7 : Whole w7 cb 69 #[.slice (some ⟨bb, off + 2, none⟩) (q - 2) (c - 2), .int .i64 0, .int .i64 0] := by rw [← hw7.out]; exact (hW5.below hb6 (by omega)).rowOther (by omega) _
  have hb47 : Below w4.heap.size w4 w7 := by rw [← hw7.out]; exact below_row (hb5.trans (hb6.mono (by omega))) (by omega) _
  have hz7 : w7.heap.size = w6.heap.size := by rw [← hw7.out, size_setRow]
  have HB7 := Lib.hid (HB4.out.trans (hb47.mono HB4.out.size))
  have HCu0 : Hid (Cu w7 B cb m 0) := Lib.hid ⟨_, c - 2, m, 0, ⟨by rw [hml.out]; exact hC7, HSm.out w7 HB7.out, by have := HB4.out.size; omega, hmb.out, by rw [hml.out]; omega, by unfold maxLen; omega, (fun e => by cases e), by rw [hml.out]; omega, Nat.zero_le _⟩, rfl⟩
  have HG6 := Lib.hid hG6.whole
  have HG0 := Lib.hid hG7
  have HR7 := Lib.hid (HR4.out.below hb47 (by omega))
  have HN7 := Lib.hid (HN4.out.below hb47 (by omega))
  have hrg : r < cb := by omega
  have hnh : gn < cb := by omega
  have hwh : w.heap.size ≤ cb := by have := HB4.out.size; omega
  have hBh : B ≤ cb + 1 := by have := HB4.out.size; omega
  clear hW5 hb5 hG6 hb6 hC7 hG7 hb47 hz7

  have HPA : Hid (Gr.parse m = ⟨Bm.be (m.take 1), Bm.be ((Gr.d1 m).take 1), Bm.be ((Gr.d2 m).take 4), Bm.be ((Gr.d3 m).take 4), Bm.be ((Gr.d4 m).take 2), Bm.be ((Gr.d5 m).take 2), Gr.d6 m⟩) := Lib.hid rfl
  have HOK : Hid ((Gr.parse m).Ok) := Lib.hid (Gr.mid_parse hmb.out (by rw [hml.out]; have := hq4.out; omega)).2
  have hml14 : 14 ≤ q - 2 := by have := hq4.out; omega
  have K0 : Hid (But2 (cb + 1) cb w7 w7) := Lib.hid ((Only.refl (cb + 1) w7).left cb)
  have D0 := Lib.hid (curfix_any (1 : Int) (by omega) (by omega) HCu0.out)
  have hl0 : Hid (1 ≤ m.length) := Lib.hid (by rw [hml.out]; omega)
  rw [show Bm.rfix m 0 (1 : Int) = (Bm.be (m.take 1), m.drop 1, 0) from Bm.rfix_good (k := 1) (by omega) (by omega) hl0.out] at D0
  have hzb0 : Bm.be (m.take 1) < 256 := Gr.be_lt (k := 1) hmb.out hl0.out
  obtain ⟨z0, hz0v⟩ : ∃ z, Hid (Bm.be (m.take 1) = z) := ⟨_, Lib.hid rfl⟩
  obtain ⟨m1, hd0⟩ : ∃ l, Hid (m.drop 1 = l) := ⟨_, Lib.hid rfl⟩
  rw [hz0v.out] at D0 hzb0
  rw [hd0.out] at D0
  have hln1 : Hid (m1.length = q - 2 - 1) := Lib.hid (by rw [← hd0.out, List.length_drop, hml.out])
  have hmb1 : Hid (∀ x ∈ m1, x < 256) := Lib.hid (by rw [← hd0.out]; exact fun x hx => hmb.out x (List.mem_of_mem_drop hx))
  have hwz0 : IntKind.u8.wrap (z0 : Int) = (z0 : Int) := by rw [IntKind.wrap_u8]; omega
  go_wp2_with (first | (refine wpList_store_whole rfl rfl rfl rfl rfl HG6.out (gramI rfl) rfl (by simp [Value.oneCell']) ?_; rw [hw7.out]) | fail)
  refine (D0.out).mono ?_
  rintro e x0w ⟨rfl, hcu0, hon0⟩
  have hGx0 : Whole x0w (cb + 1) 36 #[.int .u8 0, .int .u8 0, .int .u32 0, .int .u32 0, .int .u16 0, .int .u16 0, .slice none 0 0] := HG0.out.only hon0 (by omega)
  have fc0 := hGx0.free 0
  have fm0 := hGx0.at_ 0
  simp at fm0
  obtain ⟨y0, hy0⟩ : ∃ W, Hid (x0w.setCell ⟨cb + 1, 0, none⟩ (.int .u8 (z0 : Int)) = W) := ⟨_, Lib.hid rfl⟩
  have HG1 : Hid (Whole y0 (cb + 1) 36 #[.int .u8 (z0 : Int), .int .u8 0, .int .u32 0, .int .u32 0, .int .u16 0, .int .u16 0, .slice none 0 0]) := Lib.hid (by
    rw [← hy0.out]
    have := hGx0.put 0 (.int .u8 (z0 : Int))
    simpa using this)
  have HCu1 : Hid (Cu y0 B cb m1 0) := Lib.hid (by rw [← hy0.out]; exact hcu0.only ((Only.refl (cb + 1) _).setCell 0 _) hBh (by omega))
  have K1 : Hid (But2 (cb + 1) cb w7 y0) := Lib.hid (K0.out.trans ((hon0.right (cb + 1)).trans (by rw [← hy0.out]; exact ((Only.refl (cb + 1) _).setCell 0 _).left cb)))
  clear hcu0 hon0 hGx0 D0
  go_wp2_with fail
  rw [hy0.out]
  clear fc0 fm0 hwz0
  have D1 := Lib.hid (curfix_any (1 : Int) (by omega) (by omega) HCu1.out)
  have hl1 : Hid (1 ≤ m1.length) := Lib.hid (by rw [hln1.out]; omega)
  rw [show Bm.rfix m1 0 (1 : Int) = (Bm.be (m1.take 1), m1.drop 1, 0) from Bm.rfix_good (k := 1) (by omega) (by omega) hl1.out] at D1
  have hzb1 : Bm.be (m1.take 1) < 256 := Gr.be_lt (k := 1) hmb1.out hl1.out
  obtain ⟨z1, hz1v⟩ : ∃ z, Hid (Bm.be (m1.take 1) = z) := ⟨_, Lib.hid rfl⟩
  obtain ⟨m2, hd1⟩ : ∃ l, Hid (m1.drop 1 = l) := ⟨_, Lib.hid rfl⟩
  rw [hz1v.out] at D1 hzb1
  rw [hd1.out] at D1
  have hln2 : Hid (m2.length = q - 2 - 2) := Lib.hid (by rw [← hd1.out, List.length_drop, hln1.out]; omega)
  have hmb2 : Hid (∀ x ∈ m2, x < 256) := Lib.hid (by rw [← hd1.out]; exact fun x hx => hmb1.out x (List.mem_of_mem_drop hx))
  have hwz1 : IntKind.u8.wrap (z1 : Int) = (z1 : Int) := by rw [IntKind.wrap_u8]; omega
  refine (D1.out).mono ?_
  rintro e x1w ⟨rfl, hcu1, hon1⟩
  have hGx1 : Whole x1w (cb + 1) 36 #[.int .u8 (z0 : Int), .int .u8 0, .int .u32 0, .int .u32 0, .int .u16 0, .int .u16 0, .slice none 0 0] := HG1.out.only hon1 (by omega)
  have fc1 := hGx1.free 1
  have fm1 := hGx1.at_ 1
  simp at fm1
  obtain ⟨y1, hy1⟩ : ∃ W, Hid (x1w.setCell ⟨cb + 1, 1, none⟩ (.int .u8 (z1 : Int)) = W) := ⟨_, Lib.hid rfl⟩
  have HG2 : Hid (Whole y1 (cb + 1) 36 #[.int .u8 (z0 : Int), .int .u8 (z1 : Int), .int .u32 0, .int .u32 0, .int .u16 0, .int .u16 0, .slice none 0 0]) := Lib.hid (by
    rw [← hy1.out]
    have := hGx1.put 1 (.int .u8 (z1 : Int))
    simpa using this)
  have HCu2 : Hid (Cu y1 B cb m2 0) := Lib.hid (by rw [← hy1.out]; exact hcu1.only ((Only.refl (cb + 1) _).setCell 1 _) hBh (by omega))
  have K2 : Hid (But2 (cb + 1) cb w7 y1) := Lib.hid (K1.out.trans ((hon1.right (cb + 1)).trans (by rw [← hy1.out]; exact ((Only.refl (cb + 1) _).setCell 1 _).left cb)))
  clear hcu1 hon1 hGx1 D1
  go_wp2_with fail
  rw [hy1.out]
  clear fc1 fm1 hwz1
  have D2 := Lib.hid (curfix_any (4 : Int) (by omega) (by omega) HCu2.out)
  have hl2 : Hid (4 ≤ m2.length) := Lib.hid (by rw [hln2.out]; omega)
  rw [show Bm.rfix m2 0 (4 : Int) = (Bm.be (m2.take 4), m2.drop 4, 0) from Bm.rfix_good (k := 4) (by omega) (by omega) hl2.out] at D2
  have hzb2 : Bm.be (m2.take 4) < 4294967296 := Gr.be_lt (k := 4) hmb2.out hl2.out
  obtain ⟨z2, hz2v⟩ : ∃ z, Hid (Bm.be (m2.take 4) = z) := ⟨_, Lib.hid rfl⟩
  obtain ⟨m3, hd2⟩ : ∃ l, Hid (m2.drop 4 = l) := ⟨_, Lib.hid rfl⟩
  rw [hz2v.out] at D2 hzb2
  rw [hd2.out] at D2
  have hln3 : Hid (m3.length = q - 2 - 6) := Lib.hid (by rw [← hd2.out, List.length_drop, hln2.out]; omega)
  have hmb3 : Hid (∀ x ∈ m3, x < 256) := Lib.hid (by rw [← hd2.out]; exact fun x hx => hmb2.out x (List.mem_of_mem_drop hx))
  have hwz2 : IntKind.u32.wrap (z2 : Int) = (z2 : Int) := by rw [IntKind.wrap_u32]; omega
  refine (D2.out).mono ?_
  rintro e x2w ⟨rfl, hcu2, hon2⟩
  have hGx2 : Whole x2w (cb + 1) 36 #[.int .u8 (z0 : Int), .int .u8 (z1 : Int), .int .u32 0, .int .u32 0, .int .u16 0, .int .u16 0, .slice none 0 0] := HG2.out.only hon2 (by omega)
  have fc2 := hGx2.free 2
  have fm2 := hGx2.at_ 2
  simp at fm2
  obtain ⟨y2, hy2⟩ : ∃ W, Hid (x2w.setCell ⟨cb + 1, 2, none⟩ (.int .u32 (z2 : Int)) = W) := ⟨_, Lib.hid rfl⟩
  have HG3 : Hid (Whole y2 (cb + 1) 36 #[.int .u8 (z0 : Int), .int .u8 (z1 : Int), .int .u32 (z2 : Int), .int .u32 0, .int .u16 0, .int .u16 0, .slice none 0 0]) := Lib.hid (by
    rw [← hy2.out]
    have := hGx2.put 2 (.int .u32 (z2 : Int))
    simpa using this)
  have HCu3 : Hid (Cu y2 B cb m3 0) := Lib.hid (by rw [← hy2.out]; exact hcu2.only ((Only.refl (cb + 1) _).setCell 2 _) hBh (by omega))
  have K3 : Hid (But2 (cb + 1) cb w7 y2) := Lib.hid (K2.out.trans ((hon2.right (cb + 1)).trans (by rw [← hy2.out]; exact ((Only.refl (cb + 1) _).setCell 2 _).left cb)))
  clear hcu2 hon2 hGx2 D2
  go_wp2_with fail
  rw [hy2.out]
  clear fc2 fm2 hwz2
  have D3 := Lib.hid (curfix_any (4 : Int) (by omega) (by omega) HCu3.out)
  have hl3 : Hid (4 ≤ m3.length) := Lib.hid (by rw [hln3.out]; omega)
  rw [show Bm.rfix m3 0 (4 : Int) = (Bm.be (m3.take 4), m3.drop 4, 0) from Bm.rfix_good (k := 4) (by omega) (by omega) hl3.out] at D3
  have hzb3 : Bm.be (m3.take 4) < 4294967296 := Gr.be_lt (k := 4) hmb3.out hl3.out
  obtain ⟨z3, hz3v⟩ : ∃ z, Hid (Bm.be (m3.take 4) = z) := ⟨_, Lib.hid rfl⟩
  obtain ⟨m4, hd3⟩ : ∃ l, Hid (m3.drop 4 = l) := ⟨_, Lib.hid rfl⟩
  rw [hz3v.out] at D3 hzb3
  rw [hd3.out] at D3
  have hln4 : Hid (m4.length = q - 2 - 10) := Lib.hid (by rw [← hd3.out, List.length_drop, hln3.out]; omega)
  have hmb4 : Hid (∀ x ∈ m4, x < 256) := Lib.hid (by rw [← hd3.out]; exact fun x hx => hmb3.out x (List.mem_of_mem_drop hx))
  have hwz3 : IntKind.u32.wrap (z3 : Int) = (z3 : Int) := by rw [IntKind.wrap_u32]; omega
  refine (D3.out).mono ?_
  rintro e x3w ⟨rfl, hcu3, hon3⟩
  have hGx3 : Whole x3w (cb + 1) 36 #[.int .u8 (z0 : Int), .int .u8 (z1 : Int), .int .u32 (z2 : Int), .int .u32 0, .int .u16 0, .int .u16 0, .slice none 0 0] := HG3.out.only hon3 (by omega)
  have fc3 := hGx3.free 3
  have fm3 := hGx3.at_ 3
  simp at fm3
  obtain ⟨y3, hy3⟩ : ∃ W, Hid (x3w.setCell ⟨cb + 1, 3, none⟩ (.int .u32 (z3 : Int)) = W) := ⟨_, Lib.hid rfl⟩
  have HG4 : Hid (Whole y3 (cb + 1) 36 #[.int .u8 (z0 : Int), .int .u8 (z1 : Int), .int .u32 (z2 : Int), .int .u32 (z3 : Int), .int .u16 0, .int .u16 0, .slice none 0 0]) := Lib.hid (by
    rw [← hy3.out]
    have := hGx3.put 3 (.int .u32 (z3 : Int))
    simpa using this)
  have HCu4 : Hid (Cu y3 B cb m4 0) := Lib.hid (by rw [← hy3.out]; exact hcu3.only ((Only.refl (cb + 1) _).setCell 3 _) hBh (by omega))
  have K4 : Hid (But2 (cb + 1) cb w7 y3) := Lib.hid (K3.out.trans ((hon3.right (cb + 1)).trans (by rw [← hy3.out]; exact ((Only.refl (cb + 1) _).setCell 3 _).left cb)))
  clear hcu3 hon3 hGx3 D3
  go_wp2_with fail
  rw [hy3.out]
  clear fc3 fm3 hwz3
  have D4 := Lib.hid (curfix_any (2 : Int) (by omega) (by omega) HCu4.out)
  have hl4 : Hid (2 ≤ m4.length) := Lib.hid (by rw [hln4.out]; omega)
  rw [show Bm.rfix m4 0 (2 : Int) = (Bm.be (m4.take 2), m4.drop 2, 0) from Bm.rfix_good (k := 2) (by omega) (by omega) hl4.out] at D4
  have hzb4 : Bm.be (m4.take 2) < 65536 := Gr.be_lt (k := 2) hmb4.out hl4.out
  obtain ⟨z4, hz4v⟩ : ∃ z, Hid (Bm.be (m4.take 2) = z) := ⟨_, Lib.hid rfl⟩
  obtain ⟨m5, hd4⟩ : ∃ l, Hid (m4.drop 2 = l) := ⟨_, Lib.hid rfl⟩
  rw [hz4v.out] at D4 hzb4
  rw [hd4.out] at D4
  have hln5 : Hid (m5.length = q - 2 - 12) := Lib.hid (by rw [← hd4.out, List.length_drop, hln4.out]; omega)
  have hmb5 : Hid (∀ x ∈ m5, x < 256) := Lib.hid (by rw [← hd4.out]; exact fun x hx => hmb4.out x (List.mem_of_mem_drop hx))
  have hwz4 : IntKind.u16.wrap (z4 : Int) = (z4 : Int) := by rw [IntKind.wrap_u16]; omega
  refine (D4.out).mono ?_
  rintro e x4w ⟨rfl, hcu4, hon4⟩
  have hGx4 : Whole x4w (cb + 1) 36 #[.int .u8 (z0 : Int), .int .u8 (z1 : Int), .int .u32 (z2 : Int), .int .u32 (z3 : Int), .int .u16 0, .int .u16 0, .slice none 0 0] := HG4.out.only hon4 (by omega)
  have fc4 := hGx4.free 4
  have fm4 := hGx4.at_ 4
  simp at fm4
  obtain ⟨y4, hy4⟩ : ∃ W, Hid (x4w.setCell ⟨cb + 1, 4, none⟩ (.int .u16 (z4 : Int)) = W) := ⟨_, Lib.hid rfl⟩
  have HG5 : Hid (Whole y4 (cb + 1) 36 #[.int .u8 (z0 : Int), .int .u8 (z1 : Int), .int .u32 (z2 : Int), .int .u32 (z3 : Int), .int .u16 (z4 : Int), .int .u16 0, .slice none 0 0]) := Lib.hid (by
    rw [← hy4.out]
    have := hGx4.put 4 (.int .u16 (z4 : Int))
    simpa using this)
  have HCu5 : Hid (Cu y4 B cb m5 0) := Lib.hid (by rw [← hy4.out]; exact hcu4.only ((Only.refl (cb + 1) _).setCell 4 _) hBh (by omega))
  have K5 : Hid (But2 (cb + 1) cb w7 y4) := Lib.hid (K4.out.trans ((hon4.right (cb + 1)).trans (by rw [← hy4.out]; exact ((Only.refl (cb + 1) _).setCell 4 _).left cb)))
  clear hcu4 hon4 hGx4 D4
  go_wp2_with fail
  rw [hy4.out]
  clear fc4 fm4 hwz4
  have D5 := Lib.hid (curfix_any (2 : Int) (by omega) (by omega) HCu5.out)
  have hl5 : Hid (2 ≤ m5.length) := Lib.hid (by rw [hln5.out]; omega)
  rw [show Bm.rfix m5 0 (2 : Int) = (Bm.be (m5.take 2), m5.drop 2, 0) from Bm.rfix_good (k := 2) (by omega) (by omega) hl5.out] at D5
  have hzb5 : Bm.be (m5.take 2) < 65536 := Gr.be_lt (k := 2) hmb5.out hl5.out
  obtain ⟨z5, hz5v⟩ : ∃ z, Hid (Bm.be (m5.take 2) = z) := ⟨_, Lib.hid rfl⟩
  obtain ⟨m6, hd5⟩ : ∃ l, Hid (m5.drop 2 = l) := ⟨_, Lib.hid rfl⟩
  rw [hz5v.out] at D5 hzb5
  rw [hd5.out] at D5
  have hln6 : Hid (m6.length = q - 2 - 14) := Lib.hid (by rw [← hd5.out, List.length_drop, hln5.out]; omega)
  have hmb6 : Hid (∀ x ∈ m6, x < 256) := Lib.hid (by rw [← hd5.out]; exact fun x hx => hmb5.out x (List.mem_of_mem_drop hx))
  have hwz5 : IntKind.u16.wrap (z5 : Int) = (z5 : Int) := by rw [IntKind.wrap_u16]; omega
  refine (D5.out).mono ?_
  rintro e x5w ⟨rfl, hcu5, hon5⟩
  have hGx5 : Whole x5w (cb + 1) 36 #[.int .u8 (z0 : Int), .int .u8 (z1 : Int), .int .u32 (z2 : Int), .int .u32 (z3 : Int), .int .u16 (z4 : Int), .int .u16 0, .slice none 0 0] := HG5.out.only hon5 (by omega)
  have fc5 := hGx5.free 5
  have fm5 := hGx5.at_ 5
  simp at fm5
  obtain ⟨y5, hy5⟩ : ∃ W, Hid (x5w.setCell ⟨cb + 1, 5, none⟩ (.int .u16 (z5 : Int)) = W) := ⟨_, Lib.hid rfl⟩
  have HG6 : Hid (Whole y5 (cb + 1) 36 #[.int .u8 (z0 : Int), .int .u8 (z1 : Int), .int .u32 (z2 : Int), .int .u32 (z3 : Int), .int .u16 (z4 : Int), .int .u16 (z5 : Int), .slice none 0 0]) := Lib.hid (by
    rw [← hy5.out]
    have := hGx5.put 5 (.int .u16 (z5 : Int))
    simpa using this)
  have HCu6 : Hid (Cu y5 B cb m6 0) := Lib.hid (by rw [← hy5.out]; exact hcu5.only ((Only.refl (cb + 1) _).setCell 5 _) hBh (by omega))
  have K6 : Hid (But2 (cb + 1) cb w7 y5) := Lib.hid (K5.out.trans ((hon5.right (cb + 1)).trans (by rw [← hy5.out]; exact ((Only.refl (cb + 1) _).setCell 5 _).left cb)))
  clear hcu5 hon5 hGx5 D5
  go_wp2_with fail
  rw [hy5.out]
  clear fc5 fm5 hwz5
  have CL := Lib.hid (curLeft_any HCu6.out)
  rw [Bm.left_ok] at CL
  obtain ⟨nb, hnb⟩ : ∃ n, Hid (m6.length = n) := ⟨_, Lib.hid rfl⟩
  have CT := Lib.hid (fun k => curtake_any (m6.length : Int) (by omega) (by rw [hln6.out]; omega) (HCu6.out.drewN k))
  rw [Bm.take_good (k := m6.length) (Nat.le_refl _), List.take_length] at CT
  rw [hnb.out] at CL CT
  refine (CL.out).mono ?_
  rintro e xl ⟨rfl, kq, rfl⟩
  go_wp2_with fail
  refine (CT.out kq).mono ?_
  rintro e xt ⟨vb, rfl, hov, hcu, hon⟩
  obtain ⟨Av, cv, rfl, _⟩ := own_look hov
  have hGt : Whole xt (cb + 1) 36 #[.int .u8 (z0 : Int), .int .u8 (z1 : Int), .int .u32 (z2 : Int), .int .u32 (z3 : Int), .int .u16 (z4 : Int), .int .u16 (z5 : Int), .slice none 0 0] := (show Whole (y5.drewN kq) (cb + 1) _ _ from HG6.out).only hon (by omega)
  have fc := hGt.free 6
  have fm := hGt.at_ 6
  simp at fm
  have hcy : cb + 1 < y5.heap.size := HG6.out.lt
  obtain ⟨yt, hyt⟩ : ∃ W, Hid (xt.setCell ⟨cb + 1, 6, none⟩ (.slice Av nb cv) = W) := ⟨_, Lib.hid rfl⟩
  have HGt : Hid (Whole yt (cb + 1) 36 #[.int .u8 (z0 : Int), .int .u8 (z1 : Int), .int .u32 (z2 : Int), .int .u32 (z3 : Int), .int .u16 (z4 : Int), .int .u16 (z5 : Int), .slice Av nb cv]) := Lib.hid (by
    rw [← hyt.out]
    have := hGt.put 6 (.slice Av nb cv)
    simpa using this)
  have HOt : Hid (yt.ownsRow y5.heap.size 5 1 (.slice Av nb cv) m6.length (ints .u8 m6)) := Lib.hid (by rw [← hyt.out]; exact own_set (by rw [hnb.out]; exact hov) hcy _)
  have KT : Hid (But2 (cb + 1) cb w7 yt) := Lib.hid (K6.out.trans (((show But2 (cb + 1) cb y5 (y5.drewN kq) from (But2.refl _ _ _).drewN kq)).trans ((hon.right (cb + 1)).trans (by rw [← hyt.out]; exact ((Only.refl (cb + 1) _).setCell 6 _).left cb))))
  clear hov hcu hon hGt CL CT
  have PG : Hid (Gr.parse m = ⟨z0, z1, z2, z3, z4, z5, m6⟩) := Lib.hid (by
    rw [HPA.out]
    have e1 : Gr.d1 m = m1 := hd0.out
    have e2 : Gr.d2 m = m2 := by unfold Gr.d2; rw [e1]; exact hd1.out
    have e3 : Gr.d3 m = m3 := by unfold Gr.d3; rw [e2]; exact hd2.out
    have e4 : Gr.d4 m = m4 := by unfold Gr.d4; rw [e3]; exact hd3.out
    have e5 : Gr.d5 m = m5 := by unfold Gr.d5; rw [e4]; exact hd4.out
    have e6 : Gr.d6 m = m6 := by unfold Gr.d6; rw [e5]; exact hd5.out
    rw [e1, e2, e3, e4, e5, e6, hz0v.out, hz1v.out, hz2v.out, hz3v.out, hz4v.out, hz5v.out])
  rw [PG.out] at HOK E5' E6'
  have HGvt : Hid (Gv yt yt.heap.size ⟨z0, z1, z2, z3, z4, z5, m6⟩ (.agg #[.int .u8 (z0 : Int), .int .u8 (z1 : Int), .int .u32 (z2 : Int), .int .u32 (z3 : Int), .int .u16 (z4 : Int), .int .u16 (z5 : Int), .slice Av nb cv])) := Lib.hid (by
    have hp := own_piece HOt.out
    rw [← hnb.out] at hp ⊢
    exact ⟨⟨Av, cv, rfl, hp⟩, HOK.out⟩)
  have CR := Lib.hid (rright18_any HGvt.out)
  obtain ⟨G, hG⟩ : ∃ G, Hid ((⟨z0, z1, z2, z3, z4, z5, m6⟩ : Gd) = G) := ⟨_, Lib.hid rfl⟩
  rw [hG.out] at CR E5' E6' HOK
  obtain ⟨rg, hrg2⟩ : ∃ n, Hid (Gr.right G = n) := ⟨_, Lib.hid rfl⟩
  rw [hrg2.out] at CR E5' E6'
  have HRt : Hid (Whole yt r 36 #[.int .u8 0, .int .u8 0, .int .u32 0, .int .u32 0, .int .u16 0, .int .u16 0, .slice none 0 0]) := Lib.hid ((KT.out.block r HR7.out.lt (by omega) (by omega)).trans HR7.out)
  have HNt : Hid (Whole yt gn 36 #[.int .u8 0, .int .u8 0, .int .u32 0, .int .u32 0, .int .u16 0, .int .u16 0, .slice none 0 0]) := Lib.hid ((KT.out.block gn HN7.out.lt (by omega) (by omega)).trans HN7.out)
  have HBt : Hid (Below w.heap.size w yt) := Lib.hid (HB7.out.trans (KT.out.below (by omega) hwh HB7.out.size))
  have hrt : cb + 1 < yt.heap.size := HGt.out.lt
  have hwy : w.heap.size ≤ y5.heap.size := by have := HB7.out.size; have := K6.out.size; omega
  go_wp2_with (rw [hyt.out]; refine wpList_load_struct Try.underlying36 (gramI rfl) rfl rfl rfl HGt.out ?_)
  refine (CR.out).mono ?_
  rintro e xr ⟨rfl, hbr⟩
  have HBr := Lib.hid (HBt.out.trans (hbr.mono HBt.out.size))
  have HRr := Lib.hid (HRt.out.below hbr (by omega))
  have HNr := Lib.hid (HNt.out.below hbr (by omega))
  have HGr := Lib.hid (HGt.out.below hbr hrt)
  have HOr := Lib.hid (own_below HOt.out hbr)
  clear hbr CR
  by_cases h0 : rg = 0
  · have EF : Hid (Gr.get l = (G, 0)) := Lib.hid (E6'.out h0)
    subst h0
    go_wp2_with (first | (refine wpList_load_struct Try.underlying36 (gramI rfl) rfl rfl rfl HGr.out ?_) | (refine wpList_store_whole rfl rfl rfl rfl rfl HRr.out (gramI rfl) rfl (by simp [Value.oneCell']) ?_))
    refine bodyPost_ret (v := .tuple #[.agg #[.int .u8 (z0 : Int), .int .u8 (z1 : Int), .int .u32 (z2 : Int), .int .u32 (z3 : Int), .int .u16 (z4 : Int), .int .u16 (z5 : Int), .slice Av nb cv], .int .i64 0]) ?_ rfl (by
      rw [EF.out]
      refine ⟨_, rfl, ⟨⟨.slice Av nb cv, ?_, ?_⟩, HOK.out⟩, below_row HBr.out (by omega) _⟩
      · rw [← hG.out]
      · rw [← hG.out]
        exact own_lower1 (own_setrow HOr.out (by have := HB7.out.size; omega) _) hwy)
    exact results_gram2 rfl rfl rfl (HRr.out.row _) rfl
  · have EF : Hid (Gr.get l = (Gr.zero, rg)) := Lib.hid (E5'.out h0)
    have hne : ((rg : Int) != 0) = true := by simp; omega
    clear h0
    go_wp2_with (first | (refine wpList_load_struct Try.underlying36 (gramI rfl) rfl rfl rfl HNr.out ?_) | (refine wpList_store_whole rfl rfl rfl rfl rfl HRr.out (gramI rfl) rfl (by simp [Value.oneCell']) ?_))
    refine bodyPost_ret (v := .tuple #[.agg #[.int .u8 0, .int .u8 0, .int .u32 0, .int .u32 0, .int .u16 0, .int .u16 0, .slice none 0 0], .int .i64 (rg : Int)]) ?_ rfl (by rw [EF.out]; exact ⟨_, rfl, Gown.zero _ _, below_row HBr.out (by omega) _⟩)
    exact results_gram2 rfl rfl rfl (HRr.out.row _) rfl
end Go.Proofs.Ytbhdgfpaoghnbaa
