/- The walk of the law AsmWhole. -/
import Derived.Test.YtbhdgfpaoghnbaaRsq19
import Derived.Test.YtbhdgfpaoghnbaaRgg18
import Derived.Test.YtbhdgfpaoghnbaaPS
import Derived.Test.YtbhdgfpaoghnbaaAwake23
import Derived.Test.YtbhdgfpaoghnbaaIrow
namespace Go.Proofs.Ytbhdgfpaoghnbaa
open Go.RowKit
set_option linter.unusedVariables false
set_option maxRecDepth 100000
set_option linter.unusedSimpArgs false

def flags (N : Nat) (S : List Nat) : List Value := (List.range N).map (fun i => Value.bool (S.contains i))
theorem flags_nil (N : Nat) : flags N [] = List.replicate N (.bool false) := by
  unfold flags
  apply List.ext_getElem
  · simp
  · intro i h1 h2; simp
theorem flags_get {N i : Nat} (S : List Nat) (h : i < N) : (flags N S)[i]? = some (.bool (S.contains i)) := by simp [flags, h]
theorem flags_set {N j : Nat} (S : List Nat) (h : j < N) : (flags N S).set j (.bool true) = flags N (S ++ [j]) := by
  apply List.ext_getElem
  · simp [flags]
  · intro i h1 h2
    rw [List.getElem_set]
    by_cases e : j = i
    · subst e; simp [flags]
    · have e' : ¬ i = j := fun h => e h.symm
      simp [flags, e, e']
theorem own_here {w W : World} {base : Nat} {v : Value} {l : List Nat} (ho : w.ownsRow base 5 1 v l.length (ints .u8 l)) (hs : ∀ b, base ≤ b → b < w.heap.size → W.heap[b]? = w.heap[b]?) : Piece W w.heap.size v l := by
  obtain ⟨A, c, e, h1, h2, h3, h4⟩ := own_look ho
  refine ⟨A, c, e, fun hl => ?_, h3, h1, h2⟩
  have cell : ∀ j, j < l.length → ∃ b, A = some ⟨b, 0, none⟩ ∧ base ≤ b ∧ b < w.heap.size ∧ w.cell? ⟨b, j, none⟩ = some (.int .u8 ((l.getD j 0 : Nat) : Int)) := fun j hj => h4 j _ (ints_get .u8 l j hj)
  obtain ⟨b, e1, hb, hlt, _⟩ := cell 0 hl
  refine ⟨b, 0, e1, hlt, fun j hj => ?_⟩
  obtain ⟨b', e2, _, _, hc⟩ := cell j hj
  rw [e1] at e2
  cases e2
  rw [Nat.zero_add]
  unfold World.cell? at hc ⊢
  rw [hs b hb hlt]
  exact hc
theorem boolT23 : Try.prog.underlying 45 = some (.slice 4) := Try.underlying45
theorem boolI23 : (Try.prog.info? 4).map (fun i => (i.zero, i.size, i.bytes)) = some (some (.bool false), 1, 1) := by kernel_rfl
theorem make_bools (N : Nat) (hN : N ≤ 65535) (w : World) (base : Nat) (hb : base ≤ w.heap.size) : ∃ w', (Instr.makeSlice 45 (.int .i64 (N : Int)) (.int .i64 (N : Int))).run Try.prog w = .ok (.slice (some ⟨w.heap.size, 0, none⟩) N N) w' ∧ w'.ownsRow base 4 1 (.slice (some ⟨w.heap.size, 0, none⟩) N N) N (flags N []) ∧ Below w.heap.size w w' := by
  obtain ⟨i, hi, hz, hs, hb'⟩ := info_parts boolI23
  obtain ⟨w', h1, h2, h3⟩ := run_make_full (w := w) base 45 4 i (.bool false) 1 boolT23 hi hz hs .i64 .i64 N (by rw [hb']; omega) (by unfold maxLen; omega) hb
  refine ⟨w', h1, ?_, ⟨h3.os, h3.tape, h3.output, h3.size, fun k hk => h3.block k hk (by simp)⟩⟩
  rw [flags_nil]
  have : (madeCells (Value.bool false).cells (N * 1)).toList = List.replicate N (.bool false) := by rw [Nat.mul_one]; exact toList_madeCells_one _ _
  rw [this] at h2
  exact h2
theorem lim_ok : Aq.lim.Ok := ⟨by decide, by decide, by decide, by decide, by decide, by decide⟩
theorem own_set23 {w : World} {base n sz g i : Nat} {t : TypeId} {v : Value} {xs : List Value} (h : w.ownsRow base t sz v n xs) (hg : g < base) (u : Value) : (w.setCell ⟨g, i, none⟩ u).ownsRow base t sz v n xs := by
  obtain ⟨h1, h2⟩ := h
  refine ⟨h1, ?_⟩
  rcases h2 with h2 | ⟨q, cap, cur, hv, hq, hh, r⟩
  · exact .inl h2
  · exact .inr ⟨q, cap, cur, hv, hq, by rw [heap_setCell_other w ⟨g, i, none⟩ q u (by show q ≠ g; omega)]; exact hh, r⟩
theorem split_one {m : Int} {g : Gd} (h : (Sp.split m g).2 = 0) : ∃ r, 0 < r ∧ r ≤ 65487 ∧ Sp.many r g.body.length ≤ 65535 ∧ ¬ (g.kind < 1 ∨ 2 < g.kind) ∧ (Sp.split m g).1 = Sp.ahead g r (Sp.many r g.body.length) (Sp.many r g.body.length) := by
  by_cases h1 : (Sp.count m g.body.length).2 = 0
  · by_cases k : g.kind < 1 ∨ 2 < g.kind
    · rw [Sp.split_kind h1 k] at h; cases h
    · obtain ⟨e1, e2, e3⟩ := Sp.count_ok h1
      rw [Sp.split_good h1 k]
      exact ⟨Sp.room m, e1, Sp.room_le m, e3, k, by rw [e2]⟩
  · rw [Sp.split_bad h1] at h; exact absurd h h1
theorem st_nil {M : Aq.Msg} {x : Nat} (hM : M.Ok x) : Aq.st M [] = An.zero := by
  unfold Aq.st
  rw [if_neg (by have := hM.some_; simp; omega), if_pos rfl]
  rfl
set_option maxHeartbeats 8000000 in
theorem asmWhole_walk (mtu : Int) (g : Gd) (V : Value) (A : Option Addr) (len cap : Nat) (l : List Int) (w : World) (wm : (Lit.int .i64 mtu).wf = true) (H : Gv w w.heap.size g V) (R : RowI w A len cap l) :
    Calls Try.prog 4 #[.int .i64 mtu, V, .slice A len cap] w fun e w' => e = .returned (.bool true) ∧ Below w.heap.size w w' := by
  obtain ⟨m0, m1⟩ := bounds_i64 wm
  obtain ⟨bx, Ab, cb, w0, rfl, hbx, hal, hsz0, hGx, hb0⟩ := boxedG H
  have HGx := Lib.hid hGx
  have HB0 : Hid (Below w.heap.size w w0) := Lib.hid (by rw [hbx]; exact hb0)
  have HEnd : Hid (∀ W, Below w0.heap.size w0 W → Below w.heap.size w W) := Lib.hid (fun W h => HB0.out.trans (h.mono HB0.out.size))
  have HR := Lib.hid (R.kept HB0.out)
  have hlen := R.le
  have hmax := R.max
  have hle := R.len_eq
  unfold maxLen at hmax
  obtain ⟨c0, c1, c2, c3, c4, c5, c6⟩ := hGx.cells
  obtain ⟨_, _, _, _, _, _, hbyte⟩ := HGx.out.ok
  have hkb := HGx.out.ok.kind
  have HLE := Lib.hid hle
  clear hGx H R hb0 hle
  obtain ⟨y, hy⟩ : ∃ y, Hid (g.body.length = y) := ⟨_, Lib.hid rfl⟩
  obtain ⟨kd, hkd⟩ : ∃ y, Hid (g.kind = y) := ⟨_, Lib.hid rfl⟩
  rw [hkd.out] at c0 hal hkb ⊢
  rw [hy.out] at c6 hal ⊢
  have HSp := Lib.hid (fun (hl : g.body.length ≤ 1000000000) => rsplit19_any HGx.out.gv hl m0 m1)
  rw [hkd.out, hy.out] at HSp
  have HAn := Lib.hid (fun W => anew23_any Aq.lim lim_ok W)
  go_enter Try.func4, Try.ntmps4
  by_cases hbig : 1500 < y
  · go_wp2_with fail
    refine (awake23 _).mono ?_
    rintro e w1 ⟨rfl, hb⟩
    have HB := Lib.hid hb
    clear hb
    go_wp2_with fail
    go_ret
    exact ⟨rfl, HEnd.out _ HB.out⟩
  by_cases hmany : 300 < len
  · go_wp2_with fail
    refine (awake23 _).mono ?_
    rintro e w1 ⟨rfl, hb⟩
    have HB := Lib.hid hb
    clear hb
    go_wp2_with fail
    go_ret
    exact ⟨rfl, HEnd.out _ HB.out⟩
  by_cases hk1 : kd = 1
  · subst hk1
    have hSp := Lib.hid (HSp.out (by omega))
    clear HSp
    obtain ⟨r, hr⟩ : ∃ r, Hid (Sp.split mtu g = r) := ⟨_, Lib.hid rfl⟩
    have HOne := Lib.hid (fun h => split_one (m := mtu) (g := g) h)
    rw [hr.out] at hSp HOne
    obtain ⟨ls, x⟩ := r
    simp only at HOne
    have hg1 : ((1 : Nat) : Int) = 1 := rfl
    rw [hg1] at c0 hSp hal
    clear hg1
    go_wp2_with fail
    refine (hSp.out).mono ?_
    rintro e w1 ⟨v1, rfl, hbo, hb1⟩
    have HBl := Lib.hid hbo.bl
    have HB1 := Lib.hid hb1
    simp only at HBl
    clear hbo hb1 hSp
    go_wp2_with fail
    refine (HAn.out _).mono ?_
    rintro e w2 ⟨p, rfl, hp, hb2⟩
    have HB2 := Lib.hid (HB1.out.trans (hb2.mono HB1.out.size))
    by_cases hx : x = 0
    · subst hx
      obtain ⟨r, hr0, hr1, hN, hkk, hls⟩ := HOne.out rfl
      have HLo := Lib.hid (Lone23.new (w := w1) hp (fun b hb => hb.1) hb2)
      have hz12 := hb2.size
      clear hp hb2
      have hMok := Aq.of_ok (g := g) hr0 (by rw [hy.out]; omega)
      have hML := Aq.of_len g r (Sp.many r g.body.length)
      have hMF := Aq.of_flat (g := g) (r := r) (Sp.many_all hr0 g.body.length)
      have HMG := Lib.hid (fun i (hi : i < Sp.many r g.body.length) => Aq.of_gd (g := g) (r := r) hkd.out hi)
      have HPo := Lib.hid (fun i (hi : i < Sp.many r g.body.length) => Sp.part_ok HGx.out.ok (r := r) hN hi)
      have HPr := Lib.hid (fun i (hi : i < Sp.many r g.body.length) => Sp.part_right (g := g) hkk hr1 hi)
      have HE1 : Hid (∀ W, Below w1.heap.size w1 W → Below w.heap.size w W) := Lib.hid (fun W h => HEnd.out W (HB1.out.trans (h.mono HB1.out.size)))
      obtain ⟨N, hNN⟩ : ∃ N, Hid (Sp.many r g.body.length = N) := ⟨_, Lib.hid rfl⟩
      rw [hNN.out] at hN hls hMok hML hMF HMG HPo HPr
      have HPl := Lib.hid (fun i => Sp.part_len g r N i)
      rw [hls] at HBl
      obtain ⟨A1, a1, rfl, hz1, hz2, hz3⟩ := HBl.out.shape
      have HAt : Hid (∀ i, i < N → ∃ b off u, A1 = some ⟨b, off, none⟩ ∧ b < w1.heap.size ∧ ∀ W, Below w1.heap.size w1 W → W.cell? ⟨b, off + i, none⟩ = some u ∧ Piece W w1.heap.size u (Gr.bytes (Sp.part g r N i))) := Lib.hid (fun i hi => by
        have h := HBl.out.all_ (i := i) (by rw [Sp.ahead_length]; exact hi)
        rw [Sp.ahead_get] at h
        exact h)
      rw [Sp.ahead_length] at hz1
      rw [Sp.ahead_length]
      obtain ⟨M, hMM⟩ : ∃ M, Hid (Aq.msgOf g r N = M) := ⟨_, Lib.hid rfl⟩
      rw [hMM.out] at hMok hML hMF HMG
      have HM := Lib.hid hMok
      have HML := Lib.hid hML
      have HMF := Lib.hid hMF
      have hN1 : 1 ≤ N := by rw [← hML]; exact hMok.some_
      have HLs := Lib.hid hls
      unfold maxLen at hz2
      obtain ⟨w3, hmk, hown, hb3⟩ := make_bools N hN w2 w1.heap.size hz12
      have HK0 : Hid (Kin23 w1 p Aq.lim (Aq.st M []) 4 1 (.slice (some ⟨w2.heap.size, 0, none⟩) N N) N (flags N []) w3) := Lib.hid (by
        rw [st_nil HM.out]
        obtain ⟨F, k1, k2, k3⟩ := HLo.out
        exact ⟨F, k1.keep (fun b hb' => hb3.block b (k1.lt b hb')), k2, k3.trans (hb3.mono k3.size), hown, fun k hk hF => by injection hk with hk; subst hk; exact Nat.lt_irrefl _ (k1.lt _ hF)⟩)
      obtain ⟨tb, htb⟩ : ∃ z, w2.heap.size = z := ⟨_, rfl⟩
      rw [htb] at hmk HK0
      clear hown hMok hML hMF hls HBl hb3 hkk HOne hz12
      go_wp2_with fail
      go_loopw [12, 13, 14] (fun mv cv iv wr => ∃ (i q c : Nat) (S : List Nat), iv = .int .i64 i ∧ i ≤ len ∧ mv = .int .i64 q ∧ cv = .int .i64 c ∧ Hid (q + S.length = N) ∧ Hid (c = if q = 0 then 1 else 0) ∧ Hid (Kin23 w1 p Aq.lim (Aq.st M S) 4 1 (.slice (some ⟨tb, 0, none⟩) N N) N (flags N S) wr) ∧ Hid (Aq.Taken M S) ∧ Hid ((Aq.st M S).Ok Aq.lim)) (fun _ _ iv _ => len - (intOf iv).toNat)
      case atStart => exact ⟨0, N, 0, [], rfl, Nat.zero_le _, rfl, rfl, Lib.hid (by simp), Lib.hid (by rw [if_neg (by omega)]), HK0, Lib.hid ⟨by simp, fun i hi => by cases hi⟩, Lib.hid (by rw [st_nil HM.out]; exact An.ok_zero _)⟩
      case round =>
        obtain ⟨i, q, c, S, rfl, hi, rfl, rfl, HQ, HC, HK, HT, HO⟩ := hrel
        by_cases hil : i < len
        · have hi' : i < l.length := by rw [HLE.out]; exact hil
          obtain ⟨bp, op, hA, hbp, hcp⟩ := HR.out.at_ (HB1.out.trans (HK.out.below.mono HB1.out.size)) hi'
          subst hA
          have hzr := HR.out.ok l[i] (List.getElem_mem hi')
          obtain ⟨z, hz⟩ : ∃ z, Hid (l[i] = z) := ⟨_, Lib.hid rfl⟩
          rw [hz.out] at hcp hzr
          by_cases hneg : z < 0
          · go_wp2_with fail
            go_roundw
            case rel => exact ⟨i + 1, q, c, S, by go_num, by omega, rfl, rfl, HQ, HC, HK, HT, HO⟩
            case measure => simp [intOf]; omega
          by_cases hout : (N : Int) ≤ z
          · go_wp2_with fail
            go_roundw
            case rel => exact ⟨i + 1, q, c, S, by go_num, by omega, rfl, rfl, HQ, HC, HK, HT, HO⟩
            case measure => simp [intOf]; omega
          obtain ⟨j, rfl⟩ : ∃ j : Nat, z = (j : Int) := ⟨z.toNat, by omega⟩
          have hjN : j < N := by omega
          obtain ⟨bl, ol, ub, hA1, hbl, hat⟩ := HAt.out j hjN
          subst hA1
          obtain ⟨hcl, hpc⟩ := hat wr HK.out.below
          have HG := Lib.hid (rgget18_any hpc HK.out.below.size (Gr.bytes_byte (HPo.out j hjN)) (by rw [Gr.bytes_length, HPl.out]; omega))
          rw [Gr.get_put (HPo.out j hjN) (HPr.out j hjN), ← HMG.out j hjN] at HG
          clear hat hpc
          have hnl : ¬ (j : Int) < 0 := by omega
          go_wp2_with fail
          refine (HG.out).mono ?_
          rintro e x1 ⟨v1, rfl, ⟨⟨vb, rfl, hov⟩, hgok⟩, hb1⟩
          have HOld := Lib.hid (fun h : j ∈ S => Aq.take_old HM.out HT.out h)
          have HNew := Lib.hid (fun h : j ∉ S => Aq.take_new HM.out HT.out (by rw [HML.out]; exact hjN) h)
          have hgl : (Aq.gd M j).body.length ≤ 1000000 := by rw [HMG.out j hjN, HPl.out, hy.out]; omega
          obtain ⟨gj, hgj⟩ : ∃ x, Hid (Aq.gd M j = x) := ⟨_, Lib.hid rfl⟩
          rw [hgj.out] at hov hgok hgl HOld HNew ⊢
          obtain ⟨Ag, cg, rfl, _⟩ := own_look hov
          obtain ⟨bq, q1, q2, hq1, hq2, hWq, hq3, hGq, hcq, hlq⟩ := var_lit hgok (n := gj.body.length) rfl (own_piece hov)
          have HWq := Lib.hid hWq
          have hb2 : Below wr.heap.size wr q2 := hb1.trans (hcq.mono hb1.size)
          have TK := Lib.hid (atake_far HK.out hb2 lim_ok HO.out 7 (by decide) (fun W1 hs => (⟨⟨Ag, cg, rfl, own_here (own_below hov hcq) hs⟩, hgok⟩ : Gv W1 q2.heap.size gj _)) hgl)
          have HO2 := Lib.hid (An.take_ok HO.out lim_ok hgok (sender := 7) (by decide))
          obtain ⟨yl, hyl⟩ : ∃ x, Hid (gj.body.length = x) := ⟨_, Lib.hid rfl⟩
          obtain ⟨y0, y1, y2, y3, y4, y5, y6⟩ := hGq.cells
          have HTb : Hid (tb < q2.heap.size) := Lib.hid (Nat.lt_of_lt_of_le (HK.out.row.lt tb rfl).2 hb2.size)
          rw [hyl.out] at y6 TK hq3 ⊢
          clear hov hgl hWq hGq hcq hlq hb1 hb2 HG hcl
          by_cases hjS : j ∈ S
          · have hold := HOld.out hjS
            rw [hold] at TK HO2
            have hcn : S.contains j = true := by simpa using hjS
            clear hold
            go_wp2_with (refine wpList_store_whole rfl rfl rfl rfl rfl HWq.out (gramI rfl) rfl (by simp [Value.oneCell']) ?_; rw [hq3])
            refine (TK.out).mono ?_
            rintro e x2 ⟨u2, rfl, ho2, hk2, _⟩
            have HK2 := Lib.hid hk2
            have hcb : x2.cell? ⟨tb, j, none⟩ = some (.bool true) := by rw [HK2.out.row.cellAt j (by omega), flags_get S hjN, hcn]
            clear ho2 hk2 hcn
            go_wp2_with fail
            go_roundw
            case rel => exact ⟨i + 1, q, c, S, by go_num, by omega, rfl, rfl, HQ, HC, HK2, HT, HO⟩
            case measure => simp [intOf]; omega
          · have hnew := HNew.out hjS
            rw [hnew] at TK HO2
            have hcn : S.contains j = false := by simpa using hjS
            have hT2 := HT.out.push (i := j) (by rw [HML.out]; exact hjN) hjS
            have HT2 := Lib.hid hT2
            have hle2 := hT2.len
            rw [List.length_append, List.length_singleton, HML.out] at hle2
            have hQ := HQ.out
            obtain ⟨r1, hr1⟩ : ∃ r1, Hid (q = r1 + 1) := ⟨q - 1, Lib.hid (by omega)⟩
            have HC0 : Hid (c = 0) := Lib.hid (by rw [HC.out, hr1.out]; exact if_neg (by omega))
            have hwr : IntKind.i64.wrap ((q : Int) - 1) = (r1 : Int) := by rw [IntKind.wrap_i64]; have := hr1.out; omega
            have HQ2 : Hid (r1 + (S ++ [j]).length = N) := Lib.hid (by rw [List.length_append, List.length_singleton]; have := hr1.out; omega)
            have HFul : Hid (S.length + 1 = M.ps.length ↔ r1 = 0) := Lib.hid (by rw [HML.out]; have := hr1.out; omega)
            rw [HMF.out] at TK
            clear hnew hle2 hQ hT2
            by_cases hful : r1 = 0
            · have hful1 := HFul.out.2 hful
              rw [if_pos hful1, decide_eq_true hful1] at TK
              subst hful
              have hc0 := HC0.out
              subst hc0
              clear hful1
              go_wp2_with (refine wpList_store_whole rfl rfl rfl rfl rfl HWq.out (gramI rfl) rfl (by simp [Value.oneCell']) ?_; rw [hq3])
              refine (TK.out).mono ?_
              rintro e x2 ⟨u2, rfl, ho2, hk2, _⟩
              have HK2 := Lib.hid hk2
              have hcb : x2.cell? ⟨tb, j, none⟩ = some (.bool false) := by rw [HK2.out.row.cellAt j (by omega), flags_get S hjN, hcn]
              have hfr : x2.frozen? ⟨tb, j, none⟩ = false := HK2.out.row.frozenAt j
              obtain ⟨x3, hx3⟩ : ∃ W, x2.setCell ⟨tb, j, none⟩ (.bool true) = W := ⟨_, rfl⟩
              have hst := HK2.out.row.stored j (.bool true)
              rw [hx3, flags_set S hjN] at hst
              have HK3 := Lib.hid (HK2.out.turn hst.1 rfl hst.2)
              have ho3 : x3.ownsRow q2.heap.size 5 1 u2 g.body.length (ints .u8 g.body) := by rw [← hx3]; exact own_set23 ho2 HTb.out _
              have hP3 := own_piece ho3
              have hP0 := HGx.out.piece.below (HB1.out.trans (HK3.out.below.mono HB1.out.size) |>.mono (by omega))
              have hbc : x3.cell? ⟨bx, 6, none⟩ = some (.slice Ab y cb) := by
                have := (HGx.out.kept (HB1.out.trans (HK3.out.below.mono HB1.out.size))).cells.2.2.2.2.2.2
                rw [hy.out] at this
                exact this
              obtain ⟨A3, k3, rfl, _⟩ := own_look ho3
              have hv1 := hP3.conv
              have hv2 := hP0.conv
              rw [hy.out] at hv1 hv2 ⊢
              obtain ⟨sg, hsg⟩ : ∃ x, Hid (strOf g.body = x) := ⟨_, Lib.hid rfl⟩
              rw [hsg.out] at hv1 hv2
              clear ho2 hk2 hcn hst ho3 hP3 hP0
              go_wp2_with fail
              go_roundw
              case rel => exact ⟨i + 1, 0, 1, S ++ [j], by go_num, by omega, rfl, rfl, HQ2, Lib.hid rfl, HK3, HT2, HO2⟩
              case measure => simp [intOf]; omega
            · have hful1 : ¬ S.length + 1 = M.ps.length := fun h => hful (HFul.out.1 h)
              rw [if_neg hful1, decide_eq_false hful1] at TK
              clear hful1
              go_wp2_with (refine wpList_store_whole rfl rfl rfl rfl rfl HWq.out (gramI rfl) rfl (by simp [Value.oneCell']) ?_; rw [hq3])
              refine (TK.out).mono ?_
              rintro e x2 ⟨u2, rfl, ho2, hk2, _⟩
              have HK2 := Lib.hid hk2
              have hcb : x2.cell? ⟨tb, j, none⟩ = some (.bool false) := by rw [HK2.out.row.cellAt j (by omega), flags_get S hjN, hcn]
              have hfr : x2.frozen? ⟨tb, j, none⟩ = false := HK2.out.row.frozenAt j
              obtain ⟨x3, hx3⟩ : ∃ W, x2.setCell ⟨tb, j, none⟩ (.bool true) = W := ⟨_, rfl⟩
              have hst := HK2.out.row.stored j (.bool true)
              rw [hx3, flags_set S hjN] at hst
              have HK3 := Lib.hid (HK2.out.turn hst.1 rfl hst.2)
              clear ho2 hk2 hcn hst
              have HC2 : Hid (c = if r1 = 0 then 1 else 0) := Lib.hid (by rw [if_neg hful]; exact HC0.out)
              go_wp2_with fail
              go_roundw
              case rel => exact ⟨i + 1, r1, c, S ++ [j], by go_num, by omega, rfl, rfl, HQ2, HC2, HK3, HT2, HO2⟩
              case measure => simp [intOf]; omega
        · by_cases hq0 : q = 0
          · have hc1 : c = 1 := by rw [HC.out, if_pos hq0]
            subst hq0 hc1
            go_wp2_with fail
            refine (awake23 _).mono ?_
            rintro e w4 ⟨rfl, hb⟩
            have HB := Lib.hid (HK.out.below.trans (hb.mono HK.out.below.size))
            clear hb
            go_wp2_with fail
            go_ret
            exact ⟨rfl, HE1.out _ HB.out⟩
          · have hc1 : c = 0 := by rw [HC.out, if_neg hq0]
            subst hc1
            have hqf : ((q : Int) == 0) = false := by simp only [beq_eq_false_iff_ne, ne_eq]; omega
            go_wp2_with fail
            refine (awake23 _).mono ?_
            rintro e w4 ⟨rfl, hb⟩
            have HB := Lib.hid (HK.out.below.trans (hb.mono HK.out.below.size))
            clear hb
            go_wp2_with fail
            go_ret
            exact ⟨rfl, HE1.out _ HB.out⟩
    · have hx2 : ((x : Int) != 0) = true := by simpa [bne_iff_ne] using hx
      clear hp hb2
      go_wp2_with fail
      refine (awake23 _).mono ?_
      rintro e w3 ⟨rfl, hb⟩
      have HB := Lib.hid (HB2.out.trans (hb.mono HB2.out.size))
      clear hb
      go_wp2_with fail
      go_ret
      exact ⟨rfl, HEnd.out _ HB.out⟩
  · have hk2 : ((kd : Int) != 1) = true := by simp only [bne_iff_ne, ne_eq]; omega
    go_wp2_with fail
    refine (awake23 _).mono ?_
    rintro e w1 ⟨rfl, hb⟩
    have HB := Lib.hid hb
    clear hb
    go_wp2_with fail
    go_ret
    exact ⟨rfl, HEnd.out _ HB.out⟩
end Go.Proofs.Ytbhdgfpaoghnbaa
