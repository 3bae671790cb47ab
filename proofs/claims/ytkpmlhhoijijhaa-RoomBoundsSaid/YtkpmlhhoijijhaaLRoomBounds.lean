/- The walk of the law RoomBounds. -/
import Derived.Test.YtkpmlhhoijijhaaLRoomPlays
namespace Go.Proofs.Ytkpmlhhoijijhaa
open Go.RowKit
set_option linter.unusedVariables false
set_option maxRecDepth 100000
set_option linter.unusedSimpArgs false

set_option maxHeartbeats 4000000 in
theorem roomBounds_walk (a b c : Int) (V : Value) (l : List De) (w : World) (wa : (Lit.int .i64 a).wf = true) (wb : (Lit.int .i64 b).wf = true) (wc : (Lit.int .i64 c).wf = true) (H : Cl fDe 9 w w.heap.size V l ∧ ∀ x ∈ l, DeOk w x) :
    Calls Try.prog 4 #[.agg #[.int .i64 a, .int .i64 b, .int .i64 c], V] w fun e w' => e = .returned (.bool true) ∧ Below w.heap.size w w' := by
  obtain ⟨H, ok⟩ := H
  have ha := bounds_i64 wa
  have hb := bounds_i64 wb
  have hc := bounds_i64 wc
  obtain ⟨bx, w0, hbx, hal, hb0, hbox⟩ := boxL22 w a b c
  have HBx := Lib.hid hbox
  have HB0 := Lib.hid hb0
  have H' := H.kept hb0
  have ok' := fun x hx => (ok x hx).kept hb0
  clear H ok hbox hb0
  obtain ⟨A, cp, rfl, hle, hmx, hA0⟩ := H'.shape
  unfold maxLen at hmx
  have HL := Lib.hid (large22_any H' ok' (by omega))
  have HIn := Lib.hid (in22_of (bx := bx) (a := a) (b := b) (c := c) H').at_
  have HOk := Lib.hid (fun i (hi : i < l.length) => ok' _ (List.getElem_mem hi))
  have HSl := Lib.hid (fun i (hi : i < l.length) => deSum_mem (List.getElem_mem hi))
  have HEnd : Hid (∀ W, Below w0.heap.size w0 W → Below w.heap.size w W) := Lib.hid (fun W h => HB0.out.trans (h.mono HB0.out.size))
  have HWa := Lib.hid ha
  have HWb := Lib.hid hb
  have HWc := Lib.hid hc
  obtain ⟨n, hn⟩ : ∃ n, Hid (l.length = n) := ⟨_, Lib.hid rfl⟩
  rw [hn.out] at hle HL ⊢
  clear H' ok'
  have HE := HEnd
  clear HEnd HB0
  obtain ⟨cb0, cb1, cb2⟩ := HBx.out w0 (Below.refl _ _)
  go_enter Try.func4, Try.ntmps4
  go_wp2_with fail
  refine (HL.out).mono ?_
  rintro e w0' ⟨rfl, big, rfl, hbig⟩
  have HBig := Lib.hid hbig
  clear hbig
  cases big with
  | true =>
    go_wp2_with fail
    refine (awake22 _).mono ?_
    rintro e w1 ⟨rfl, hb⟩
    have HB := Lib.hid hb
    clear hb
    go_wp2_with fail
    go_ret
    exact ⟨rfl, HE.out _ HB.out⟩
  | false =>
  obtain ⟨hn200, hsum⟩ := HBig.out rfl
  have HSum := Lib.hid hsum
  clear hsum
  by_cases hbad : a < 1 ∨ 16 < a ∨ b < 1 ∨ 65536 < b ∨ c < 1 ∨ 32 < c
  · have N1 := Lib.hid (fun W => tnew22_bad a b c HWa.out HWb.out HWc.out hbad W)
    clear hbad ha hb hc
    go_wp2_with fail
    refine (N1.out _).mono ?_
    rintro e w1 ⟨rfl, hb⟩
    have HB1 := Lib.hid hb
    clear hb
    go_wp2_with fail
    refine (awake22 _).mono ?_
    rintro e w3 ⟨rfl, hb⟩
    have HB := Lib.hid (HB1.out.trans (hb.mono HB1.out.size))
    clear hb
    go_wp2_with fail
    go_ret
    exact ⟨rfl, HE.out _ HB.out⟩
  obtain ⟨m, hm, rfl, rfl, rfl⟩ : ∃ m : Tm.Lim, m.Ok ∧ a = (m.op : Int) ∧ b = (m.by_ : Int) ∧ c = (m.ex : Int) := ⟨⟨a.toNat, b.toNat, c.toNat⟩, ⟨by simp only []; omega, by simp only []; omega, by simp only []; omega, by simp only []; omega, by simp only []; omega, by simp only []; omega⟩, by simp only []; omega, by simp only []; omega, by simp only []; omega⟩
  have N1 := Lib.hid (fun W => tnew22_any m hm W)
  clear hbad ha hb hc
  go_wp2_with fail
  refine (N1.out _).mono ?_
  rintro e w1 ⟨p, rfl, hp, hb1⟩
  have HT := Lib.hid (Lone22.new hp (fun b hb => hb.1) hb1)
  clear hp hb1 cb0 cb1 cb2
  obtain ⟨mo, hmo⟩ : ∃ t, Hid (m.op = t) := ⟨_, Lib.hid rfl⟩
  obtain ⟨mb, hmb⟩ : ∃ t, Hid (m.by_ = t) := ⟨_, Lib.hid rfl⟩
  obtain ⟨me, hme⟩ : ∃ t, Hid (m.ex = t) := ⟨_, Lib.hid rfl⟩
  have hme32 : me ≤ 32 := by rw [← hme.out]; exact hm.ex2
  have HBy := HBx
  rw [hmo.out, hmb.out, hme.out] at HBy
  clear HBx
  go_wp2_with fail
  go_loopw [7] (fun v wr => ∃ (k : Nat) (s : List Tm.One), v = .int .i64 k ∧ k ≤ n ∧ Hid (Lone22 w0 p m s wr) ∧ Hid (Tm.Ok m s)) (fun v _ => n - (intOf v).toNat)
  case atStart => exact ⟨0, [], rfl, Nat.zero_le _, HT, Lib.hid (Tm.ok_nil _)⟩
  case round =>
    obtain ⟨k, s, rfl, hk, HT0, hok⟩ := hrel
    by_cases hlt : k < n
    · have hkl : k < l.length := by rw [hn.out]; exact hlt
      obtain ⟨B, off, rfl, hcells⟩ := HIn.out k hkl
      have HC0 := Lib.hid hcells
      have hdk := HOk.out k hkl
      have hbl : Hid (l[k].g.body.length ≤ 1000000) := Lib.hid (by have := HSl.out k hkl; have := HSum.out; omega)
      have hgv : Hid (Gv w0 w0.heap.size l[k].g l[k].gram) := Lib.hid hdk.gv
      have hsn := hdk.sender
      obtain ⟨ct, _⟩ := hcells wr HT0.out.below
      clear hcells hdk
      unfold De.gram at hgv
      obtain ⟨tk, htk⟩ : ∃ t, Hid (l[k].tick = t) := ⟨_, Lib.hid rfl⟩
      obtain ⟨sn, hsn'⟩ : ∃ t, Hid (l[k].sender = t) := ⟨_, Lib.hid rfl⟩
      obtain ⟨g, hg⟩ : ∃ t, Hid (l[k].g = t) := ⟨_, Lib.hid rfl⟩
      obtain ⟨bv, hbv⟩ : ∃ t, Hid (l[k].body = t) := ⟨_, Lib.hid rfl⟩
      have HC : Hid (∀ W, Below w0.heap.size w0 W → W.cell? ⟨B, off + k * 9 + 1, none⟩ = some (.int .u16 (sn : Int)) ∧ W.cell? ⟨B, off + k * 9 + 2, none⟩ = some (.int .u8 (g.kind : Int)) ∧ W.cell? ⟨B, off + k * 9 + 3, none⟩ = some (.int .u8 (g.version : Int)) ∧ W.cell? ⟨B, off + k * 9 + 4, none⟩ = some (.int .u32 (g.epoch : Int)) ∧ W.cell? ⟨B, off + k * 9 + 5, none⟩ = some (.int .u32 (g.id : Int)) ∧ W.cell? ⟨B, off + k * 9 + 6, none⟩ = some (.int .u16 (g.index : Int)) ∧ W.cell? ⟨B, off + k * 9 + 7, none⟩ = some (.int .u16 (g.count : Int)) ∧ W.cell? ⟨B, off + k * 9 + 8, none⟩ = some bv) := Lib.hid (fun W hW => by
        rw [← hsn'.out, ← hg.out, ← hbv.out]
        exact (HC0.out W hW).2)
      rw [htk.out] at ct
      rw [hsn'.out] at hsn
      rw [hg.out] at hbl hgv
      rw [hbv.out] at hgv
      clear HC0 htk hsn' hbv
      cases tk with
      | true =>
        go_wp2_with fail
        refine (ttick_lone HT0.out hm hok.out).mono ?_
        rintro e x1 ⟨rfl, hb⟩
        have HT3 := Lib.hid hb
        clear hb
        have hok2 : Hid (Tm.Ok m (Tm.tick m s)) := Lib.hid (Tm.tick_ok hok.out)
        obtain ⟨s2, hs2⟩ : ∃ t, Hid (Tm.tick m s = t) := ⟨_, Lib.hid rfl⟩
        rw [hs2.out] at HT3 hok2
        generalize x1 = wq at *
        have HQ0 : Hid (Below wq.heap.size wq wq.drew) := Lib.hid (Below.refl _ _).drew
        have HT3d : Hid (Lone22 w0 p m s2 wq.drew) := Lib.hid (HT3.out.stay HQ0.out)
        have HB3 : Hid (∀ W, Below wq.drew.heap.size wq.drew W → W.cell? ⟨bx, 0, none⟩ = some (.int .i64 (mo : Int)) ∧ W.cell? ⟨bx, 1, none⟩ = some (.int .i64 (mb : Int)) ∧ W.cell? ⟨bx, 2, none⟩ = some (.int .i64 (me : Int))) := Lib.hid (fun W hW => HBy.out W (HT3d.out.below.trans (hW.mono HT3d.out.below.size)))
        obtain ⟨y, hy⟩ : ∃ y, Hid (s2.length = y) := ⟨_, Lib.hid rfl⟩
        obtain ⟨hd, hhd⟩ : ∃ y, Hid (Tm.held s2 = y) := ⟨_, Lib.hid rfl⟩
        have hyo : ¬ mo < y := by rw [← hmo.out, ← hy.out]; exact Nat.not_lt.2 hok2.out.open_
        have hho : ¬ mb < hd := by rw [← hmb.out, ← hhd.out]; exact Nat.not_lt.2 hok2.out.few
        have hy0 : decide ((y : Int) < 0) = false := decide_eq_false (by omega)
        have hh0 : decide ((hd : Int) < 0) = false := decide_eq_false (by omega)
        have hyo1 : decide ((mo : Int) < (y : Int)) = false := decide_eq_false (by omega)
        have hho1 : decide ((mb : Int) < (hd : Int)) = false := decide_eq_false (by omega)
        have hyo2 : decide (mo < y) = false := decide_eq_false hyo
        have hho2 : decide (mb < hd) = false := decide_eq_false hho
        go_wp2_with fail
        refine wp_region_plan (S := fun W => Below wq.drew.heap.size wq.drew W) [(0, true), (1, false), (2, true), (3, true), (4, true), (6, true), (7, true), (5, false), (8, true), (9, true), (10, true), (11, true), (12, false), (13, true), (14, true), (15, true), (16, true), (18, true), (19, true), (17, false), (20, true), (21, true)] (by kernel_rfl) (by kernel_rfl) rfl (by kernel_rfl) (fun _ _ _ _ _ h => h) (Below.refl _ _) ?_
        generalize wq.drew = wd at *
        iterate 1
          refine along_take (v := ?_) rfl (by rfl) ?_ ?_
          rotate_left
          · intro W hW; obtain ⟨c0, c1, c2⟩ := HB3.out W hW; clear hW; go_simp; try with_reducible rfl
          simp only [Act.put, List.setIfInBounds_toArray, List.set_cons_zero, List.set_cons_succ]
        refine along_step rfl (fun K hK => ?_)
        go_simp
        refine (topen_lone HT3d.out hm hok2.out).mono ?_
        rintro e3 y1 ⟨rfl, hb⟩
        have HU1 := Lib.hid (HT3d.out.stay hb)
        have HQ1 := Lib.hid (hb)
        refine hK.out _ _ HQ1.out ?_
        clear hK K hb
        try rw [hy.out]
        try rw [hhd.out]
        try simp only [Act.put, List.setIfInBounds_toArray, List.set_cons_zero, List.set_cons_succ]
        iterate 5
          refine along_take (v := ?_) rfl (by rfl) ?_ ?_
          rotate_left
          · intro W hW; obtain ⟨c0, c1, c2⟩ := HB3.out W hW; clear hW; go_simp; try with_reducible rfl
          simp only [Act.put, List.setIfInBounds_toArray, List.set_cons_zero, List.set_cons_succ]
        refine along_step rfl (fun K hK => ?_)
        go_simp
        refine (topen_lone HU1.out hm hok2.out).mono ?_
        rintro e3 y2 ⟨rfl, hb⟩
        have HU2 := Lib.hid (HU1.out.stay hb)
        have HQ2 := Lib.hid (HQ1.out.trans (hb.mono HQ1.out.size))
        refine hK.out _ _ HQ2.out ?_
        clear hK K hb
        try rw [hy.out]
        try rw [hhd.out]
        try simp only [Act.put, List.setIfInBounds_toArray, List.set_cons_zero, List.set_cons_succ]
        iterate 4
          refine along_take (v := ?_) rfl (by rfl) ?_ ?_
          rotate_left
          · intro W hW; obtain ⟨c0, c1, c2⟩ := HB3.out W hW; clear hW; go_simp; try with_reducible rfl
          simp only [Act.put, List.setIfInBounds_toArray, List.set_cons_zero, List.set_cons_succ]
        refine along_step rfl (fun K hK => ?_)
        go_simp
        refine (theld_lone HU2.out hm hok2.out).mono ?_
        rintro e3 y3 ⟨rfl, hb⟩
        have HU3 := Lib.hid (HU2.out.stay hb)
        have HQ3 := Lib.hid (HQ2.out.trans (hb.mono HQ2.out.size))
        refine hK.out _ _ HQ3.out ?_
        clear hK K hb
        try rw [hy.out]
        try rw [hhd.out]
        try simp only [Act.put, List.setIfInBounds_toArray, List.set_cons_zero, List.set_cons_succ]
        iterate 6
          refine along_take (v := ?_) rfl (by rfl) ?_ ?_
          rotate_left
          · intro W hW; obtain ⟨c0, c1, c2⟩ := HB3.out W hW; clear hW; go_simp; try with_reducible rfl
          simp only [Act.put, List.setIfInBounds_toArray, List.set_cons_zero, List.set_cons_succ]
        refine along_step rfl (fun K hK => ?_)
        go_simp
        refine (theld_lone HU3.out hm hok2.out).mono ?_
        rintro e3 y4 ⟨rfl, hb⟩
        have HU4 := Lib.hid (HU3.out.stay hb)
        have HQ4 := Lib.hid (HQ3.out.trans (hb.mono HQ3.out.size))
        refine hK.out _ _ HQ4.out ?_
        clear hK K hb
        try rw [hy.out]
        try rw [hhd.out]
        try simp only [Act.put, List.setIfInBounds_toArray, List.set_cons_zero, List.set_cons_succ]
        iterate 2
          refine along_take (v := ?_) rfl (by rfl) ?_ ?_
          rotate_left
          · intro W hW; obtain ⟨c0, c1, c2⟩ := HB3.out W hW; clear hW; go_simp; try with_reducible rfl
          simp only [Act.put, List.setIfInBounds_toArray, List.set_cons_zero, List.set_cons_succ]
        refine along_done ?_
        go_wp2_with fail
        go_roundw
        case rel => exact ⟨k + 1, s2, by go_num, by omega, HU4, hok2⟩
        case measure => simp [intOf]; omega
      | false =>
        have HTd : Hid (Lone22 w0 p m s wr.drew) := Lib.hid (HT0.out.stay (Below.refl _ _).drew)
        have hok2 : Hid (Tm.Ok m (Tm.put m s sn g).l) := Lib.hid (Tm.put_ok hok.out hm (by rw [← hg.out]; exact (HOk.out k hkl).ok) hsn)
        go_wp2_with fail
        refine wp_region_plan (S := fun W => Below w0.heap.size w0 W) [(0, true), (1, true), (2, true), (3, true), (4, true), (5, true), (6, true), (7, true), (8, true), (9, true), (10, true), (11, false)] (by kernel_rfl) (by kernel_rfl) rfl (by kernel_rfl) (fun _ _ _ _ _ h => h) HT0.out.below.drew ?_
        obtain ⟨w4, hw4⟩ : ∃ W, wr.drew = W := ⟨_, rfl⟩
        rw [hw4] at HTd ⊢
        clear hw4
        iterate 11
          refine along_take (v := ?_) rfl (by rfl) ?_ ?_
          rotate_left
          · intro W hW; obtain ⟨c0, c1, c2, c3, c4, c5, c6, c7⟩ := HC.out W hW; clear hW; go_simp; try with_reducible rfl
          simp only [Act.put, List.setIfInBounds_toArray, List.set_cons_zero, List.set_cons_succ]
        refine along_step rfl (fun K hK => ?_)
        go_simp
        refine (tput_lone HTd.out hm hok.out sn hsn hgv.out hbl.out).mono ?_
        rintro e1 x1 ⟨u, rfl, hp, hb⟩
        have HT3 := Lib.hid hb
        refine hK.out _ _ HT3.out.below ?_
        clear hK K hb hp
        try simp only [Act.put, List.setIfInBounds_toArray, List.set_cons_zero, List.set_cons_succ]
        refine along_done ?_
        obtain ⟨s2, hs2⟩ : ∃ t, Hid ((Tm.put m s sn g).l = t) := ⟨_, Lib.hid rfl⟩
        rw [hs2.out] at HT3 hok2
        generalize x1 = wq at *
        have HQ0 : Hid (Below wq.heap.size wq wq.drew) := Lib.hid (Below.refl _ _).drew
        have HT3d : Hid (Lone22 w0 p m s2 wq.drew) := Lib.hid (HT3.out.stay HQ0.out)
        have HB3 : Hid (∀ W, Below wq.drew.heap.size wq.drew W → W.cell? ⟨bx, 0, none⟩ = some (.int .i64 (mo : Int)) ∧ W.cell? ⟨bx, 1, none⟩ = some (.int .i64 (mb : Int)) ∧ W.cell? ⟨bx, 2, none⟩ = some (.int .i64 (me : Int))) := Lib.hid (fun W hW => HBy.out W (HT3d.out.below.trans (hW.mono HT3d.out.below.size)))
        obtain ⟨y, hy⟩ : ∃ y, Hid (s2.length = y) := ⟨_, Lib.hid rfl⟩
        obtain ⟨hd, hhd⟩ : ∃ y, Hid (Tm.held s2 = y) := ⟨_, Lib.hid rfl⟩
        have hyo : ¬ mo < y := by rw [← hmo.out, ← hy.out]; exact Nat.not_lt.2 hok2.out.open_
        have hho : ¬ mb < hd := by rw [← hmb.out, ← hhd.out]; exact Nat.not_lt.2 hok2.out.few
        have hy0 : decide ((y : Int) < 0) = false := decide_eq_false (by omega)
        have hh0 : decide ((hd : Int) < 0) = false := decide_eq_false (by omega)
        have hyo1 : decide ((mo : Int) < (y : Int)) = false := decide_eq_false (by omega)
        have hho1 : decide ((mb : Int) < (hd : Int)) = false := decide_eq_false (by omega)
        have hyo2 : decide (mo < y) = false := decide_eq_false hyo
        have hho2 : decide (mb < hd) = false := decide_eq_false hho
        go_wp2_with fail
        refine wp_region_plan (S := fun W => Below wq.drew.heap.size wq.drew W) [(0, true), (1, false), (2, true), (3, true), (4, true), (6, true), (7, true), (5, false), (8, true), (9, true), (10, true), (11, true), (12, false), (13, true), (14, true), (15, true), (16, true), (18, true), (19, true), (17, false), (20, true), (21, true)] (by kernel_rfl) (by kernel_rfl) rfl (by kernel_rfl) (fun _ _ _ _ _ h => h) (Below.refl _ _) ?_
        generalize wq.drew = wd at *
        iterate 1
          refine along_take (v := ?_) rfl (by rfl) ?_ ?_
          rotate_left
          · intro W hW; obtain ⟨c0, c1, c2⟩ := HB3.out W hW; clear hW; go_simp; try with_reducible rfl
          simp only [Act.put, List.setIfInBounds_toArray, List.set_cons_zero, List.set_cons_succ]
        refine along_step rfl (fun K hK => ?_)
        go_simp
        refine (topen_lone HT3d.out hm hok2.out).mono ?_
        rintro e3 y1 ⟨rfl, hb⟩
        have HU1 := Lib.hid (HT3d.out.stay hb)
        have HQ1 := Lib.hid (hb)
        refine hK.out _ _ HQ1.out ?_
        clear hK K hb
        try rw [hy.out]
        try rw [hhd.out]
        try simp only [Act.put, List.setIfInBounds_toArray, List.set_cons_zero, List.set_cons_succ]
        iterate 5
          refine along_take (v := ?_) rfl (by rfl) ?_ ?_
          rotate_left
          · intro W hW; obtain ⟨c0, c1, c2⟩ := HB3.out W hW; clear hW; go_simp; try with_reducible rfl
          simp only [Act.put, List.setIfInBounds_toArray, List.set_cons_zero, List.set_cons_succ]
        refine along_step rfl (fun K hK => ?_)
        go_simp
        refine (topen_lone HU1.out hm hok2.out).mono ?_
        rintro e3 y2 ⟨rfl, hb⟩
        have HU2 := Lib.hid (HU1.out.stay hb)
        have HQ2 := Lib.hid (HQ1.out.trans (hb.mono HQ1.out.size))
        refine hK.out _ _ HQ2.out ?_
        clear hK K hb
        try rw [hy.out]
        try rw [hhd.out]
        try simp only [Act.put, List.setIfInBounds_toArray, List.set_cons_zero, List.set_cons_succ]
        iterate 4
          refine along_take (v := ?_) rfl (by rfl) ?_ ?_
          rotate_left
          · intro W hW; obtain ⟨c0, c1, c2⟩ := HB3.out W hW; clear hW; go_simp; try with_reducible rfl
          simp only [Act.put, List.setIfInBounds_toArray, List.set_cons_zero, List.set_cons_succ]
        refine along_step rfl (fun K hK => ?_)
        go_simp
        refine (theld_lone HU2.out hm hok2.out).mono ?_
        rintro e3 y3 ⟨rfl, hb⟩
        have HU3 := Lib.hid (HU2.out.stay hb)
        have HQ3 := Lib.hid (HQ2.out.trans (hb.mono HQ2.out.size))
        refine hK.out _ _ HQ3.out ?_
        clear hK K hb
        try rw [hy.out]
        try rw [hhd.out]
        try simp only [Act.put, List.setIfInBounds_toArray, List.set_cons_zero, List.set_cons_succ]
        iterate 6
          refine along_take (v := ?_) rfl (by rfl) ?_ ?_
          rotate_left
          · intro W hW; obtain ⟨c0, c1, c2⟩ := HB3.out W hW; clear hW; go_simp; try with_reducible rfl
          simp only [Act.put, List.setIfInBounds_toArray, List.set_cons_zero, List.set_cons_succ]
        refine along_step rfl (fun K hK => ?_)
        go_simp
        refine (theld_lone HU3.out hm hok2.out).mono ?_
        rintro e3 y4 ⟨rfl, hb⟩
        have HU4 := Lib.hid (HU3.out.stay hb)
        have HQ4 := Lib.hid (HQ3.out.trans (hb.mono HQ3.out.size))
        refine hK.out _ _ HQ4.out ?_
        clear hK K hb
        try rw [hy.out]
        try rw [hhd.out]
        try simp only [Act.put, List.setIfInBounds_toArray, List.set_cons_zero, List.set_cons_succ]
        iterate 2
          refine along_take (v := ?_) rfl (by rfl) ?_ ?_
          rotate_left
          · intro W hW; obtain ⟨c0, c1, c2⟩ := HB3.out W hW; clear hW; go_simp; try with_reducible rfl
          simp only [Act.put, List.setIfInBounds_toArray, List.set_cons_zero, List.set_cons_succ]
        refine along_done ?_
        go_wp2_with fail
        go_roundw
        case rel => exact ⟨k + 1, s2, by go_num, by omega, HU4, hok2⟩
        case measure => simp [intOf]; omega
    · have HN := Lib.hid (Tm.ticks_none hok.out)
      have HS := Lib.hid (fun j => Tm.ticks_succ (m := m) j s)
      have HO := Lib.hid (fun j => Tm.ticks_ok (m := m) j hok.out)
      rw [hme.out] at HN
      go_wp2_with fail
      go_loopw [8] (fun v wr => ∃ j : Nat, v = .int .i64 j ∧ j ≤ me + 1 ∧ Hid (Lone22 w0 p m (Tm.ticks m j s) wr)) (fun v _ => me + 1 - (intOf v).toNat)
      case atStart => exact ⟨0, rfl, Nat.zero_le _, HT0⟩
      case round =>
        obtain ⟨j, rfl, hj, HT1⟩ := hrel
        obtain ⟨c0, c1, c2⟩ := HBy.out _ HT1.out.below
        have hj63 : j ≤ 33 := by omega
        by_cases hje : j ≤ me
        · have hj40 : j < 40 := by omega
          go_wp2_with fail
          refine (ttick_lone HT1.out hm (HO.out j)).mono ?_
          rintro e x1 ⟨rfl, hb⟩
          have HT3 : Hid (Lone22 w0 p m (Tm.ticks m (j + 1) s) x1) := Lib.hid (by rw [HS.out j]; exact hb)
          clear hb
          go_wp2_with fail
          go_roundw
          case rel => exact ⟨j + 1, by go_num, by omega, HT3⟩
          case measure => simp [intOf]; omega
        · have HT2 : Hid (Lone22 w0 p m [] _) := Lib.hid (by rw [← HN.out, show me + 1 = j by omega]; exact HT1.out)
          go_wp2_with fail
          refine (topen_lone HT2.out hm (Tm.ok_nil _)).mono ?_
          rintro e x1 ⟨rfl, hb⟩
          have HT3 := Lib.hid (HT2.out.stay hb)
          clear hb
          go_wp2_with fail
          refine (theld_lone HT3.out hm (Tm.ok_nil _)).mono ?_
          rintro e x2 ⟨rfl, hb⟩
          have HT4 := Lib.hid (HT3.out.stay hb)
          have h00 : Tm.held [] = 0 := rfl
          clear hb
          go_wp2_with fail
          refine (awake22 _).mono ?_
          rintro e w3 ⟨rfl, hb⟩
          have HB := Lib.hid (HT4.out.below.trans (hb.mono HT4.out.below.size))
          clear hb
          go_wp2_with fail
          go_ret
          exact ⟨rfl, HE.out _ HB.out⟩
end Go.Proofs.Ytkpmlhhoijijhaa
