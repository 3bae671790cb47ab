/- The walk of the law RoomPlays. -/
import Derived.Test.YtkpmlhhoijijhaaAwake22
import Derived.Test.YtkpmlhhoijijhaaLg22
namespace Go.Proofs.Ytkpmlhhoijijhaa
open Go.RowKit
set_option linter.unusedVariables false
set_option maxRecDepth 100000
set_option linter.unusedSimpArgs false

/-- the limits in their box -/
theorem boxL22 (w : World) (a b c : Int) : ∃ bx w0, w.heap.size = bx ∧ w.alloc (.cells #[.int .i64 a, .int .i64 b, .int .i64 c] 23) = w0 ∧ Below w.heap.size w w0 ∧ (∀ W, Below w0.heap.size w0 W → W.cell? ⟨bx, 0, none⟩ = some (.int .i64 a) ∧ W.cell? ⟨bx, 1, none⟩ = some (.int .i64 b) ∧ W.cell? ⟨bx, 2, none⟩ = some (.int .i64 c)) := by
  refine ⟨_, _, rfl, rfl, (Below.refl _ _).alloc (Nat.le_refl _) _, fun W hW => ?_⟩
  have h := (Whole.made w 23 #[.int .i64 a, .int .i64 b, .int .i64 c]).below hW (by simp)
  exact ⟨h.at_ 0, h.at_ 1, h.at_ 2⟩
theorem DeOk.kept {w w' : World} {x : De} (h : DeOk w x) (hb : Below w.heap.size w w') : DeOk w' x := ⟨h.sender, h.ok, h.piece.kept hb⟩
/-- what the laws are given, with the limits' box -/
structure In22 (w0 : World) (bx : Nat) (a b c : Int) (A : Option Addr) (l : List De) : Prop where
  at_ : ∀ i (hi : i < l.length), ∃ B off, A = some ⟨B, off, none⟩ ∧ ∀ W, Below w0.heap.size w0 W → W.cell? ⟨B, off + i * 9, none⟩ = some (.bool l[i].tick) ∧ W.cell? ⟨B, off + i * 9 + 1, none⟩ = some (.int .u16 (l[i].sender : Int)) ∧ W.cell? ⟨B, off + i * 9 + 2, none⟩ = some (.int .u8 (l[i].g.kind : Int)) ∧ W.cell? ⟨B, off + i * 9 + 3, none⟩ = some (.int .u8 (l[i].g.version : Int)) ∧ W.cell? ⟨B, off + i * 9 + 4, none⟩ = some (.int .u32 (l[i].g.epoch : Int)) ∧ W.cell? ⟨B, off + i * 9 + 5, none⟩ = some (.int .u32 (l[i].g.id : Int)) ∧ W.cell? ⟨B, off + i * 9 + 6, none⟩ = some (.int .u16 (l[i].g.index : Int)) ∧ W.cell? ⟨B, off + i * 9 + 7, none⟩ = some (.int .u16 (l[i].g.count : Int)) ∧ W.cell? ⟨B, off + i * 9 + 8, none⟩ = some l[i].body
theorem in22_of {w0 : World} {bx n cp : Nat} {a b c : Int} {A : Option Addr} {l : List De} (H : Cl fDe 9 w0 w0.heap.size (.slice A n cp) l) : In22 w0 bx a b c A l := ⟨fun i hi => by
  obtain ⟨B, off, e, _, hc⟩ := H.at_ hi
  exact ⟨B, off, e, fun W hW => ⟨hc W hW 0 (by omega), hc W hW 1 (by omega), hc W hW 2 (by omega), hc W hW 3 (by omega), hc W hW 4 (by omega), hc W hW 5 (by omega), hc W hW 6 (by omega), hc W hW 7 (by omega), hc W hW 8 (by omega)⟩⟩⟩
set_option maxHeartbeats 4000000 in
theorem roomPlays_walk (a b c : Int) (V : Value) (l : List De) (w : World) (wa : (Lit.int .i64 a).wf = true) (wb : (Lit.int .i64 b).wf = true) (wc : (Lit.int .i64 c).wf = true) (H : Cl fDe 9 w w.heap.size V l ∧ ∀ x ∈ l, DeOk w x) :
    Calls Try.prog 3 #[.agg #[.int .i64 a, .int .i64 b, .int .i64 c], V] w fun e w' => e = .returned (.bool true) ∧ Below w.heap.size w w' := by
  obtain ⟨H, ok⟩ := H
  have ha := bounds_i64 wa
  have hb := bounds_i64 wb
  have hc := bounds_i64 wc
  obtain ⟨bx, w0, hbx, hal, hb0, hbox⟩ := boxL22 w a b c
  have HBx := Lib.hid hbox
  have HB0 := Lib.hid hb0
  have H' := H.kept hb0
  have ok' := fun x hx => (ok x hx).kept hb0
  clear H ok hbox hb0
  obtain ⟨A, cp, rfl, hle, hmx, hA0⟩ := H'.shape
  unfold maxLen at hmx
  have HL := Lib.hid (large22_any H' ok' (by omega))
  have HIn := Lib.hid (in22_of (bx := bx) (a := a) (b := b) (c := c) H').at_
  have HOk := Lib.hid (fun i (hi : i < l.length) => ok' _ (List.getElem_mem hi))
  have HSl := Lib.hid (fun i (hi : i < l.length) => deSum_mem (List.getElem_mem hi))
  have HEnd : Hid (∀ W, Below w0.heap.size w0 W → Below w.heap.size w W) := Lib.hid (fun W h => HB0.out.trans (h.mono HB0.out.size))
  have HWa := Lib.hid ha
  have HWb := Lib.hid hb
  have HWc := Lib.hid hc
  obtain ⟨n, hn⟩ : ∃ n, Hid (l.length = n) := ⟨_, Lib.hid rfl⟩
  rw [hn.out] at hle HL ⊢
  clear H' ok'
  have HE := HEnd
  clear HEnd HB0
  obtain ⟨cb0, cb1, cb2⟩ := HBx.out w0 (Below.refl _ _)
  go_enter Try.func3, Try.ntmps3
  go_wp2_with fail
  refine (HL.out).mono ?_
  rintro e w0' ⟨rfl, big, rfl, hbig⟩
  have HBig := Lib.hid hbig
  clear hbig
  cases big with
  | true =>
    go_wp2_with fail
    refine (awake22 _).mono ?_
    rintro e w1 ⟨rfl, hb⟩
    have HB := Lib.hid hb
    clear hb
    go_wp2_with fail
    go_ret
    exact ⟨rfl, HE.out _ HB.out⟩
  | false =>
  obtain ⟨hn200, hsum⟩ := HBig.out rfl
  have HSum := Lib.hid hsum
  clear hsum
  by_cases hbad : a < 1 ∨ 16 < a ∨ b < 1 ∨ 65536 < b ∨ c < 1 ∨ 32 < c
  · have N1 := Lib.hid (fun W => tnew22_bad a b c HWa.out HWb.out HWc.out hbad W)
    have N2 := Lib.hid (fun W => rnew22_bad a b c HWa.out HWb.out HWc.out hbad W)
    clear hbad ha hb hc
    go_wp2_with fail
    refine (N1.out _).mono ?_
    rintro e w1 ⟨rfl, hb⟩
    have HB1 := Lib.hid hb
    obtain ⟨cc0, cc1, cc2⟩ := HBx.out w1 hb
    clear hb
    go_wp2_with fail
    refine (N2.out _).mono ?_
    rintro e w2 ⟨rfl, hb⟩
    have HB2 := Lib.hid (HB1.out.trans (hb.mono HB1.out.size))
    clear hb cc0 cc1 cc2
    go_wp2_with fail
    go_loopw [9] (fun v wr => ∃ k : Nat, v = .int .i64 k ∧ Hid (Below w0.heap.size w0 wr)) (fun _ _ => 0)
    case atStart => exact ⟨0, rfl, HB2⟩
    case round =>
      obtain ⟨k, rfl, HBr⟩ := hrel
      by_cases hlt : k < n
      · go_wp2_with fail
        refine (awake22 _).mono ?_
        rintro e w3 ⟨rfl, hb⟩
        have HB := Lib.hid (HBr.out.trans (hb.mono HBr.out.size))
        clear hb
        go_wp2_with fail
        go_ret
        exact ⟨rfl, HE.out _ HB.out⟩
      · go_wp2_with fail
        refine (awake22 _).mono ?_
        rintro e w3 ⟨rfl, hb⟩
        have HB := Lib.hid (HBr.out.trans (hb.mono HBr.out.size))
        clear hb
        go_wp2_with fail
        go_ret
        exact ⟨rfl, HE.out _ HB.out⟩
  obtain ⟨m, hm, rfl, rfl, rfl⟩ : ∃ m : Tm.Lim, m.Ok ∧ a = (m.op : Int) ∧ b = (m.by_ : Int) ∧ c = (m.ex : Int) := ⟨⟨a.toNat, b.toNat, c.toNat⟩, ⟨by simp only []; omega, by simp only []; omega, by simp only []; omega, by simp only []; omega, by simp only []; omega, by simp only []; omega⟩, by simp only []; omega, by simp only []; omega, by simp only []; omega⟩
  have N1 := Lib.hid (fun W => tnew22_any m hm W)
  have N2 := Lib.hid (fun W => rnew22_any m hm W)
  clear hbad ha hb hc
  go_wp2_with fail
  refine (N1.out _).mono ?_
  rintro e w1 ⟨p, rfl, hp, hb1⟩
  have HP1 := Lib.hid hp
  have HB1 := Lib.hid hb1
  obtain ⟨cc0, cc1, cc2⟩ := HBx.out w1 hb1
  clear hp hb1
  go_wp2_with fail
  refine (N2.out _).mono ?_
  rintro e w2 ⟨x, rfl, hx, hb2⟩
  have HT : Hid (Two22 w0 p x m [] [] w2) := Lib.hid ⟨_, _, HP1.out.keep (fun b hb => hb2.block b (HP1.out.lt b hb)), hx, fun b h1 h2 => by omega, fun b hb => hb.1, fun b hb => by have := HB1.out.size; omega, HB1.out.trans (hb2.mono HB1.out.size)⟩
  clear hx hb2 HP1 HB1 cc0 cc1 cc2
  go_wp2_with fail
  go_loopw [9] (fun v wr => ∃ (k : Nat) (s : List Tm.One), v = .int .i64 k ∧ k ≤ n ∧ Hid (Two22 w0 p x m s s wr) ∧ Hid (Tm.Ok m s)) (fun v _ => n - (intOf v).toNat)
  case atStart => exact ⟨0, [], rfl, Nat.zero_le _, HT, Lib.hid (Tm.ok_nil _)⟩
  case round =>
    obtain ⟨k, s, rfl, hk, HT0, hok⟩ := hrel
    by_cases hlt : k < n
    · have hkl : k < l.length := by rw [hn.out]; exact hlt
      obtain ⟨B, off, rfl, hcells⟩ := HIn.out k hkl
      have HC0 := Lib.hid hcells
      have hdk := HOk.out k hkl
      have hbl : Hid (l[k].g.body.length ≤ 1000000) := Lib.hid (by have := HSl.out k hkl; have := HSum.out; omega)
      have hgv : Hid (Gv w0 w0.heap.size l[k].g l[k].gram) := Lib.hid hdk.gv
      have hsn := hdk.sender
      obtain ⟨ct, _⟩ := hcells wr HT0.out.below
      clear hcells hdk
      unfold De.gram at hgv
      obtain ⟨tk, htk⟩ : ∃ t, Hid (l[k].tick = t) := ⟨_, Lib.hid rfl⟩
      obtain ⟨sn, hsn'⟩ : ∃ t, Hid (l[k].sender = t) := ⟨_, Lib.hid rfl⟩
      obtain ⟨g, hg⟩ : ∃ t, Hid (l[k].g = t) := ⟨_, Lib.hid rfl⟩
      obtain ⟨bv, hbv⟩ : ∃ t, Hid (l[k].body = t) := ⟨_, Lib.hid rfl⟩
      have HC : Hid (∀ W, Below w0.heap.size w0 W → W.cell? ⟨B, off + k * 9 + 1, none⟩ = some (.int .u16 (sn : Int)) ∧ W.cell? ⟨B, off + k * 9 + 2, none⟩ = some (.int .u8 (g.kind : Int)) ∧ W.cell? ⟨B, off + k * 9 + 3, none⟩ = some (.int .u8 (g.version : Int)) ∧ W.cell? ⟨B, off + k * 9 + 4, none⟩ = some (.int .u32 (g.epoch : Int)) ∧ W.cell? ⟨B, off + k * 9 + 5, none⟩ = some (.int .u32 (g.id : Int)) ∧ W.cell? ⟨B, off + k * 9 + 6, none⟩ = some (.int .u16 (g.index : Int)) ∧ W.cell? ⟨B, off + k * 9 + 7, none⟩ = some (.int .u16 (g.count : Int)) ∧ W.cell? ⟨B, off + k * 9 + 8, none⟩ = some bv) := Lib.hid (fun W hW => by
        rw [← hsn'.out, ← hg.out, ← hbv.out]
        exact (HC0.out W hW).2)
      rw [htk.out] at ct
      rw [hsn'.out] at hsn
      rw [hg.out] at hbl hgv
      rw [hbv.out] at hgv
      clear HC0 htk hsn' hbv
      cases tk with
      | true =>
        go_wp2_with fail
        refine (ttick_two HT0.out hm hok.out).mono ?_
        rintro e x1 ⟨rfl, hb⟩
        have HT1 := Lib.hid hb
        clear hb
        go_wp2_with fail
        refine (rtick_two HT1.out hm hok.out).mono ?_
        rintro e x2 ⟨rfl, hb⟩
        have HT3 := Lib.hid hb
        clear hb
        have hok2 : Hid (Tm.Ok m (Tm.tick m s)) := Lib.hid (Tm.tick_ok hok.out)
        obtain ⟨s2, hs2⟩ : ∃ t, Hid (Tm.tick m s = t) := ⟨_, Lib.hid rfl⟩
        rw [hs2.out] at HT3 hok2
        generalize x2 = wq at *
        obtain ⟨La, Lc, hl3, hlc⟩ := HT3.out.list
        have HQ0 : Hid (Below wq.heap.size wq wq.drew) := Lib.hid (Below.refl _ _).drew
        have HT3d : Hid (Two22 w0 p x m s2 s2 wq.drew) := Lib.hid (HT3.out.stay HQ0.out)
        have HL3 : Hid (∀ W, Below wq.drew.heap.size wq.drew W → W.cell? ⟨x, 3, none⟩ = some (.slice La s2.length Lc)) := Lib.hid (fun W hW => (hW.cell (p := ⟨x, 3, none⟩) (cell_lt hl3)).trans hl3)
        obtain ⟨y, hy⟩ : ∃ y, Hid (s2.length = y) := ⟨_, Lib.hid rfl⟩
        have hy16 : Hid (s2.length ≤ 16) := Lib.hid (Nat.le_trans hok2.out.open_ hm.op2)
        rw [hy.out] at HL3 hy16
        obtain ⟨hd, hhd⟩ : ∃ y, Hid (Tm.held s2 = y) := ⟨_, Lib.hid rfl⟩
        clear hl3 hlc
        go_wp2_with fail
        refine wp_region_plan (S := fun W => Below wq.drew.heap.size wq.drew W) [(0, true), (2, true), (3, true), (4, true), (5, true), (6, true), (1, false), (7, true), (8, true), (9, true), (11, true), (10, false), (12, false), (13, true), (14, true)] (by kernel_rfl) (by kernel_rfl) rfl (by kernel_rfl) (fun _ _ _ _ _ h => h) (Below.refl _ _) ?_
        generalize wq.drew = wd at *
        iterate 6
          refine along_take (v := ?_) rfl (by rfl) ?_ ?_
          rotate_left
          · intro W hW; have c0 := HL3.out W hW; clear hW; go_simp; try with_reducible rfl
          simp only [Act.put, List.setIfInBounds_toArray, List.set_cons_zero, List.set_cons_succ]
        refine along_step rfl (fun K hK => ?_)
        go_simp
        refine (topen_two HT3d.out hm hok2.out).mono ?_
        rintro e3 y1 ⟨rfl, hb⟩
        have HU1 := Lib.hid (HT3d.out.stay hb)
        have HQ1 := Lib.hid (hb)
        refine hK.out _ _ HQ1.out ?_
        clear hK K hb
        try rw [hy.out]
        try rw [hhd.out]
        try simp only [Act.put, List.setIfInBounds_toArray, List.set_cons_zero, List.set_cons_succ]
        iterate 4
          refine along_take (v := ?_) rfl (by rfl) ?_ ?_
          rotate_left
          · intro W hW; have c0 := HL3.out W hW; clear hW; go_simp; try with_reducible rfl
          simp only [Act.put, List.setIfInBounds_toArray, List.set_cons_zero, List.set_cons_succ]
        refine along_step rfl (fun K hK => ?_)
        go_simp
        refine (theld_two HU1.out hm hok2.out).mono ?_
        rintro e3 y2 ⟨rfl, hb⟩
        have HU2 := Lib.hid (HU1.out.stay hb)
        have HQ2 := Lib.hid (HQ1.out.trans (hb.mono HQ1.out.size))
        refine hK.out _ _ HQ2.out ?_
        clear hK K hb
        try rw [hy.out]
        try rw [hhd.out]
        try simp only [Act.put, List.setIfInBounds_toArray, List.set_cons_zero, List.set_cons_succ]
        refine along_step rfl (fun K hK => ?_)
        go_simp
        refine (rheld_two HU2.out hm hok2.out).mono ?_
        rintro e3 y3 ⟨rfl, hb⟩
        have HU3 := Lib.hid (HU2.out.stay hb)
        have HQ3 := Lib.hid (HQ2.out.trans (hb.mono HQ2.out.size))
        refine hK.out _ _ HQ3.out ?_
        clear hK K hb
        try rw [hy.out]
        try rw [hhd.out]
        try simp only [Act.put, List.setIfInBounds_toArray, List.set_cons_zero, List.set_cons_succ]
        iterate 2
          refine along_take (v := ?_) rfl (by rfl) ?_ ?_
          rotate_left
          · intro W hW; have c0 := HL3.out W hW; clear hW; go_simp; try with_reducible rfl
          simp only [Act.put, List.setIfInBounds_toArray, List.set_cons_zero, List.set_cons_succ]
        refine along_done ?_
        go_wp2_with fail
        go_roundw
        case rel => exact ⟨k + 1, s2, by go_num, by omega, HU3, hok2⟩
        case measure => simp [intOf]; omega
      | false =>
        have HTd : Hid (Two22 w0 p x m s s wr.drew) := Lib.hid (HT0.out.stay (Below.refl _ _).drew)
        obtain ⟨R, hR⟩ : ∃ R, Hid (Tm.put m s sn g = R) := ⟨_, Lib.hid rfl⟩
        have hok2 : Hid (Tm.Ok m R.l) := Lib.hid (by rw [← hR.out]; exact Tm.put_ok hok.out hm (by rw [← hg.out]; exact (HOk.out k hkl).ok) hsn)
        obtain ⟨Ro, hRo⟩ : ∃ t, Hid (R.ok = t) := ⟨_, Lib.hid rfl⟩
        obtain ⟨Re, hRe⟩ : ∃ t, Hid (R.err = t) := ⟨_, Lib.hid rfl⟩
        obtain ⟨Ru, hRu⟩ : ∃ t, Hid (strOf R.told = t) := ⟨_, Lib.hid rfl⟩
        go_wp2_with fail
        refine wp_region_plan (S := fun W => Below w0.heap.size w0 W) [(0, true), (1, true), (2, true), (3, true), (4, true), (5, true), (6, true), (7, true), (8, true), (9, true), (10, true), (11, false), (12, true), (13, true), (14, true), (15, true), (16, true), (17, true), (18, true)] (by kernel_rfl) (by kernel_rfl) rfl (by kernel_rfl) (fun _ _ _ _ _ h => h) HT0.out.below.drew ?_
        obtain ⟨w4, hw4⟩ : ∃ W, wr.drew = W := ⟨_, rfl⟩
        rw [hw4] at HTd ⊢
        clear hw4
        iterate 11
          refine along_take (v := ?_) rfl (by rfl) ?_ ?_
          rotate_left
          · intro W hW; obtain ⟨c0, c1, c2, c3, c4, c5, c6, c7⟩ := HC.out W hW; clear hW; go_simp; try with_reducible rfl
          simp only [Act.put, List.setIfInBounds_toArray, List.set_cons_zero, List.set_cons_succ]
        refine along_step rfl (fun K hK => ?_)
        go_simp
        refine (tput_two HTd.out hm hok.out sn hsn hgv.out hbl.out).mono ?_
        rintro e1 x1 ⟨u, rfl, hb⟩
        have HK1 := Lib.hid hb
        refine hK.out _ _ HK1.out.below ?_
        clear hK K hb
        rw [hR.out] at HK1 ⊢
        rw [hRo.out, hRe.out]
        try simp only [Act.put, List.setIfInBounds_toArray, List.set_cons_zero, List.set_cons_succ]
        iterate 7
          refine along_take (v := ?_) rfl (by rfl) ?_ ?_
          rotate_left
          · intro W hW; obtain ⟨c0, c1, c2, c3, c4, c5, c6, c7⟩ := HC.out W hW; clear hW; go_simp; try with_reducible rfl
          simp only [Act.put, List.setIfInBounds_toArray, List.set_cons_zero, List.set_cons_succ]
        refine along_done ?_
        have HKd : Hid (Kin22 w0 p x m R.l s u R.told x1.drew) := Lib.hid (HK1.out.drewN 1)
        obtain ⟨Ua, Uc, rfl⟩ := HK1.out.shape
        go_wp2_with fail
        refine wp_region_plan (S := fun W => Below w0.heap.size w0 W) [(0, true), (1, true), (2, true), (3, true), (4, true), (5, true), (6, true), (7, true), (8, true), (9, true), (10, true), (11, false), (12, true), (13, true), (14, true), (15, true), (16, true), (17, true), (18, true)] (by kernel_rfl) (by kernel_rfl) rfl (by kernel_rfl) (fun _ _ _ _ _ h => h) HK1.out.below.drew ?_
        obtain ⟨w5, hw5⟩ : ∃ W, x1.drew = W := ⟨_, rfl⟩
        rw [hw5] at HKd ⊢
        clear hw5
        iterate 11
          refine along_take (v := ?_) rfl (by rfl) ?_ ?_
          rotate_left
          · intro W hW; obtain ⟨c0, c1, c2, c3, c4, c5, c6, c7⟩ := HC.out W hW; clear hW; go_simp; try with_reducible rfl
          simp only [Act.put, List.setIfInBounds_toArray, List.set_cons_zero, List.set_cons_succ]
        refine along_step rfl (fun K hK => ?_)
        go_simp
        refine (rput_kin HKd.out hm hok.out sn hsn hgv.out hbl.out).mono ?_
        rintro e2 x2 ⟨rfl, hb, hp⟩
        have HT2 := Lib.hid hb
        have HP2 := Lib.hid hp
        refine hK.out _ _ HT2.out.below ?_
        clear hK K hb hp
        rw [hR.out] at HT2 ⊢
        rw [hRo.out, hRe.out, hRu.out]
        try simp only [Act.put, List.setIfInBounds_toArray, List.set_cons_zero, List.set_cons_succ]
        iterate 7
          refine along_take (v := ?_) rfl (by rfl) ?_ ?_
          rotate_left
          · intro W hW; obtain ⟨c0, c1, c2, c3, c4, c5, c6, c7⟩ := HC.out W hW; clear hW; go_simp; try with_reducible rfl
          simp only [Act.put, List.setIfInBounds_toArray, List.set_cons_zero, List.set_cons_succ]
        refine along_done ?_
        have HT3 := HT2
        obtain ⟨s2, hs2⟩ : ∃ t, Hid (R.l = t) := ⟨_, Lib.hid rfl⟩
        rw [hs2.out] at HT3 hok2
        have hcv : (convert 36 9 (.slice Ua R.told.length Uc)).run Try.prog x2 = .ok (.string (strOf R.told)) x2 := HP2.out.conv
        rw [hRu.out] at hcv
        clear HT2
        generalize x2 = wq at *
        obtain ⟨La, Lc, hl3, hlc⟩ := HT3.out.list
        have HQ0 : Hid (Below wq.heap.size wq wq.drew) := Lib.hid (Below.refl _ _).drew
        have HT3d : Hid (Two22 w0 p x m s2 s2 wq.drew) := Lib.hid (HT3.out.stay HQ0.out)
        have HL3 : Hid (∀ W, Below wq.drew.heap.size wq.drew W → W.cell? ⟨x, 3, none⟩ = some (.slice La s2.length Lc)) := Lib.hid (fun W hW => (hW.cell (p := ⟨x, 3, none⟩) (cell_lt hl3)).trans hl3)
        obtain ⟨y, hy⟩ : ∃ y, Hid (s2.length = y) := ⟨_, Lib.hid rfl⟩
        have hy16 : Hid (s2.length ≤ 16) := Lib.hid (Nat.le_trans hok2.out.open_ hm.op2)
        rw [hy.out] at HL3 hy16
        obtain ⟨hd, hhd⟩ : ∃ y, Hid (Tm.held s2 = y) := ⟨_, Lib.hid rfl⟩
        clear hl3 hlc
        go_wp2_with fail
        refine wp_region_plan (S := fun W => Below wq.drew.heap.size wq.drew W) [(0, true), (2, true), (3, true), (4, true), (5, true), (6, true), (1, false), (7, true), (8, true), (9, true), (11, true), (10, false), (12, false), (13, true), (14, true)] (by kernel_rfl) (by kernel_rfl) rfl (by kernel_rfl) (fun _ _ _ _ _ h => h) (Below.refl _ _) ?_
        generalize wq.drew = wd at *
        iterate 6
          refine along_take (v := ?_) rfl (by rfl) ?_ ?_
          rotate_left
          · intro W hW; have c0 := HL3.out W hW; clear hW; go_simp; try with_reducible rfl
          simp only [Act.put, List.setIfInBounds_toArray, List.set_cons_zero, List.set_cons_succ]
        refine along_step rfl (fun K hK => ?_)
        go_simp
        refine (topen_two HT3d.out hm hok2.out).mono ?_
        rintro e3 y1 ⟨rfl, hb⟩
        have HU1 := Lib.hid (HT3d.out.stay hb)
        have HQ1 := Lib.hid (hb)
        refine hK.out _ _ HQ1.out ?_
        clear hK K hb
        try rw [hy.out]
        try rw [hhd.out]
        try simp only [Act.put, List.setIfInBounds_toArray, List.set_cons_zero, List.set_cons_succ]
        iterate 4
          refine along_take (v := ?_) rfl (by rfl) ?_ ?_
          rotate_left
          · intro W hW; have c0 := HL3.out W hW; clear hW; go_simp; try with_reducible rfl
          simp only [Act.put, List.setIfInBounds_toArray, List.set_cons_zero, List.set_cons_succ]
        refine along_step rfl (fun K hK => ?_)
        go_simp
        refine (theld_two HU1.out hm hok2.out).mono ?_
        rintro e3 y2 ⟨rfl, hb⟩
        have HU2 := Lib.hid (HU1.out.stay hb)
        have HQ2 := Lib.hid (HQ1.out.trans (hb.mono HQ1.out.size))
        refine hK.out _ _ HQ2.out ?_
        clear hK K hb
        try rw [hy.out]
        try rw [hhd.out]
        try simp only [Act.put, List.setIfInBounds_toArray, List.set_cons_zero, List.set_cons_succ]
        refine along_step rfl (fun K hK => ?_)
        go_simp
        refine (rheld_two HU2.out hm hok2.out).mono ?_
        rintro e3 y3 ⟨rfl, hb⟩
        have HU3 := Lib.hid (HU2.out.stay hb)
        have HQ3 := Lib.hid (HQ2.out.trans (hb.mono HQ2.out.size))
        refine hK.out _ _ HQ3.out ?_
        clear hK K hb
        try rw [hy.out]
        try rw [hhd.out]
        try simp only [Act.put, List.setIfInBounds_toArray, List.set_cons_zero, List.set_cons_succ]
        iterate 2
          refine along_take (v := ?_) rfl (by rfl) ?_ ?_
          rotate_left
          · intro W hW; have c0 := HL3.out W hW; clear hW; go_simp; try with_reducible rfl
          simp only [Act.put, List.setIfInBounds_toArray, List.set_cons_zero, List.set_cons_succ]
        refine along_done ?_
        go_wp2_with fail
        go_roundw
        case rel => exact ⟨k + 1, s2, by go_num, by omega, HU3, hok2⟩
        case measure => simp [intOf]; omega
    · go_wp2_with fail
      refine (awake22 _).mono ?_
      rintro e w3 ⟨rfl, hb⟩
      have HB := Lib.hid (HT0.out.below.trans (hb.mono HT0.out.below.size))
      clear hb
      go_wp2_with fail
      go_ret
      exact ⟨rfl, HE.out _ HB.out⟩
end Go.Proofs.Ytkpmlhhoijijhaa
