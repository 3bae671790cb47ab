/- The walk of the law AsmOnce. -/
import Derived.Test.YtbhdgfpaoghnbaaLRoomPlays
import Derived.Test.YtbhdgfpaoghnbaaAwake23
import Derived.Test.YtbhdgfpaoghnbaaPM
namespace Go.Proofs.Ytbhdgfpaoghnbaa
open Go.RowKit
set_option linter.unusedVariables false
set_option maxRecDepth 100000
set_option linter.unusedSimpArgs false

theorem deedI {cs : Array Value} (h : cs.size = 9) : (Try.prog.info? 38).map (·.size) = some cs.size := by rw [h]; kernel_rfl
theorem deed_one (tt : Bool) (st : Nat) (g : Gd) {b : Value} (h : b.oneCell' = true) : (#[.bool tt, .int .u16 (st : Int), .int .u8 (g.kind : Int), .int .u8 (g.version : Int), .int .u32 (g.epoch : Int), .int .u32 (g.id : Int), .int .u16 (g.index : Int), .int .u16 (g.count : Int), b] : Array Value).all (·.oneCell') = true := by
  have h1 : ∀ b, (Value.bool b).oneCell' = true := fun _ => rfl
  have h2 : ∀ k z, (Value.int k z).oneCell' = true := fun _ _ => rfl
  simp [h, h1, h2]
theorem DeOk.one {w : World} {x : De} (h : DeOk w x) : x.body.oneCell' = true := by
  obtain ⟨A, c, e, _⟩ := h.piece
  rw [e]
  rfl
theorem intT23 : Try.prog.underlying 31 = some (.slice 3) := Try.underlying31
theorem intI23 : (Try.prog.info? 3).map (fun i => (i.zero, i.size, i.bytes)) = some (some (.int .i64 0), 1, 8) := by kernel_rfl
/-- what came whole is done -/
def Came (l : List De) (s : An.S) (k : Nat) (T : List Nat) : Prop := T.length ≤ k ∧ ∀ t ∈ T, ∃ h : t < l.length, s.Done l[t].sender l[t].g.epoch l[t].g.id
theorem Came.take {l : List De} {s : An.S} {k sn : Nat} {T : List Nat} {m : Tm.Lim} {g : Gd} (h : Came l s k T) : Came l (An.take m s sn g).s (k + 1) T := ⟨Nat.le_succ_of_le h.1, fun t ht => by
  obtain ⟨h1, h2⟩ := h.2 t ht
  exact ⟨h1, An.take_keep h2⟩⟩
theorem Came.push {l : List De} {s : An.S} {k sn : Nat} {T : List Nat} {m : Tm.Lim} {g : Gd} (h : Came l s k T) (hk : k < l.length) (h1 : l[k].sender = sn) (h2 : l[k].g = g) (ho : (An.take m s sn g).ok = true) : Came l (An.take m s sn g).s (k + 1) (T ++ [k]) := ⟨by simpa using h.1, fun t ht => by
  rcases List.mem_append.1 ht with ht | ht
  · exact h.take.2 t ht
  · obtain rfl : t = k := by simpa using ht
    exact ⟨hk, by rw [h1, h2]; exact (An.take_done ho).1⟩⟩
set_option maxHeartbeats 8000000 in
theorem asmOnce_walk (a b c : Int) (V : Value) (l : List De) (w : World) (wa : (Lit.int .i64 a).wf = true) (wb : (Lit.int .i64 b).wf = true) (wc : (Lit.int .i64 c).wf = true) (H : Cl fDe 9 w w.heap.size V l ∧ ∀ x ∈ l, DeOk w x) :
    Calls Try.prog 3 #[.agg #[.int .i64 a, .int .i64 b, .int .i64 c], V] w fun e w' => e = .returned (.bool true) ∧ Below w.heap.size w w' := by
  obtain ⟨H, ok⟩ := H
  have ha := bounds_i64 wa
  have hb := bounds_i64 wb
  have hc := bounds_i64 wc
  obtain ⟨bx, w0, hbx, hal, hb0, hbox⟩ := boxL22 w a b c
  have HBx := Lib.hid hbox
  have HB0 := Lib.hid hb0
  have H' := H.kept hb0
  have ok' := fun x hx => (ok x hx).kept hb0
  clear H ok hbox hb0
  obtain ⟨A, cp, rfl, hle, hmx, hA0⟩ := H'.shape
  unfold maxLen at hmx
  have HL := Lib.hid (large22_any H' ok' (by omega))
  have HIn := Lib.hid (in22_of (bx := bx) (a := a) (b := b) (c := c) H').at_
  have HOk := Lib.hid (fun i (hi : i < l.length) => ok' _ (List.getElem_mem hi))
  have HSl := Lib.hid (fun i (hi : i < l.length) => deSum_mem (List.getElem_mem hi))
  have HEnd : Hid (∀ W, Below w0.heap.size w0 W → Below w.heap.size w W) := Lib.hid (fun W h => HB0.out.trans (h.mono HB0.out.size))
  have HWa := Lib.hid ha
  have HWb := Lib.hid hb
  have HWc := Lib.hid hc
  obtain ⟨n, hn⟩ : ∃ n, Hid (l.length = n) := ⟨_, Lib.hid rfl⟩
  rw [hn.out] at hle HL ⊢
  clear H' ok'
  have HE := HEnd
  clear HEnd HB0
  obtain ⟨cb0, cb1, cb2⟩ := HBx.out w0 (Below.refl _ _)
  go_enter Try.func3, Try.ntmps3
  go_wp2_with fail
  refine (HL.out).mono ?_
  rintro e w0' ⟨rfl, big, rfl, hbig⟩
  have HBig := Lib.hid hbig
  clear hbig
  cases big with
  | true =>
    go_wp2_with fail
    refine (awake23 _).mono ?_
    rintro e w1 ⟨rfl, hb⟩
    have HB := Lib.hid hb
    clear hb
    go_wp2_with fail
    go_ret
    exact ⟨rfl, HE.out _ HB.out⟩
  | false =>
  obtain ⟨hn200, hsum⟩ := HBig.out rfl
  have HSum := Lib.hid hsum
  clear hsum
  by_cases hbad : a < 1 ∨ 16 < a ∨ b < 1 ∨ 65536 < b ∨ c < 1 ∨ 32 < c
  · have N1 := Lib.hid (fun W => anew23_bad a b c HWa.out HWb.out HWc.out hbad W)
    clear hbad ha hb hc
    go_wp2_with fail
    refine (N1.out _).mono ?_
    rintro e w1 ⟨rfl, hb⟩
    have HB1 := Lib.hid hb
    clear hb
    go_wp2_with fail
    refine (awake23 _).mono ?_
    rintro e w3 ⟨rfl, hb⟩
    have HB := Lib.hid (HB1.out.trans (hb.mono HB1.out.size))
    clear hb
    go_wp2_with fail
    go_ret
    exact ⟨rfl, HE.out _ HB.out⟩
  obtain ⟨m, hm, rfl, rfl, rfl⟩ : ∃ m : Tm.Lim, m.Ok ∧ a = (m.op : Int) ∧ b = (m.by_ : Int) ∧ c = (m.ex : Int) := ⟨⟨a.toNat, b.toNat, c.toNat⟩, ⟨by simp only []; omega, by simp only []; omega, by simp only []; omega, by simp only []; omega, by simp only []; omega, by simp only []; omega⟩, by simp only []; omega, by simp only []; omega, by simp only []; omega⟩
  have N1 := Lib.hid (fun W => anew23_any m hm W)
  clear hbad ha hb hc
  go_wp2_with fail
  refine (N1.out _).mono ?_
  rintro e w1 ⟨p, rfl, hp, hb1⟩
  have HT := Lib.hid (Lone23.new hp (fun b hb => hb.1) hb1)
  clear hp hb1 cb0 cb1 cb2
  have HT' := Lib.hid (HT.out.kin 3 1)
  clear HT
  go_wp2_with fail
  go_loopw [7, 8] (fun v i wr => ∃ (k : Nat) (s : An.S) (T : List Nat), i = .int .i64 k ∧ k ≤ n ∧ Hid (Kin23 w0 p m s 3 1 v T.length (ints .i64 T) wr) ∧ Hid (s.Ok m) ∧ Hid (Came l s k T)) (fun _ i _ => n - (intOf i).toNat)
  case atStart => exact ⟨0, An.zero, [], rfl, Nat.zero_le _, HT', Lib.hid (An.ok_zero _), Lib.hid ⟨Nat.le_refl _, fun t ht => by cases ht⟩⟩
  case round =>
    obtain ⟨k, s, T, rfl, hk, HT0, hok, HCm⟩ := hrel
    obtain ⟨At, ct, rfl, htl, htm, _, _⟩ := own_look HT0.out.row
    unfold maxLen at htm
    by_cases hlt : k < n
    · have hkl : k < l.length := by rw [hn.out]; exact hlt
      obtain ⟨B, off, rfl, hcells⟩ := HIn.out k hkl
      have HC0 := Lib.hid hcells
      have hdk := HOk.out k hkl
      have hbl : Hid (l[k].g.body.length ≤ 1000000) := Lib.hid (by have := HSl.out k hkl; have := HSum.out; omega)
      have hgv : Hid (Gv w0 w0.heap.size l[k].g l[k].gram) := Lib.hid hdk.gv
      have hsn := hdk.sender
      obtain ⟨ctk, _⟩ := hcells wr HT0.out.below
      clear hcells hdk
      unfold De.gram at hgv
      obtain ⟨tk, htk⟩ : ∃ t, Hid (l[k].tick = t) := ⟨_, Lib.hid rfl⟩
      obtain ⟨sn, hsn'⟩ : ∃ t, Hid (l[k].sender = t) := ⟨_, Lib.hid rfl⟩
      obtain ⟨g, hg⟩ : ∃ t, Hid (l[k].g = t) := ⟨_, Lib.hid rfl⟩
      obtain ⟨bv, hbv⟩ : ∃ t, Hid (l[k].body = t) := ⟨_, Lib.hid rfl⟩
      have HCk : Hid (∀ W, Below w0.heap.size w0 W → W.cell? ⟨B, off + k * 9, none⟩ = some (.bool tk) ∧ W.cell? ⟨B, off + k * 9 + 1, none⟩ = some (.int .u16 (sn : Int)) ∧ W.cell? ⟨B, off + k * 9 + 2, none⟩ = some (.int .u8 (g.kind : Int)) ∧ W.cell? ⟨B, off + k * 9 + 3, none⟩ = some (.int .u8 (g.version : Int)) ∧ W.cell? ⟨B, off + k * 9 + 4, none⟩ = some (.int .u32 (g.epoch : Int)) ∧ W.cell? ⟨B, off + k * 9 + 5, none⟩ = some (.int .u32 (g.id : Int)) ∧ W.cell? ⟨B, off + k * 9 + 6, none⟩ = some (.int .u16 (g.index : Int)) ∧ W.cell? ⟨B, off + k * 9 + 7, none⟩ = some (.int .u16 (g.count : Int)) ∧ W.cell? ⟨B, off + k * 9 + 8, none⟩ = some bv) := Lib.hid (fun W hW => by
        rw [← htk.out, ← hsn'.out, ← hg.out, ← hbv.out]
        exact HC0.out W hW)
      have HC := Lib.hid (fun W hW => (HCk.out W hW).2)
      rw [htk.out] at ctk
      rw [hsn'.out] at hsn
      rw [hg.out] at hbl hgv
      rw [hbv.out] at hgv
      have HBv : Hid (bv.oneCell' = true) := Lib.hid (by rw [← hbv.out]; exact (HOk.out k hkl).one)
      clear HC0 htk hbv
      cases tk with
      | true =>
        go_wp2_with fail
        refine (atick_kin HT0.out hm hok.out).mono ?_
        rintro e x1 ⟨rfl, hb⟩
        have HT3 := Lib.hid hb
        clear hb
        have hok2 : Hid ((An.tick m s).Ok m) := Lib.hid (An.tick_ok hok.out)
        go_wp2_with fail
        go_roundw
        case rel => exact ⟨k + 1, An.tick m s, T, by go_num, by omega, HT3, hok2, Lib.hid ⟨Nat.le_succ_of_le HCm.out.1, HCm.out.2⟩⟩
        case measure => simp [intOf]; omega
      | false =>
        have HTd := Lib.hid (HT0.out.stay (Below.refl _ _).drew)
        obtain ⟨R, hR⟩ : ∃ R, Hid (An.take m s sn g = R) := ⟨_, Lib.hid rfl⟩
        have hok2 : Hid (R.s.Ok m) := Lib.hid (by rw [← hR.out]; exact An.take_ok hok.out hm (by rw [← hg.out]; exact (HOk.out k hkl).ok) hsn)
        obtain ⟨Ro, hRo⟩ : ∃ t, Hid (R.ok = t) := ⟨_, Lib.hid rfl⟩
        have HCt : Hid (Came l R.s (k + 1) T) := Lib.hid (by rw [← hR.out]; exact HCm.out.take)
        have HCp : Hid (Ro = true → Came l R.s (k + 1) (T ++ [k])) := Lib.hid (fun ho => by rw [← hR.out]; exact HCm.out.push hkl hsn'.out hg.out (by rw [hR.out, hRo.out]; exact ho))
        have HNo : Hid (Ro = true → ¬ s.Done sn g.epoch g.id) := Lib.hid (fun ho => (An.take_done (m := m) (by rw [hR.out, hRo.out]; exact ho)).2)
        have hTk : T.length ≤ 200 := by have := HCm.out.1; omega
        obtain ⟨q, hq⟩ : ∃ q, Hid (T.length = q) := ⟨_, Lib.hid rfl⟩
        have htl' := htl
        rw [hq.out] at HTd hTk htl'
        rw [hq.out]
        clear HT0 htl
        go_wp2_with fail
        refine wp_region_plan (S := fun W => Below w0.heap.size w0 W) [(0, true), (1, true), (2, true), (3, true), (4, true), (5, true), (6, true), (7, true), (8, true), (9, true), (10, true), (11, false), (12, true), (13, true), (14, true), (15, true), (16, true), (17, true), (18, true)] (by kernel_rfl) (by kernel_rfl) rfl (by kernel_rfl) (fun _ _ _ _ _ h => h) HTd.out.below ?_
        obtain ⟨w4, hw4⟩ : ∃ W, wr.drew = W := ⟨_, rfl⟩
        rw [hw4] at HTd ⊢
        clear hw4
        iterate 11
          refine along_take (v := ?_) rfl (by rfl) ?_ ?_
          rotate_left
          · intro W hW; obtain ⟨c0, c1, c2, c3, c4, c5, c6, c7⟩ := HC.out W hW; clear hW; go_simp; try with_reducible rfl
          simp only [Act.put, List.setIfInBounds_toArray, List.set_cons_zero, List.set_cons_succ]
        refine along_step rfl (fun K hK => ?_)
        go_simp
        refine (atake_kin HTd.out hm hok.out sn hsn hgv.out hbl.out).mono ?_
        rintro e1 x1 ⟨u, rfl, hp, hb⟩
        have HT3 := Lib.hid hb
        refine hK.out _ _ HT3.out.below ?_
        clear hK K hb hp
        rw [hR.out] at HT3 ⊢
        rw [hRo.out]
        try simp only [Act.put, List.setIfInBounds_toArray, List.set_cons_zero, List.set_cons_succ]
        iterate 7
          refine along_take (v := ?_) rfl (by rfl) ?_ ?_
          rotate_left
          · intro W hW; obtain ⟨c0, c1, c2, c3, c4, c5, c6, c7⟩ := HC.out W hW; clear hW; go_simp; try with_reducible rfl
          simp only [Act.put, List.setIfInBounds_toArray, List.set_cons_zero, List.set_cons_succ]
        refine along_done ?_
        cases Ro with
        | false =>
          go_wp2_with fail
          go_loopw [12] (fun jv wr => jv = .int .i64 0 ∧ Hid (Kin23 w0 p m R.s 3 1 (.slice At q ct) q (ints .i64 T) wr)) (fun _ _ => 0)
          case atStart => exact ⟨rfl, HT3⟩
          case round =>
            obtain ⟨rfl, HT4⟩ := hrel
            have HT5 : Hid (Kin23 w0 p m R.s 3 1 (.slice At q ct) T.length (ints .i64 T) wr) := Lib.hid (by rw [hq.out]; exact HT4.out)
            by_cases hq0 : 0 < q
            · go_wp2_with fail
              go_roundw
              case rel => exact ⟨k + 1, R.s, T, by go_num, by omega, HT5, hok2, HCt⟩
              case measure => simp [intOf]; omega
            · go_wp2_with fail
              go_roundw
              case rel => exact ⟨k + 1, R.s, T, by go_num, by omega, HT5, hok2, HCt⟩
              case measure => simp [intOf]; omega
        | true =>
          go_wp2_with fail
          go_loopw [12] (fun jv wr => ∃ j : Nat, jv = .int .i64 j ∧ j ≤ q ∧ Hid (Kin23 w0 p m R.s 3 1 (.slice At q ct) q (ints .i64 T) wr)) (fun jv _ => q - (intOf jv).toNat)
          case atStart => exact ⟨0, rfl, Nat.zero_le _, HT3⟩
          case round =>
            obtain ⟨j, rfl, hj, HT4⟩ := hrel
            by_cases hjq : j < q
            · have hjT : j < T.length := by rw [hq.out]; exact hjq
              obtain ⟨hTl, hTd⟩ := HCm.out.2 T[j] (List.getElem_mem hjT)
              obtain ⟨t, ht⟩ : ∃ t, T[j] = t := ⟨_, rfl⟩
              obtain ⟨_, _, hsl, _, _, _, hrow⟩ := own_look HT4.out.row
              injection hsl with hs1 hs2 hs3
              subst hs1
              obtain ⟨bt0, rfl, hbt1, hbt2, hcj⟩ := hrow j (.int .i64 (t : Int)) (by rw [ints_get .i64 T j hjT, ← ht]; simp [List.getD_eq_getElem?_getD, List.getElem?_eq_getElem hjT])
              have HTt : Hid (t < l.length) := Lib.hid (by rw [← ht]; exact hTl)
              have HDt : Hid (s.Done (l[t]'HTt.out).sender (l[t]'HTt.out).g.epoch (l[t]'HTt.out).g.id) := Lib.hid (by simp only [← ht]; exact hTd)
              have htn : t < n := by rw [← hn.out]; exact HTt.out
              clear hTl hTd ht hrow
              obtain ⟨B', off', hEq, hct⟩ := HIn.out t HTt.out
              cases hEq
              have HC1 := Lib.hid hct
              clear hct
              obtain ⟨tt, htt⟩ : ∃ x, Hid ((l[t]'HTt.out).tick = x) := ⟨_, Lib.hid rfl⟩
              obtain ⟨st, hst⟩ : ∃ x, Hid ((l[t]'HTt.out).sender = x) := ⟨_, Lib.hid rfl⟩
              obtain ⟨gt, hgt⟩ : ∃ x, Hid ((l[t]'HTt.out).g = x) := ⟨_, Lib.hid rfl⟩
              obtain ⟨bt, hbt⟩ : ∃ x, Hid ((l[t]'HTt.out).body = x) := ⟨_, Lib.hid rfl⟩
              have HBt : Hid (bt.oneCell' = true) := Lib.hid (by rw [← hbt.out]; exact (HOk.out t HTt.out).one)
              rw [hst.out, hgt.out] at HDt
              have HWay : Hid (¬ st = sn ∨ (st = sn ∧ ¬ gt.epoch = g.epoch) ∨ (st = sn ∧ gt.epoch = g.epoch ∧ ¬ gt.id = g.id)) := Lib.hid (by
                by_cases h1 : st = sn
                · by_cases h2 : gt.epoch = g.epoch
                  · by_cases h3 : gt.id = g.id
                    · exact absurd (by rw [← h1, ← h2, ← h3]; exact HDt.out) (HNo.out (by trivial))
                    · exact .inr (.inr ⟨h1, h2, h3⟩)
                  · exact .inr (.inl ⟨h1, h2⟩)
                · exact .inl h1)
              obtain ⟨wd, hwd⟩ : ∃ W, wr.drew = W := ⟨_, rfl⟩
              have HW : Hid (Below wr.heap.size wr wd) := Lib.hid (by rw [← hwd]; exact (Below.refl _ _).drew)
              have HCj : Hid (wr.cell? ⟨bt0, j, none⟩ = some (.int .i64 (t : Int))) := Lib.hid hcj
              have hbt3 : Hid (bt0 < wr.heap.size) := Lib.hid hbt2
              clear hcj hbt1 hbt2 hs2 hs3
              have HD : Hid (∀ W, Below wd.heap.size wd W → W.cell? ⟨bt0, j, none⟩ = some (.int .i64 (t : Int)) ∧ W.cell? ⟨B, off + t * 9, none⟩ = some (.bool tt) ∧ W.cell? ⟨B, off + t * 9 + 1, none⟩ = some (.int .u16 (st : Int)) ∧ W.cell? ⟨B, off + t * 9 + 2, none⟩ = some (.int .u8 (gt.kind : Int)) ∧ W.cell? ⟨B, off + t * 9 + 3, none⟩ = some (.int .u8 (gt.version : Int)) ∧ W.cell? ⟨B, off + t * 9 + 4, none⟩ = some (.int .u32 (gt.epoch : Int)) ∧ W.cell? ⟨B, off + t * 9 + 5, none⟩ = some (.int .u32 (gt.id : Int)) ∧ W.cell? ⟨B, off + t * 9 + 6, none⟩ = some (.int .u16 (gt.index : Int)) ∧ W.cell? ⟨B, off + t * 9 + 7, none⟩ = some (.int .u16 (gt.count : Int)) ∧ W.cell? ⟨B, off + t * 9 + 8, none⟩ = some bt ∧
                  W.cell? ⟨B, off + k * 9, none⟩ = some (.bool false) ∧ W.cell? ⟨B, off + k * 9 + 1, none⟩ = some (.int .u16 (sn : Int)) ∧ W.cell? ⟨B, off + k * 9 + 2, none⟩ = some (.int .u8 (g.kind : Int)) ∧ W.cell? ⟨B, off + k * 9 + 3, none⟩ = some (.int .u8 (g.version : Int)) ∧ W.cell? ⟨B, off + k * 9 + 4, none⟩ = some (.int .u32 (g.epoch : Int)) ∧ W.cell? ⟨B, off + k * 9 + 5, none⟩ = some (.int .u32 (g.id : Int)) ∧ W.cell? ⟨B, off + k * 9 + 6, none⟩ = some (.int .u16 (g.index : Int)) ∧ W.cell? ⟨B, off + k * 9 + 7, none⟩ = some (.int .u16 (g.count : Int)) ∧ W.cell? ⟨B, off + k * 9 + 8, none⟩ = some bv) := Lib.hid (fun W hW => by
                have hW1 := HW.out.trans (hW.mono HW.out.size)
                have hW0 := HT4.out.below.trans (hW1.mono HT4.out.below.size)
                have h1 := HC1.out W hW0
                rw [htt.out, hst.out, hgt.out, hbt.out] at h1
                obtain ⟨r0, r1, r2, r3, r4, r5, r6, r7, r8⟩ := h1
                exact ⟨(hW1.cell (p := ⟨bt0, j, none⟩) hbt3.out).trans HCj.out, r0, r1, r2, r3, r4, r5, r6, r7, r8, HCk.out W hW0⟩)
              obtain ⟨q1, hq1⟩ : ∃ x, wd.heap.size = x := ⟨_, rfl⟩
              obtain ⟨wx, hwx⟩ : ∃ W, wd.alloc (.cells #[.bool false, .int .u16 0, .int .u8 0, .int .u8 0, .int .u32 0, .int .u32 0, .int .u16 0, .int .u16 0, .slice none 0 0] 38) = W := ⟨_, rfl⟩
              obtain ⟨q2, hq2⟩ : ∃ x, wx.heap.size = x := ⟨_, rfl⟩
              obtain ⟨wb, hwb⟩ : ∃ W, wx.alloc (.cells #[.bool false, .int .u16 0, .int .u8 0, .int .u8 0, .int .u32 0, .int .u32 0, .int .u16 0, .int .u16 0, .slice none 0 0] 38) = W := ⟨_, rfl⟩
              have HQ : Hid (q1 < q2 ∧ wd.heap.size = q1) := Lib.hid (by refine ⟨?_, hq1⟩; rw [← hq1, ← hq2, ← hwx]; simp)
              have HS1 : Hid (Below wd.heap.size wd wx) := Lib.hid (by rw [← hwx]; exact (Below.refl _ _).alloc (Nat.le_refl _) _)
              have HS2 : Hid (Below wd.heap.size wd wb) := Lib.hid (by rw [← hwb]; exact HS1.out.alloc HS1.out.size _)
              have HZ1x : Whole wx q1 38 #[.bool false, .int .u16 0, .int .u8 0, .int .u8 0, .int .u32 0, .int .u32 0, .int .u16 0, .int .u16 0, .slice none 0 0] := by rw [← hwx, ← hq1]; exact Whole.made _ _ _
              have HZq1 : Hid (Whole wb q1 38 #[.bool false, .int .u16 0, .int .u8 0, .int .u8 0, .int .u32 0, .int .u32 0, .int .u16 0, .int .u16 0, .slice none 0 0]) := Lib.hid (by rw [← hwb]; exact HZ1x.below ((Below.refl _ _).alloc (Nat.le_refl _) _) HZ1x.lt)
              have HZq2 : Hid (Whole wb q2 38 #[.bool false, .int .u16 0, .int .u8 0, .int .u8 0, .int .u32 0, .int .u32 0, .int .u16 0, .int .u16 0, .slice none 0 0]) := Lib.hid (by rw [← hwb, ← hq2]; exact Whole.made _ _ _)
              clear HZ1x
              go_wp2_with fail
              refine wp_region_fork (S := fun W => Below wd.heap.size wd W) 14 (.take 0 (.take 1 (.take 2 (.take 3 (.take 4 (.take 5 (.take 6 (.take 7 (.take 8 (.take 9 (.take 10 (.fork 11 12 (.step 12 (.step 13 (.step 14 .done))) (.step 11 (.step 13 (.step 14 .done))))))))))))))) (by kernel_rfl) (by kernel_rfl) rfl (by kernel_rfl) (by rfl) (fun _ _ _ _ _ h => h) (by rw [hwd]; exact Below.refl _ _) ?_
              rw [hwd]
              iterate 11
                refine alongF_take (v := ?_) rfl (by rfl) ?_ ?_
                rotate_left
                · intro W hW; obtain ⟨d0, e0, e1, e2, e3, e4, e5, e6, e7, e8, f0, f1, f2, f3, f4, f5, f6, f7, f8⟩ := HD.out W hW; clear hW; go_simp; try with_reducible rfl
                simp only [Act.put, List.setIfInBounds_toArray, List.set_cons_zero, List.set_cons_succ]
              refine alongF_fork rfl rfl (fun K hK => ?_) (fun K hK => ?_)
              · skip
                go_simp
                refine hK.out _ _ HS1.out ?_
                clear hK K
                try simp only [Act.put, List.setIfInBounds_toArray, List.set_cons_zero, List.set_cons_succ]
                refine alongF_step rfl (fun K hK => ?_)
                go_simp
                refine hK.out _ _ HS2.out ?_
                clear hK K
                try simp only [Act.put, List.setIfInBounds_toArray, List.set_cons_zero, List.set_cons_succ]
                refine alongF_step rfl (fun K hK => ?_)
                have HWx := HZq1
                refine step_store_row rfl rfl rfl rfl rfl HWx.out (deedI rfl) rfl (deed_one _ _ _ HBt.out) ?_
                obtain ⟨wc, hwc⟩ : ∃ W, wb.setRow q1 #[.bool tt, .int .u16 (st : Int), .int .u8 (gt.kind : Int), .int .u8 (gt.version : Int), .int .u32 (gt.epoch : Int), .int .u32 (gt.id : Int), .int .u16 (gt.index : Int), .int .u16 (gt.count : Int), bt] = W := ⟨_, rfl⟩
                try rw [hwc]
                have HX1 : Hid (Whole wc q1 38 #[.bool tt, .int .u16 (st : Int), .int .u8 (gt.kind : Int), .int .u8 (gt.version : Int), .int .u32 (gt.epoch : Int), .int .u32 (gt.id : Int), .int .u16 (gt.index : Int), .int .u16 (gt.count : Int), bt]) := Lib.hid (by rw [← hwc]; exact HWx.out.row _)
                have HO1 : Hid (Whole wc q2 38 #[.bool false, .int .u16 0, .int .u8 0, .int .u8 0, .int .u32 0, .int .u32 0, .int .u16 0, .int .u16 0, .slice none 0 0]) := Lib.hid (HZq2.out.same (by rw [← hwc]; exact setRow_other _ _ _ _ (by have := HQ.out; omega)))
                have HS3 : Hid (Below wd.heap.size wd wc) := Lib.hid (by rw [← hwc]; exact below_row HS2.out (by have := HQ.out; omega) _)
                refine hK.out _ _ HS3.out ?_
                clear hK K hwc HWx
                try simp only [Act.put, List.setIfInBounds_toArray, List.set_cons_zero, List.set_cons_succ]
                refine alongF_last rfl (fun K hK => ?_)
                refine step_store_row rfl rfl rfl rfl rfl HO1.out (deedI rfl) rfl (deed_one _ _ _ HBv.out) ?_
                obtain ⟨we, hwe⟩ : ∃ W, wc.setRow q2 #[.bool false, .int .u16 (sn : Int), .int .u8 (g.kind : Int), .int .u8 (g.version : Int), .int .u32 (g.epoch : Int), .int .u32 (g.id : Int), .int .u16 (g.index : Int), .int .u16 (g.count : Int), bv] = W := ⟨_, rfl⟩
                try rw [hwe]
                refine hK.out _ _ ?_
                clear hK K
                have HY2 : Hid (Whole we q2 38 #[.bool false, .int .u16 (sn : Int), .int .u8 (g.kind : Int), .int .u8 (g.version : Int), .int .u32 (g.epoch : Int), .int .u32 (g.id : Int), .int .u16 (g.index : Int), .int .u16 (g.count : Int), bv]) := Lib.hid (by rw [← hwe]; exact HO1.out.row _)
                have HX2 : Hid (Whole we q1 38 #[.bool tt, .int .u16 (st : Int), .int .u8 (gt.kind : Int), .int .u8 (gt.version : Int), .int .u32 (gt.epoch : Int), .int .u32 (gt.id : Int), .int .u16 (gt.index : Int), .int .u16 (gt.count : Int), bt]) := Lib.hid (HX1.out.same (by rw [← hwe]; exact setRow_other _ _ _ _ (by have := HQ.out; omega)))
                have HS4 : Hid (Below wd.heap.size wd we) := Lib.hid (by rw [← hwe]; exact below_row HS3.out (by have := HQ.out; omega) _)
                have x1a : we.cell? ⟨q1, 1, none⟩ = some (.int .u16 (st : Int)) := HX2.out.at_ 1
                have x4a : we.cell? ⟨q1, 4, none⟩ = some (.int .u32 (gt.epoch : Int)) := HX2.out.at_ 4
                have x5a : we.cell? ⟨q1, 5, none⟩ = some (.int .u32 (gt.id : Int)) := HX2.out.at_ 5
                have y1a : we.cell? ⟨q2, 1, none⟩ = some (.int .u16 (sn : Int)) := HY2.out.at_ 1
                have y4a : we.cell? ⟨q2, 4, none⟩ = some (.int .u32 (g.epoch : Int)) := HY2.out.at_ 4
                have y5a : we.cell? ⟨q2, 5, none⟩ = some (.int .u32 (g.id : Int)) := HY2.out.at_ 5
                have HT5 := Lib.hid (HT4.out.stay (HW.out.trans (HS4.out.mono HW.out.size)))
                clear hwe HO1 HX1 HX2 HY2 HS3 HS4
                obtain ⟨a1, ha1⟩ : ∃ x, Hid (gt.epoch = x) := ⟨_, Lib.hid rfl⟩
                obtain ⟨a2, ha2⟩ : ∃ x, Hid (gt.id = x) := ⟨_, Lib.hid rfl⟩
                obtain ⟨b1, hb1⟩ : ∃ x, Hid (g.epoch = x) := ⟨_, Lib.hid rfl⟩
                obtain ⟨b2, hb2⟩ : ∃ x, Hid (g.id = x) := ⟨_, Lib.hid rfl⟩
                have HWay2 := HWay
                rw [ha1.out, ha2.out, hb1.out, hb2.out] at HWay2
                rw [ha1.out] at x4a
                rw [ha2.out] at x5a
                rw [hb1.out] at y4a
                rw [hb2.out] at y5a
                rcases HWay2.out with hne | ⟨heq, hne⟩ | ⟨heq, heq2, hne⟩
                · go_wp2_with fail
                  go_roundw
                  case rel => exact ⟨j + 1, by go_num, by omega, HT5⟩
                  case measure => simp [intOf]; omega
                · rw [heq] at x1a
                  go_wp2_with fail
                  go_roundw
                  case rel => exact ⟨j + 1, by go_num, by omega, HT5⟩
                  case measure => simp [intOf]; omega
                · rw [heq] at x1a
                  rw [heq2] at x4a
                  go_wp2_with fail
                  go_roundw
                  case rel => exact ⟨j + 1, by go_num, by omega, HT5⟩
                  case measure => simp [intOf]; omega
              · skip
                go_simp
                refine hK.out _ _ HS1.out ?_
                clear hK K
                try simp only [Act.put, List.setIfInBounds_toArray, List.set_cons_zero, List.set_cons_succ]
                refine alongF_step rfl (fun K hK => ?_)
                go_simp
                refine hK.out _ _ HS2.out ?_
                clear hK K
                try simp only [Act.put, List.setIfInBounds_toArray, List.set_cons_zero, List.set_cons_succ]
                refine alongF_step rfl (fun K hK => ?_)
                have HWx := HZq2
                refine step_store_row rfl rfl rfl rfl rfl HWx.out (deedI rfl) rfl (deed_one _ _ _ HBt.out) ?_
                obtain ⟨wc, hwc⟩ : ∃ W, wb.setRow q2 #[.bool tt, .int .u16 (st : Int), .int .u8 (gt.kind : Int), .int .u8 (gt.version : Int), .int .u32 (gt.epoch : Int), .int .u32 (gt.id : Int), .int .u16 (gt.index : Int), .int .u16 (gt.count : Int), bt] = W := ⟨_, rfl⟩
                try rw [hwc]
                have HX1 : Hid (Whole wc q2 38 #[.bool tt, .int .u16 (st : Int), .int .u8 (gt.kind : Int), .int .u8 (gt.version : Int), .int .u32 (gt.epoch : Int), .int .u32 (gt.id : Int), .int .u16 (gt.index : Int), .int .u16 (gt.count : Int), bt]) := Lib.hid (by rw [← hwc]; exact HWx.out.row _)
                have HO1 : Hid (Whole wc q1 38 #[.bool false, .int .u16 0, .int .u8 0, .int .u8 0, .int .u32 0, .int .u32 0, .int .u16 0, .int .u16 0, .slice none 0 0]) := Lib.hid (HZq1.out.same (by rw [← hwc]; exact setRow_other _ _ _ _ (by have := HQ.out; omega)))
                have HS3 : Hid (Below wd.heap.size wd wc) := Lib.hid (by rw [← hwc]; exact below_row HS2.out (by have := HQ.out; omega) _)
                refine hK.out _ _ HS3.out ?_
                clear hK K hwc HWx
                try simp only [Act.put, List.setIfInBounds_toArray, List.set_cons_zero, List.set_cons_succ]
                refine alongF_last rfl (fun K hK => ?_)
                refine step_store_row rfl rfl rfl rfl rfl HO1.out (deedI rfl) rfl (deed_one _ _ _ HBv.out) ?_
                obtain ⟨we, hwe⟩ : ∃ W, wc.setRow q1 #[.bool false, .int .u16 (sn : Int), .int .u8 (g.kind : Int), .int .u8 (g.version : Int), .int .u32 (g.epoch : Int), .int .u32 (g.id : Int), .int .u16 (g.index : Int), .int .u16 (g.count : Int), bv] = W := ⟨_, rfl⟩
                try rw [hwe]
                refine hK.out _ _ ?_
                clear hK K
                have HY2 : Hid (Whole we q1 38 #[.bool false, .int .u16 (sn : Int), .int .u8 (g.kind : Int), .int .u8 (g.version : Int), .int .u32 (g.epoch : Int), .int .u32 (g.id : Int), .int .u16 (g.index : Int), .int .u16 (g.count : Int), bv]) := Lib.hid (by rw [← hwe]; exact HO1.out.row _)
                have HX2 : Hid (Whole we q2 38 #[.bool tt, .int .u16 (st : Int), .int .u8 (gt.kind : Int), .int .u8 (gt.version : Int), .int .u32 (gt.epoch : Int), .int .u32 (gt.id : Int), .int .u16 (gt.index : Int), .int .u16 (gt.count : Int), bt]) := Lib.hid (HX1.out.same (by rw [← hwe]; exact setRow_other _ _ _ _ (by have := HQ.out; omega)))
                have HS4 : Hid (Below wd.heap.size wd we) := Lib.hid (by rw [← hwe]; exact below_row HS3.out (by have := HQ.out; omega) _)
                have x1a : we.cell? ⟨q2, 1, none⟩ = some (.int .u16 (st : Int)) := HX2.out.at_ 1
                have x4a : we.cell? ⟨q2, 4, none⟩ = some (.int .u32 (gt.epoch : Int)) := HX2.out.at_ 4
                have x5a : we.cell? ⟨q2, 5, none⟩ = some (.int .u32 (gt.id : Int)) := HX2.out.at_ 5
                have y1a : we.cell? ⟨q1, 1, none⟩ = some (.int .u16 (sn : Int)) := HY2.out.at_ 1
                have y4a : we.cell? ⟨q1, 4, none⟩ = some (.int .u32 (g.epoch : Int)) := HY2.out.at_ 4
                have y5a : we.cell? ⟨q1, 5, none⟩ = some (.int .u32 (g.id : Int)) := HY2.out.at_ 5
                have HT5 := Lib.hid (HT4.out.stay (HW.out.trans (HS4.out.mono HW.out.size)))
                clear hwe HO1 HX1 HX2 HY2 HS3 HS4
                obtain ⟨a1, ha1⟩ : ∃ x, Hid (gt.epoch = x) := ⟨_, Lib.hid rfl⟩
                obtain ⟨a2, ha2⟩ : ∃ x, Hid (gt.id = x) := ⟨_, Lib.hid rfl⟩
                obtain ⟨b1, hb1⟩ : ∃ x, Hid (g.epoch = x) := ⟨_, Lib.hid rfl⟩
                obtain ⟨b2, hb2⟩ : ∃ x, Hid (g.id = x) := ⟨_, Lib.hid rfl⟩
                have HWay2 := HWay
                rw [ha1.out, ha2.out, hb1.out, hb2.out] at HWay2
                rw [ha1.out] at x4a
                rw [ha2.out] at x5a
                rw [hb1.out] at y4a
                rw [hb2.out] at y5a
                rcases HWay2.out with hne | ⟨heq, hne⟩ | ⟨heq, heq2, hne⟩
                · go_wp2_with fail
                  go_roundw
                  case rel => exact ⟨j + 1, by go_num, by omega, HT5⟩
                  case measure => simp [intOf]; omega
                · rw [heq] at x1a
                  go_wp2_with fail
                  go_roundw
                  case rel => exact ⟨j + 1, by go_num, by omega, HT5⟩
                  case measure => simp [intOf]; omega
                · rw [heq] at x1a
                  rw [heq2] at x4a
                  go_wp2_with fail
                  go_roundw
                  case rel => exact ⟨j + 1, by go_num, by omega, HT5⟩
                  case measure => simp [intOf]; omega
            · have HT5 : Hid (Kin23 w0 p m R.s 3 1 (.slice At q ct) q (ints .i64 T) wr) := HT4
              have HRow : Hid (∀ o, (wr.alloc o).ownsRow w0.heap.size 3 1 (.slice At q ct) q (ints .i64 T)) := Lib.hid (fun o => HT4.out.row.alloc o)
              have HB4 := Lib.hid HT4.out.below.size
              have HPush : Hid (∀ v' w2 o, w2.ownsRow w0.heap.size 3 1 v' (q + 1) (ints .i64 T ++ [.int .i64 (k : Int)]) → (wr.alloc o).grownBy w2 (Value.slice At q ct).ownBlock → (v'.ownBlock = (Value.slice At q ct).ownBlock ∨ v'.ownBlock = some (wr.alloc o).heap.size) → Kin23 w0 p m R.s 3 1 v' (T ++ [k]).length (ints .i64 (T ++ [k])) w2) := Lib.hid (fun v' w2 o h1 h2 h3 => by
                rw [ints_append, List.length_append, hq.out]
                exact (HT4.out.stay ((Below.refl _ _).alloc (Nat.le_refl _) o)).push h1 h2 h3)
              have HBz : Hid (∀ o, w0.heap.size ≤ (wr.alloc o).heap.size) := Lib.hid (fun o => Nat.le_trans HB4.out ((Below.refl wr.heap.size wr).alloc (Nat.le_refl _) o).size)
              have hCp := Lib.hid (HCp.out (by trivial))
              go_wp2_with (first
                | (at_builtin; refine wpList_append_cells intT23 intI23 rfl (by decide) (by decide) _ _ rfl rfl w0.heap.size (.slice At q ct) q (ints .i64 T) rfl (HRow.out _) 1 1 [.int .i64 (k : Int)] rfl rfl (fun h => by cases h) (by decide) (src_cells _ _ _ _) (by simp [Value.oneCell']) (by omega) (HBz.out _) ?_; intro v' w2 hr hg2 hv))
              go_roundw
              case rel => exact ⟨k + 1, R.s, T ++ [k], by go_num, by omega, Lib.hid (HPush.out v' w2 _ hr hg2 hv), hok2, hCp⟩
              case measure => simp [intOf]; omega
    · go_wp2_with fail
      refine (awake23 _).mono ?_
      rintro e w3 ⟨rfl, hb⟩
      have HB := Lib.hid (HT0.out.below.trans (hb.mono HT0.out.below.size))
      clear hb
      go_wp2_with fail
      go_ret
      exact ⟨rfl, HE.out _ HB.out⟩
end Go.Proofs.Ytbhdgfpaoghnbaa
