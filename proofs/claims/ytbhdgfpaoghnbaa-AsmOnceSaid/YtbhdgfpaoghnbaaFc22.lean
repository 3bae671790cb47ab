/- Contract of package room: Put. -/
import Derived.Test.YtbhdgfpaoghnbaaFc22e
namespace Go.Proofs.Ytbhdgfpaoghnbaa
open Go.RowKit
set_option linter.unusedVariables false
set_option maxRecDepth 100000
set_option linter.unusedSimpArgs false

set_option maxHeartbeats 8000000 in
theorem tput22_any {w : World} {F : Nat → Prop} {h B : Nat} {m : Tm.Lim} {l : List Tm.One} {v : Value} {g : Gd} (r : Tt w F h m l) (hm : m.Ok) (hok : Tm.Ok m l) (sn : Nat) (hsn : sn < 65536) (H : Gv w B g v) (hk : ∀ W, Foot F w W → Gv W B g v) (hl : g.body.length ≤ 1000000) :
    Calls Try.prog 18 #[.pointer (some ⟨h, 0, none⟩), .int .u16 (sn : Int), v] w (TputPost w F h m (Tm.put m l sn g)) := by
  obtain ⟨vl, L, Fo, rfl, r⟩ := r
  have hLm := hok.open_
  have hop1 := hm.op1
  have hop2 := hm.op2
  have hby2 := hm.by2
  have hfew := hok.few
  rw [ones_len] at hLm
  have HLT := Lib.hid r.lt
  have HMO := Lib.hid hm
  have HOK := Lib.hid hok
  have hgo := H.ok
  have HGO := Lib.hid hgo
  obtain ⟨bx, A, c, w0, rfl, hbx, hal, hsz0, hGx, hbx0⟩ := boxedG H
  have HB0 : Below w.heap.size w w0 := by rw [hbx]; exact hbx0
  have M0 : Mit w F (fun x => x = bx) h m w0 vl L Fo := Mit.start r HB0 (fun x hx => by subst hx; omega)
  have HM0 := Lib.hid M0
  have HFO : Hid (∀ W, Below w0.heap.size w0 W → Foot F w W) := Lib.hid (fun W hW => (M0.stay hW).foot)
  -- what fault and begin say
  have FA := Lib.hid (fun (W : World) (b : Nat) (o : Tm.One) (Fm : Nat → Prop) (hW : Below w0.heap.size w0 W) (hM : Mg W Fm b o) (hs : o.s.size ≤ 1000000) => tfault22_any hM ((M0.stay hW).whole.at_ 1) hby2 (hk W (HFO.out W hW)) hl hs)
  have HX : Hid (∀ W : World, W.heap[bx]? = w0.heap[bx]? → Gx W bx g A c ∨ True) := Lib.hid (fun _ _ => .inr trivial)
  have HXw := Lib.hid hGx.whole
  have hbad : (g.count = 0 ∨ g.count ≤ g.index) ∨ ¬ (g.count = 0 ∨ g.count ≤ g.index) := by omega
  obtain ⟨c0, c1, c2, c3, c4, c5, c6⟩ := hGx.cells
  have MA := Lib.hid (tmade22_any (M0.whole.at_ 0) hop1)
  have HPi : Hid (∀ W, Foot F w W → Piece W B (.slice A g.body.length c) g.body) := Lib.hid (fun W hf => by
    obtain ⟨A', c', e, hp⟩ := (hk W hf).ex
    injection e with e
    have := congrArg (fun a : Array Value => a[6]?) e
    simp at this
    obtain ⟨rfl, rfl⟩ := this
    exact hp)
  have BE := Lib.hid (fun (W : World) (hW : Below w0.heap.size w0 W) (hc : 1 ≤ g.count) => tbegin22_any sn (hk W (HFO.out W hW)) hc)
  obtain ⟨kd, hkd⟩ : ∃ x, Hid (g.kind = x) := ⟨_, Lib.hid rfl⟩
  obtain ⟨ve, hve⟩ : ∃ x, Hid (g.version = x) := ⟨_, Lib.hid rfl⟩
  obtain ⟨ep, hep⟩ : ∃ x, Hid (g.epoch = x) := ⟨_, Lib.hid rfl⟩
  obtain ⟨di, hdi⟩ : ∃ x, Hid (g.id = x) := ⟨_, Lib.hid rfl⟩
  obtain ⟨ix, hix⟩ : ∃ x, Hid (g.index = x) := ⟨_, Lib.hid rfl⟩
  obtain ⟨co, hco⟩ : ∃ x, Hid (g.count = x) := ⟨_, Lib.hid rfl⟩
  obtain ⟨y, hy⟩ : ∃ x, Hid (g.body.length = x) := ⟨_, Lib.hid rfl⟩
  obtain ⟨gk, gv, ge, gi, gx, gc, gb⟩ := hgo
  rw [hkd.out] at c0 gk
  rw [hve.out] at c1 gv
  rw [hep.out] at c2 ge
  rw [hdi.out] at c3 gi
  rw [hix.out] at c4 gx
  rw [hco.out] at c5 gc
  rw [hy.out] at c6 hl HPi
  rw [hkd.out, hve.out, hep.out, hdi.out, hix.out, hco.out, hy.out] at hal HXw FA BE ⊢
  clear gb hGx H hk hbx0 HX
  have HX : Hid (∀ W : World, W.heap[bx]? = w0.heap[bx]? → W.cell? ⟨bx, 0, none⟩ = some (.int .u8 (kd : Int)) ∧ W.cell? ⟨bx, 1, none⟩ = some (.int .u8 (ve : Int)) ∧ W.cell? ⟨bx, 2, none⟩ = some (.int .u32 (ep : Int)) ∧ W.cell? ⟨bx, 3, none⟩ = some (.int .u32 (di : Int)) ∧
      W.cell? ⟨bx, 4, none⟩ = some (.int .u16 (ix : Int)) ∧ W.cell? ⟨bx, 5, none⟩ = some (.int .u16 (co : Int)) ∧ W.cell? ⟨bx, 6, none⟩ = some (.slice A y c)) := Lib.hid (fun W hW => by
    have hh := HXw.out.same hW
    exact ⟨hh.at_ 0, hh.at_ 1, hh.at_ 2, hh.at_ 3, hh.at_ 4, hh.at_ 5, hh.at_ 6⟩)
  have HBX : Hid (bx < w0.heap.size) := Lib.hid (by omega)
  rcases hbad with hbad | hbad
  · rw [put_arg hbad]
    have HD := Lib.hid (put_nil HM0.out HLT.out 1 rfl)
    have hge : co ≤ ix := by rw [hco.out, hix.out] at hbad; omega
    clear hbad r
    go_enter Try.func18, Try.ntmps18
    go_wp2_with fail
    refine (MA.out).mono ?_
    rintro e wx ⟨rfl, rfl⟩
    go_wp2_with fail
    go_ret3
    exact HD.out
  have hlt : ¬ co ≤ ix := by rw [hco.out, hix.out] at hbad; omega
  have hco1 : 1 ≤ co := by omega
  have HBAD := Lib.hid hbad
  have FI := Lib.hid (mit_find HM0.out (by omega) sn ep di)
  have hwx : IntKind.i64.wrap (ix : Int) = (ix : Int) := by rw [IntKind.wrap_i64]; omega
  clear hbad r M0
  cases hf : Tm.find (ones L) (sn, ep, di) with
  | some i =>
    obtain ⟨hi, hcur⟩ := Tm.cur_some (l := ones L) (sender := sn) (g := g) (i := i) (by rw [hep.out, hdi.out]; exact hf)
    have hiL : i < L.length := by rw [ones_len] at hi; exact hi
    rw [ones_get hi] at hcur
    rw [foundV_some hf hiL, hf] at FI
    obtain ⟨b, hb⟩ : ∃ x, L[i].2 = x := ⟨_, rfl⟩
    obtain ⟨o, ho⟩ : ∃ x, L[i].1 = x := ⟨_, rfl⟩
    have hmem : (o, b) ∈ L := by rw [← hb, ← ho]; exact List.getElem_mem hiL
    rw [hb] at FI
    rw [ho] at hcur
    have HMEM := Lib.hid hmem
    have hos : o.s.size ≤ 65536 := by
      have := Tm.held_mem (l := ones L) (o := o) (List.mem_map.2 ⟨_, hmem, rfl⟩)
      omega
    have FAo := Lib.hid (fun W hW => FA.out W b o _ hW ((HM0.out.stay hW).mg hmem) (by omega))
    have HOS := Lib.hid hos
    clear hb ho hmem hos
    have HC := Lib.hid hcur
    have hbad := HBAD.out
    by_cases h1 : o.count ≠ g.count ∨ o.version ≠ g.version
    · have hcode : Tm.faultN m.by_ o g = 3 := by unfold Tm.faultN; rw [if_pos h1]
      rw [put_form hbad (by rw [hcur]; exact h1)]
      clear hbad hcur
      rw [hcode] at FAo
      clear hcode
      go_enter Try.func18, Try.ntmps18
      go_wp2_with fail
      refine (MA.out).mono ?_
      rintro e wx ⟨rfl, rfl⟩
      go_wp2_with fail
      refine (FI.out).mono ?_
      rintro e w1 ⟨rfl, hb1⟩
      have HB1 := Lib.hid hb1
      obtain ⟨x0, x1, x2, x3, x4, x5, x6⟩ := HX.out w1 (hb1.block bx HBX.out)
      clear hb1
      go_wp2_with fail
      refine (FAo.out _ HB1.out).mono ?_
      rintro e w2 ⟨rfl, hb2⟩
      have HB2 := Lib.hid (HB1.out.trans (hb2.mono HB1.out.size))
      clear hb2 x0 x1 x2 x3 x4 x5 x6

      go_wp2_with fail
      go_ret3
      exact put_nil (HM0.out.stay HB2.out) HLT.out 3 rfl
    by_cases h2 : o.s.has g.index = true
    · have hcode : Tm.faultN m.by_ o g = 12 := by unfold Tm.faultN; rw [if_neg h1, if_pos h2]
      rw [put_twice hbad (by rw [hcur]; exact h1) (by rw [hcur]; exact h2)]
      clear hbad hcur
      rw [hcode] at FAo
      clear hcode
      go_enter Try.func18, Try.ntmps18
      go_wp2_with fail
      refine (MA.out).mono ?_
      rintro e wx ⟨rfl, rfl⟩
      go_wp2_with fail
      refine (FI.out).mono ?_
      rintro e w1 ⟨rfl, hb1⟩
      have HB1 := Lib.hid hb1
      obtain ⟨x0, x1, x2, x3, x4, x5, x6⟩ := HX.out w1 (hb1.block bx HBX.out)
      clear hb1
      go_wp2_with fail
      refine (FAo.out _ HB1.out).mono ?_
      rintro e w2 ⟨rfl, hb2⟩
      have HB2 := Lib.hid (HB1.out.trans (hb2.mono HB1.out.size))
      clear hb2 x0 x1 x2 x3 x4 x5 x6

      go_wp2_with fail
      go_ret3
      exact put_nil (HM0.out.stay HB2.out) HLT.out 12 rfl
    have h2' : o.s.has g.index = false := by simpa using h2
    by_cases h3 : m.by_ < o.s.size + g.body.length
    · have hcode : Tm.faultN m.by_ o g = 10 := by unfold Tm.faultN; rw [if_neg h1, if_neg h2, if_pos h3]
      rw [put_full hbad (by rw [hcur]; exact h1) (by rw [hcur]; exact h2') (by rw [hcur]; exact h3)]
      clear hbad hcur
      rw [hcode] at FAo
      clear hcode
      go_enter Try.func18, Try.ntmps18
      go_wp2_with fail
      refine (MA.out).mono ?_
      rintro e wx ⟨rfl, rfl⟩
      go_wp2_with fail
      refine (FI.out).mono ?_
      rintro e w1 ⟨rfl, hb1⟩
      have HB1 := Lib.hid hb1
      obtain ⟨x0, x1, x2, x3, x4, x5, x6⟩ := HX.out w1 (hb1.block bx HBX.out)
      clear hb1
      go_wp2_with fail
      refine (FAo.out _ HB1.out).mono ?_
      rintro e w2 ⟨rfl, hb2⟩
      have HB2 := Lib.hid (HB1.out.trans (hb2.mono HB1.out.size))
      clear hb2 x0 x1 x2 x3 x4 x5 x6

      obtain ⟨gq, hgq⟩ := ((HM0.out.stay HB2.out).mg HMEM.out).whole
      have DS := Lib.hid (put_disc (HM0.out.stay HB2.out) HLT.out hgq ((HM0.out.stay HB2.out).rowL HMEM.out) rfl)
      have HKW : Hid (ones (less L b) = Tm.wo (ones L) (sn, g.epoch, g.id)) := Lib.hid (less_wo HM0.out.once HOK.out.once HMEM.out (by rw [← HC.out]; exact Tm.cur_key))
      rw [HKW.out] at DS
      clear hgq
      go_wp2_with fail
      refine (DS.out).mono ?_
      rintro e w3 ⟨rfl, hp⟩
      have HP := Lib.hid hp
      clear hp
      go_wp2_with fail
      go_ret3
      exact HP.out
    have hcode : Tm.faultN m.by_ o g = 0 := by unfold Tm.faultN; rw [if_neg h1, if_neg h2, if_neg h3]
    obtain ⟨OP, hOP⟩ : ∃ x, Tm.opened m (ones L) (sn, g.epoch, g.id) (o.plus g) = x := ⟨_, rfl⟩
    obtain ⟨R, hR⟩ : ∃ x, Tm.shrink m.by_ (sn, g.epoch, g.id) OP.length OP = x := ⟨_, rfl⟩
    rw [put_good (R := R) hbad (by rw [hcur]; exact h1) (by rw [hcur]; exact h2') (by rw [hcur]; exact h3) (by rw [hcur, hOP]; exact hR)]
    rw [hcur]
    obtain ⟨RR, hRR⟩ : ∃ x, (if (o.plus g).s.full then (⟨(o.plus g).s.whole, true, 0, Tm.wo R (sn, g.epoch, g.id)⟩ : Tm.R) else ⟨[], false, 0, R⟩) = x := ⟨_, rfl⟩
    rw [hRR]
    have hok := HOK.out
    have hkey : o.key = (sn, g.epoch, g.id) := by rw [← hcur]; exact Tm.cur_key
    have hpk : (o.plus g).key = (sn, g.epoch, g.id) := by rw [Tm.plus_key]; exact hkey
    have hOK := Tm.opened_keys (m := m) (l := ones L) (o := o.plus g) hok hpk
    have hOL := Tm.opened_len (m := m) (l := ones L) (k := (sn, g.epoch, g.id)) (o := o.plus g) hok HMO.out
    have hOH := Tm.held_opened (m := m) (l := ones L) (k := (sn, g.epoch, g.id)) (o := o.plus g) hok
    rw [hOP] at hOK hOL hOH
    have hps : (o.plus g).s.size ≤ m.by_ := by rw [Tm.plus_size]; omega
    have hcnt : g.index < o.s.count := by
      have := (Tm.cur_ok (sender := sn) hok HGO.out).2
      rw [hcur] at this
      rw [this]
      have h4 : o.count = g.count := by omega
      rw [h4, hco.out, hix.out]; omega
    have HAD : Hid (∀ (W : World) (l1 : List Tm.One) (b i q : Nat), St w F bx h m W l1 b o → Foot F w W → (l1.map Tm.One.key).Nodup → Tm.find l1 o.key = some i → l1.set i (o.plus g) = OP → W.cell? ⟨b, 6, none⟩ = some (pt q) →
        Calls Try.prog 40 #[pt q, .int .i64 (ix : Int), .slice A y c] W fun e w' => e = .returned (.int .i64 0) ∧ St w F bx h m w' OP b (o.plus g) ∧ w'.heap[bx]? = W.heap[bx]? ∧ w'.cell? ⟨b, 6, none⟩ = some (pt q)) := Lib.hid (fun W l1 b i q S hf hkn hfi hse hq => by
      have := st_add S hkn hfi (HPi.out W hf) HGO.out (by rw [hy.out]; exact hl) (by have := HOS.out; omega) hcnt h2' hq
      rw [hse, hix.out] at this
      exact this)
    have HSH : Hid (∀ (W : World) (b : Nat), St w F bx h m W OP b (o.plus g) → Calls Try.prog 41 #[pt h, pt b] W fun e w' => e = .returned (.tuple #[]) ∧ St w F bx h m w' R b (o.plus g) ∧ w'.heap[bx]? = W.heap[bx]?) := Lib.hid (fun W b S => by
      have := st_shrink S HMO.out hOK (by omega) (by omega) hps
      rw [hpk, hR] at this
      exact this)
    have HWH : Hid (∀ (W : World) (b q : Nat), St w F bx h m W R b (o.plus g) → W.cell? ⟨b, 6, none⟩ = some (pt q) → Calls Try.prog 42 #[pt q] W fun e w' => ∃ v, e = .returned (.tuple #[v, .bool (o.plus g).s.full]) ∧ Sv w F h m w' R b (o.plus g) v ∧ (∃ A n c, v = .slice A n c)) := Lib.hid (fun W b q S hq => st_whole S (by omega) hq)
    have hRK : (R.map Tm.One.key).Nodup := by rw [← hR]; exact ((Tm.shrink_sub _ _ _ _).map _).nodup hOK
    have HFU : Hid ((o.plus g).s.full = true → ∀ (W : World) (b : Nat) (v : Value), Sv w F h m W R b (o.plus g) v → Calls Try.prog 38 #[pt h, pt b] W fun e w' => e = .returned (.tuple #[]) ∧ TputPost w F h m RR (.returned (.tuple #[v, .bool true, .int .i64 0])) w') := Lib.hid (fun hfl W b v S => by
      have := sv_full S HLT.out hRK hfl
      rw [hpk] at this
      rw [← hRR, if_pos hfl]
      exact this)
    have HNF : Hid ((o.plus g).s.full = false → ∀ (W : World) (b : Nat) (v : Value), Sv w F h m W R b (o.plus g) v → TputPost w F h m RR (.returned (.tuple #[v, .bool false, .int .i64 0])) W) := Lib.hid (fun hfl W b v S => by
      rw [← hRR, if_neg (by rw [hfl]; decide)]
      exact sv_open S HLT.out hfl)
    have HKEY := Lib.hid hkey
    have HOKn := Lib.hid hok.once
    have HOP := Lib.hid hOP
    clear hbad hcur h1 h2 h2' h3 hok hkey hpk hOK hOL hOH hOP hR hps hcnt hRK hRR
    rw [hcode] at FAo
    clear hcode
    go_enter Try.func18, Try.ntmps18
    go_wp2_with fail
    refine (MA.out).mono ?_
    rintro e wx ⟨rfl, rfl⟩
    go_wp2_with fail
    refine (FI.out).mono ?_
    rintro e w1 ⟨rfl, hb1⟩
    have HB1 := Lib.hid hb1
    obtain ⟨x0, x1, x2, x3, x4, x5, x6⟩ := HX.out w1 (hb1.block bx HBX.out)
    clear hb1
    go_wp2_with fail
    refine (FAo.out _ HB1.out).mono ?_
    rintro e w2 ⟨rfl, hb2⟩
    have HB2 := Lib.hid (HB1.out.trans (hb2.mono HB1.out.size))
    clear hb2 x0 x1 x2 x3 x4 x5 x6

    have HS2 : Hid (St w F bx h m w2 (ones L) b o) := Lib.hid ⟨_, _, _, HM0.out.stay HB2.out, rfl, HMEM.out⟩
    have HFW : Hid (Foot F w w2) := Lib.hid (HFO.out w2 HB2.out)
    have HFI : Hid (Tm.find (ones L) o.key = some i) := Lib.hid (by rw [HKEY.out, hep.out, hdi.out]; exact hf)
    have HSE : Hid ((ones L).set i (o.plus g) = OP) := Lib.hid (by rw [← HOP.out, Tm.opened_some (by rw [hep.out, hdi.out]; exact hf)])
    obtain ⟨q, hq, _⟩ := HS2.out.cell
    obtain ⟨x0, x1, x2, x3, x4, x5, x6⟩ := HX.out w2 (HB2.out.block bx HBX.out)
    have AD := Lib.hid (fun W (hW : Below w2.heap.size w2 W) => HAD.out W (ones L) b i q (HS2.out.stay hW) (HFW.out.trans (Foot.of_below (F := F) hW) (fun _ _ z => z)) HOKn.out HFI.out HSE.out ((hW.cell (p := ⟨b, 6, none⟩) (World.block_lt_of_cell? w2 _ hq)).trans hq))
    have HX2 : Hid (w2.heap[bx]? = wx.heap[bx]?) := Lib.hid (HB2.out.block bx HBX.out)

    clear x0 x1 x2 x3 x5
    go_upto_region 15 with fail
    refine wp_region_plan (S := fun W => W.cell? ⟨b, 6, none⟩ = some (pt q) ∧ W.cell? ⟨bx, 4, none⟩ = some (.int .u16 (ix : Int)) ∧ W.cell? ⟨bx, 6, none⟩ = some (.slice A y c)) [(0, true), (1, true), (2, true), (3, true), (4, true), (5, true), (6, true), (7, true), (8, true), (9, false)] (by kernel_rfl) (by kernel_rfl) rfl (by kernel_rfl) (fun _ _ _ _ _ h => h) ⟨hq, x4, x6⟩ ?_
    iterate 9
      refine along_take (v := ?_) rfl (by rfl) ?_ ?_
      rotate_left
      · intro W hW; obtain ⟨s1, s2, s3⟩ := hW; go_simp; try with_reducible rfl
      simp only [Act.put, List.setIfInBounds_toArray, List.set_cons_zero, List.set_cons_succ]
    refine along_step rfl (fun K hK => ?_)
    go_simp
    refine (AD.out _ (Below.refl _ _).drew).mono ?_
    rintro e w3 ⟨rfl, hS3, hx3, hq3⟩
    have hx3' : w3.heap[bx]? = wx.heap[bx]? := hx3.trans HX2.out
    obtain ⟨_, _, _, _, y4, _, y6⟩ := HX.out w3 hx3'
    refine hK.out _ _ ⟨hq3, y4, y6⟩ ?_
    clear hK K
    refine along_done ?_
    have HS3 := Lib.hid hS3
    have SH := Lib.hid (HSH.out w3 b hS3)
    clear hS3 hx3 hq3 y4 y6 hx3' hq x4 x6
    try simp only [Act.put, List.setIfInBounds_toArray, List.set_cons_zero, List.set_cons_succ]
    go_wp2_with fail
    refine (SH.out).mono ?_
    rintro e w4 ⟨rfl, hS4, hx4⟩
    obtain ⟨q4, hq4, _⟩ := hS4.cell
    have WH := Lib.hid (HWH.out w4 b q4 hS4 hq4)
    clear hS4 hx4
    cases hfl : (o.plus g).s.full with
    | false =>
      rw [hfl] at WH
      have NF := Lib.hid (HNF.out hfl)
      clear hfl
      go_wp2_with fail
      refine (WH.out).mono ?_
      rintro e w5 ⟨vw, rfl, hSv, A5, n5, c5', rfl⟩
      have HSv := Lib.hid hSv
      clear hSv
      go_wp2_with fail
      go_ret3
      exact NF.out _ _ _ HSv.out
    | true =>
      rw [hfl] at WH
      have FU := Lib.hid (HFU.out hfl)
      clear hfl
      go_wp2_with fail
      refine (WH.out).mono ?_
      rintro e w5 ⟨vw, rfl, hSv, A5, n5, c5', rfl⟩
      have DS := Lib.hid (FU.out _ _ _ hSv)
      clear hSv
      go_wp2_with fail
      refine (DS.out).mono ?_
      rintro e w6 ⟨rfl, hp⟩
      have HP := Lib.hid hp
      clear hp
      go_wp2_with fail
      go_ret3
      exact HP.out
  | none =>
    have hcur : Tm.cur (ones L) sn g = Tm.fresh sn g := Tm.cur_none (by rw [hep.out, hdi.out]; exact hf)
    rw [foundV_none hf, hf] at FI
    obtain ⟨o, ho⟩ : ∃ x, Tm.fresh sn g = x := ⟨_, rfl⟩
    have hos : o.s.size = 0 := by rw [← ho]; rfl
    rw [ho] at hcur BE
    have BE1 := Lib.hid (fun W hW => BE.out W hW hco1)
    have HOS : Hid (o.s.size ≤ 65536) := Lib.hid (by omega)
    have HO := Lib.hid ho
    clear ho hos
    have HC := Lib.hid hcur
    have hbad := HBAD.out
    by_cases h1 : o.count ≠ g.count ∨ o.version ≠ g.version
    · have hcode : Tm.faultN m.by_ o g = 3 := by unfold Tm.faultN; rw [if_pos h1]
      rw [put_form hbad (by rw [hcur]; exact h1)]
      clear hbad hcur
      have FAn := Lib.hid (fun W b (Fm : Nat → Prop) hW hM => FA.out W b o Fm hW hM (by have := HOS.out; omega))
      rw [hcode] at FAn
      clear hcode
      go_enter Try.func18, Try.ntmps18
      go_wp2_with fail
      refine (MA.out).mono ?_
      rintro e wx ⟨rfl, rfl⟩
      go_wp2_with fail
      refine (FI.out).mono ?_
      rintro e w1 ⟨rfl, hb1⟩
      have HB1 := Lib.hid hb1
      obtain ⟨x0, x1, x2, x3, x4, x5, x6⟩ := HX.out w1 (hb1.block bx HBX.out)
      clear hb1
      go_wp2_with fail
      refine (BE1.out _ HB1.out).mono ?_
      rintro e w15 ⟨b, rfl, hmg, hb15⟩
      have HMG := Lib.hid hmg
      have HB15 := Lib.hid hb15
      have HBn := Lib.hid (HB1.out.trans (hb15.mono HB1.out.size))
      clear x0 x1 x2 x3 x4 x5 x6
      obtain ⟨x0, x1, x2, x3, x4, x5, x6⟩ := HX.out w15 (HBn.out.block bx HBX.out)
      clear hmg hb15
      go_wp2_with fail
      refine (FAn.out _ _ _ HBn.out HMG.out).mono ?_
      rintro e w2 ⟨rfl, hb2⟩
      have HBm := Lib.hid hb2
      have HB2 := Lib.hid (HBn.out.trans (hb2.mono HBn.out.size))
      clear hb2 x0 x1 x2 x3 x4 x5 x6

      go_wp2_with fail
      go_ret3
      exact put_nil (HM0.out.stay HB2.out) HLT.out 3 rfl
    by_cases h2 : o.s.has g.index = true
    · have hcode : Tm.faultN m.by_ o g = 12 := by unfold Tm.faultN; rw [if_neg h1, if_pos h2]
      rw [put_twice hbad (by rw [hcur]; exact h1) (by rw [hcur]; exact h2)]
      clear hbad hcur
      have FAn := Lib.hid (fun W b (Fm : Nat → Prop) hW hM => FA.out W b o Fm hW hM (by have := HOS.out; omega))
      rw [hcode] at FAn
      clear hcode
      go_enter Try.func18, Try.ntmps18
      go_wp2_with fail
      refine (MA.out).mono ?_
      rintro e wx ⟨rfl, rfl⟩
      go_wp2_with fail
      refine (FI.out).mono ?_
      rintro e w1 ⟨rfl, hb1⟩
      have HB1 := Lib.hid hb1
      obtain ⟨x0, x1, x2, x3, x4, x5, x6⟩ := HX.out w1 (hb1.block bx HBX.out)
      clear hb1
      go_wp2_with fail
      refine (BE1.out _ HB1.out).mono ?_
      rintro e w15 ⟨b, rfl, hmg, hb15⟩
      have HMG := Lib.hid hmg
      have HB15 := Lib.hid hb15
      have HBn := Lib.hid (HB1.out.trans (hb15.mono HB1.out.size))
      clear x0 x1 x2 x3 x4 x5 x6
      obtain ⟨x0, x1, x2, x3, x4, x5, x6⟩ := HX.out w15 (HBn.out.block bx HBX.out)
      clear hmg hb15
      go_wp2_with fail
      refine (FAn.out _ _ _ HBn.out HMG.out).mono ?_
      rintro e w2 ⟨rfl, hb2⟩
      have HBm := Lib.hid hb2
      have HB2 := Lib.hid (HBn.out.trans (hb2.mono HBn.out.size))
      clear hb2 x0 x1 x2 x3 x4 x5 x6

      go_wp2_with fail
      go_ret3
      exact put_nil (HM0.out.stay HB2.out) HLT.out 12 rfl
    have h2' : o.s.has g.index = false := by simpa using h2
    by_cases h3 : m.by_ < o.s.size + g.body.length
    · have hcode : Tm.faultN m.by_ o g = 10 := by unfold Tm.faultN; rw [if_neg h1, if_neg h2, if_pos h3]
      rw [put_full hbad (by rw [hcur]; exact h1) (by rw [hcur]; exact h2') (by rw [hcur]; exact h3)]
      clear hbad hcur
      have FAn := Lib.hid (fun W b (Fm : Nat → Prop) hW hM => FA.out W b o Fm hW hM (by have := HOS.out; omega))
      rw [hcode] at FAn
      clear hcode
      go_enter Try.func18, Try.ntmps18
      go_wp2_with fail
      refine (MA.out).mono ?_
      rintro e wx ⟨rfl, rfl⟩
      go_wp2_with fail
      refine (FI.out).mono ?_
      rintro e w1 ⟨rfl, hb1⟩
      have HB1 := Lib.hid hb1
      obtain ⟨x0, x1, x2, x3, x4, x5, x6⟩ := HX.out w1 (hb1.block bx HBX.out)
      clear hb1
      go_wp2_with fail
      refine (BE1.out _ HB1.out).mono ?_
      rintro e w15 ⟨b, rfl, hmg, hb15⟩
      have HMG := Lib.hid hmg
      have HB15 := Lib.hid hb15
      have HBn := Lib.hid (HB1.out.trans (hb15.mono HB1.out.size))
      clear x0 x1 x2 x3 x4 x5 x6
      obtain ⟨x0, x1, x2, x3, x4, x5, x6⟩ := HX.out w15 (HBn.out.block bx HBX.out)
      clear hmg hb15
      go_wp2_with fail
      refine (FAn.out _ _ _ HBn.out HMG.out).mono ?_
      rintro e w2 ⟨rfl, hb2⟩
      have HBm := Lib.hid hb2
      have HB2 := Lib.hid (HBn.out.trans (hb2.mono HBn.out.size))
      clear hb2 x0 x1 x2 x3 x4 x5 x6

      have HMX := Lib.hid ((HM0.out.stay HB1.out).also HB15.out (Y := fun x => w1.heap.size ≤ x ∧ x < w15.heap.size) (fun x hx => hx))
      have HM2 := Lib.hid (HMX.out.stay HBm.out)
      have HMGk := Lib.hid (HMG.out.keep (w' := w2) (fun x hx => HBm.out.block x hx.2))
      obtain ⟨gq, hgq⟩ := HMGk.out.whole
      have DS := Lib.hid (put_disc HM2.out HLT.out hgq (HM2.out.rowX (.inr HMGk.out.self)) rfl)
      have HKW : Hid (ones (less L b) = Tm.wo (ones L) (sn, g.epoch, g.id)) := Lib.hid (by
        rw [less_none (HM2.out.notL (.inr HMGk.out.self))]
        unfold Tm.wo
        rw [hep.out, hdi.out, hf])
      rw [HKW.out] at DS
      clear hgq
      go_wp2_with fail
      refine (DS.out).mono ?_
      rintro e w3 ⟨rfl, hp⟩
      have HP := Lib.hid hp
      clear hp
      go_wp2_with fail
      go_ret3
      exact HP.out
    have hcode : Tm.faultN m.by_ o g = 0 := by unfold Tm.faultN; rw [if_neg h1, if_neg h2, if_neg h3]
    obtain ⟨OP, hOP⟩ : ∃ x, Tm.opened m (ones L) (sn, g.epoch, g.id) (o.plus g) = x := ⟨_, rfl⟩
    obtain ⟨R, hR⟩ : ∃ x, Tm.shrink m.by_ (sn, g.epoch, g.id) OP.length OP = x := ⟨_, rfl⟩
    rw [put_good (R := R) hbad (by rw [hcur]; exact h1) (by rw [hcur]; exact h2') (by rw [hcur]; exact h3) (by rw [hcur, hOP]; exact hR)]
    rw [hcur]
    obtain ⟨RR, hRR⟩ : ∃ x, (if (o.plus g).s.full then (⟨(o.plus g).s.whole, true, 0, Tm.wo R (sn, g.epoch, g.id)⟩ : Tm.R) else ⟨[], false, 0, R⟩) = x := ⟨_, rfl⟩
    rw [hRR]
    have hok := HOK.out
    have hkey : o.key = (sn, g.epoch, g.id) := by rw [← hcur]; exact Tm.cur_key
    have hpk : (o.plus g).key = (sn, g.epoch, g.id) := by rw [Tm.plus_key]; exact hkey
    have hOK := Tm.opened_keys (m := m) (l := ones L) (o := o.plus g) hok hpk
    have hOL := Tm.opened_len (m := m) (l := ones L) (k := (sn, g.epoch, g.id)) (o := o.plus g) hok HMO.out
    have hOH := Tm.held_opened (m := m) (l := ones L) (k := (sn, g.epoch, g.id)) (o := o.plus g) hok
    rw [hOP] at hOK hOL hOH
    have hps : (o.plus g).s.size ≤ m.by_ := by rw [Tm.plus_size]; omega
    have hcnt : g.index < o.s.count := by
      have := (Tm.cur_ok (sender := sn) hok HGO.out).2
      rw [hcur] at this
      rw [this]
      have h4 : o.count = g.count := by omega
      rw [h4, hco.out, hix.out]; omega
    have HAD : Hid (∀ (W : World) (l1 : List Tm.One) (b i q : Nat), St w F bx h m W l1 b o → Foot F w W → (l1.map Tm.One.key).Nodup → Tm.find l1 o.key = some i → l1.set i (o.plus g) = OP → W.cell? ⟨b, 6, none⟩ = some (pt q) →
        Calls Try.prog 40 #[pt q, .int .i64 (ix : Int), .slice A y c] W fun e w' => e = .returned (.int .i64 0) ∧ St w F bx h m w' OP b (o.plus g) ∧ w'.heap[bx]? = W.heap[bx]? ∧ w'.cell? ⟨b, 6, none⟩ = some (pt q)) := Lib.hid (fun W l1 b i q S hf hkn hfi hse hq => by
      have := st_add S hkn hfi (HPi.out W hf) HGO.out (by rw [hy.out]; exact hl) (by have := HOS.out; omega) hcnt h2' hq
      rw [hse, hix.out] at this
      exact this)
    have HSH : Hid (∀ (W : World) (b : Nat), St w F bx h m W OP b (o.plus g) → Calls Try.prog 41 #[pt h, pt b] W fun e w' => e = .returned (.tuple #[]) ∧ St w F bx h m w' R b (o.plus g) ∧ w'.heap[bx]? = W.heap[bx]?) := Lib.hid (fun W b S => by
      have := st_shrink S HMO.out hOK (by omega) (by omega) hps
      rw [hpk, hR] at this
      exact this)
    have HWH : Hid (∀ (W : World) (b q : Nat), St w F bx h m W R b (o.plus g) → W.cell? ⟨b, 6, none⟩ = some (pt q) → Calls Try.prog 42 #[pt q] W fun e w' => ∃ v, e = .returned (.tuple #[v, .bool (o.plus g).s.full]) ∧ Sv w F h m w' R b (o.plus g) v ∧ (∃ A n c, v = .slice A n c)) := Lib.hid (fun W b q S hq => st_whole S (by omega) hq)
    have hRK : (R.map Tm.One.key).Nodup := by rw [← hR]; exact ((Tm.shrink_sub _ _ _ _).map _).nodup hOK
    have HFU : Hid ((o.plus g).s.full = true → ∀ (W : World) (b : Nat) (v : Value), Sv w F h m W R b (o.plus g) v → Calls Try.prog 38 #[pt h, pt b] W fun e w' => e = .returned (.tuple #[]) ∧ TputPost w F h m RR (.returned (.tuple #[v, .bool true, .int .i64 0])) w') := Lib.hid (fun hfl W b v S => by
      have := sv_full S HLT.out hRK hfl
      rw [hpk] at this
      rw [← hRR, if_pos hfl]
      exact this)
    have HNF : Hid ((o.plus g).s.full = false → ∀ (W : World) (b : Nat) (v : Value), Sv w F h m W R b (o.plus g) v → TputPost w F h m RR (.returned (.tuple #[v, .bool false, .int .i64 0])) W) := Lib.hid (fun hfl W b v S => by
      rw [← hRR, if_neg (by rw [hfl]; decide)]
      exact sv_open S HLT.out hfl)
    have HKEY := Lib.hid hkey
    have HOKn := Lib.hid hok.once
    have HOP := Lib.hid hOP
    clear hbad hcur h1 h2 h2' h3 hok hkey hpk hOK hOL hOH hOP hR hps hcnt hRK hRR
    have FAn := Lib.hid (fun W b (Fm : Nat → Prop) hW hM => FA.out W b o Fm hW hM (by have := HOS.out; omega))
    rw [hcode] at FAn
    clear hcode
    go_enter Try.func18, Try.ntmps18
    go_wp2_with fail
    refine (MA.out).mono ?_
    rintro e wx ⟨rfl, rfl⟩
    go_wp2_with fail
    refine (FI.out).mono ?_
    rintro e w1 ⟨rfl, hb1⟩
    have HB1 := Lib.hid hb1
    obtain ⟨x0, x1, x2, x3, x4, x5, x6⟩ := HX.out w1 (hb1.block bx HBX.out)
    clear hb1
    go_wp2_with fail
    refine (BE1.out _ HB1.out).mono ?_
    rintro e w15 ⟨b, rfl, hmg, hb15⟩
    have HMG := Lib.hid hmg
    have HB15 := Lib.hid hb15
    have HBn := Lib.hid (HB1.out.trans (hb15.mono HB1.out.size))
    clear x0 x1 x2 x3 x4 x5 x6
    obtain ⟨x0, x1, x2, x3, x4, x5, x6⟩ := HX.out w15 (HBn.out.block bx HBX.out)
    clear hmg hb15
    go_wp2_with fail
    refine (FAn.out _ _ _ HBn.out HMG.out).mono ?_
    rintro e w2 ⟨rfl, hb2⟩
    have HBm := Lib.hid hb2
    have HB2 := Lib.hid (HBn.out.trans (hb2.mono HBn.out.size))
    clear hb2 x0 x1 x2 x3 x4 x5 x6

    have HMX := Lib.hid ((HM0.out.stay HB1.out).also HB15.out (Y := fun x => w1.heap.size ≤ x ∧ x < w15.heap.size) (fun x hx => hx))
    have HM2 := Lib.hid (HMX.out.stay HBm.out)
    have HMGk := Lib.hid (HMG.out.keep (w' := w2) (fun x hx => HBm.out.block x hx.2))
    have HZ1 : Hid (w.heap.size ≤ w1.heap.size ∧ bx < w1.heap.size) := Lib.hid ⟨by have := HB1.out.size; have := HBX.out; omega, by have := HB1.out.size; have := HBX.out; omega⟩
    have OPN := Lib.hid (topen1_any (Y := fun x => x = bx) HM2.out hop2 hop1 hLm HMGk.out (fun x hx => .inr hx) (fun x hx => by have := HZ1.out; have := hx.1; omega) (fun x hx => ⟨.inl hx, fun q => by have := HZ1.out; have := q.1; omega⟩))
    go_wp2_with fail
    refine (OPN.out).mono ?_
    rintro e w25 ⟨rfl, ⟨v25, Fo25, hM25⟩, hs25, hz25⟩
    obtain ⟨l1, hl1⟩ : ∃ x, ones ((if L.length = m.op then L.tail else L) ++ [(o, b)]) = x := ⟨_, rfl⟩
    have hl2 : l1 = (if (ones L).length = m.op then (ones L).tail else ones L) ++ [o] := by
      rw [← hl1, ones_append, ones_len]
      congr 1
      split
      · unfold ones; rw [List.map_tail]
      · rfl
    have HS2 : Hid (St w F bx h m w25 l1 b o) := Lib.hid ⟨_, _, _, hM25, hl1, by simp⟩
    have HFW : Hid (Foot F w w25) := Lib.hid hM25.foot
    have hok := HOK.out
    have hkk : (l1.map Tm.One.key).Nodup := by
      have := Tm.opened_keys (m := m) (l := ones L) (o := o) (k := o.key) hok rfl
      rwa [Tm.opened_none (by rw [HKEY.out, hep.out, hdi.out]; exact hf), ← hl2] at this
    have HKK := Lib.hid hkk
    have hrl : ∀ x ∈ (if (ones L).length = m.op then (ones L).tail else ones L), x.key ≠ o.key := fun x hx => Tm.find_none (by rw [HKEY.out, hep.out, hdi.out]; exact hf) x ((Tm.rest_sub (ones L) m.op).subset hx)
    obtain ⟨rs, hrs⟩ : ∃ x, (if (ones L).length = m.op then (ones L).tail else ones L) = x := ⟨_, rfl⟩
    rw [hrs] at hl2 hrl
    have HFI : Hid (Tm.find l1 o.key = some rs.length) := Lib.hid (by
      subst hl2
      exact Tm.find_is (by simp) (by simp) (fun j hj => by rw [List.getElem_append_left hj]; exact hrl _ (List.getElem_mem hj)))
    have HSE : Hid (l1.set rs.length (o.plus g) = OP) := Lib.hid (by
      rw [← HOP.out, Tm.opened_none (by rw [hep.out, hdi.out]; exact hf), hrs, hl2, List.set_append_right _ _ (Nat.le_refl _), Nat.sub_self]
      rfl)
    have HX2 : Hid (w25.heap[bx]? = wx.heap[bx]?) := Lib.hid ((hs25 bx rfl).trans (HB2.out.block bx HBX.out))
    clear hM25 hs25 hz25 hl1 hl2 hok hkk hrl hrs
    obtain ⟨q, hq, _⟩ := HS2.out.cell
    obtain ⟨x0, x1, x2, x3, x4, x5, x6⟩ := HX.out w25 HX2.out
    have AD := Lib.hid (fun W (hW : Below w25.heap.size w25 W) => HAD.out W l1 b rs.length q (HS2.out.stay hW) (HFW.out.trans (Foot.of_below (F := F) hW) (fun _ _ z => z)) HKK.out HFI.out HSE.out ((hW.cell (p := ⟨b, 6, none⟩) (World.block_lt_of_cell? w25 _ hq)).trans hq))

    clear x0 x1 x2 x3 x5
    go_upto_region 15 with fail
    refine wp_region_plan (S := fun W => W.cell? ⟨b, 6, none⟩ = some (pt q) ∧ W.cell? ⟨bx, 4, none⟩ = some (.int .u16 (ix : Int)) ∧ W.cell? ⟨bx, 6, none⟩ = some (.slice A y c)) [(0, true), (1, true), (2, true), (3, true), (4, true), (5, true), (6, true), (7, true), (8, true), (9, false)] (by kernel_rfl) (by kernel_rfl) rfl (by kernel_rfl) (fun _ _ _ _ _ h => h) ⟨hq, x4, x6⟩ ?_
    iterate 9
      refine along_take (v := ?_) rfl (by rfl) ?_ ?_
      rotate_left
      · intro W hW; obtain ⟨s1, s2, s3⟩ := hW; go_simp; try with_reducible rfl
      simp only [Act.put, List.setIfInBounds_toArray, List.set_cons_zero, List.set_cons_succ]
    refine along_step rfl (fun K hK => ?_)
    go_simp
    refine (AD.out _ (Below.refl _ _).drew).mono ?_
    rintro e w3 ⟨rfl, hS3, hx3, hq3⟩
    have hx3' : w3.heap[bx]? = wx.heap[bx]? := hx3.trans HX2.out
    obtain ⟨_, _, _, _, y4, _, y6⟩ := HX.out w3 hx3'
    refine hK.out _ _ ⟨hq3, y4, y6⟩ ?_
    clear hK K
    refine along_done ?_
    have HS3 := Lib.hid hS3
    have SH := Lib.hid (HSH.out w3 b hS3)
    clear hS3 hx3 hq3 y4 y6 hx3' hq x4 x6
    try simp only [Act.put, List.setIfInBounds_toArray, List.set_cons_zero, List.set_cons_succ]
    go_wp2_with fail
    refine (SH.out).mono ?_
    rintro e w4 ⟨rfl, hS4, hx4⟩
    obtain ⟨q4, hq4, _⟩ := hS4.cell
    have WH := Lib.hid (HWH.out w4 b q4 hS4 hq4)
    clear hS4 hx4
    cases hfl : (o.plus g).s.full with
    | false =>
      rw [hfl] at WH
      have NF := Lib.hid (HNF.out hfl)
      clear hfl
      go_wp2_with fail
      refine (WH.out).mono ?_
      rintro e w5 ⟨vw, rfl, hSv, A5, n5, c5', rfl⟩
      have HSv := Lib.hid hSv
      clear hSv
      go_wp2_with fail
      go_ret3
      exact NF.out _ _ _ HSv.out
    | true =>
      rw [hfl] at WH
      have FU := Lib.hid (HFU.out hfl)
      clear hfl
      go_wp2_with fail
      refine (WH.out).mono ?_
      rintro e w5 ⟨vw, rfl, hSv, A5, n5, c5', rfl⟩
      have DS := Lib.hid (FU.out _ _ _ hSv)
      clear hSv
      go_wp2_with fail
      refine (DS.out).mono ?_
      rintro e w6 ⟨rfl, hp⟩
      have HP := Lib.hid hp
      clear hp
      go_wp2_with fail
      go_ret3
      exact HP.out
end Go.Proofs.Ytbhdgfpaoghnbaa
