/- Contract of layer 22's reference: Put. -/
import Derived.Test.YtkpmlhhoijijhaaTm24
import Derived.Test.YtkpmlhhoijijhaaStepc
namespace Go.Proofs.Ytkpmlhhoijijhaa
open Go.RowKit
set_option linter.unusedVariables false
set_option maxRecDepth 100000
set_option linter.unusedSimpArgs false

/-- how long the list is -/
def lenIn (w : World) (h : Nat) : Nat := match w.cell? ⟨h, 3, none⟩ with
  | some (.slice _ n _) => n
  | _ => 0
/-- what Put answers -/
def RputPost (w : World) (F : Nat → Prop) (h : Nat) (m : Tm.Lim) (R : Tm.R) (e : Ending) (w' : World) : Prop :=
  e = .returned (.tuple #[.string (strOf R.told), .bool R.ok, .int .i64 (R.err : Int)]) ∧ Rt w' (Wide F w w') h m R.l ∧ Foot F w w'
theorem RputPost.of {w : World} {F : Nat → Prop} {h : Nat} {m : Tm.Lim} {R R' : Tm.R} {e : Ending} {w' : World} (hR : R' = R) (k : RputPost w F h m R e w') : RputPost w F h m R' e w' := hR ▸ k
theorem put_arg {m : Tm.Lim} {l : List Tm.One} {sn : Nat} {g : Gd} (h : g.count = 0 ∨ g.count ≤ g.index) : Tm.put m l sn g = ⟨[], false, 1, l⟩ := by unfold Tm.put; rw [if_pos h]
theorem put_form {m : Tm.Lim} {l : List Tm.One} {sn : Nat} {g : Gd} (h : ¬ (g.count = 0 ∨ g.count ≤ g.index)) (h2 : (Tm.cur l sn g).count ≠ g.count ∨ (Tm.cur l sn g).version ≠ g.version) : Tm.put m l sn g = ⟨[], false, 3, l⟩ := by unfold Tm.put; rw [if_neg h, if_pos h2]
theorem put_twice {m : Tm.Lim} {l : List Tm.One} {sn : Nat} {g : Gd} (h : ¬ (g.count = 0 ∨ g.count ≤ g.index)) (h2 : ¬ ((Tm.cur l sn g).count ≠ g.count ∨ (Tm.cur l sn g).version ≠ g.version)) (h3 : (Tm.cur l sn g).s.has g.index = true) : Tm.put m l sn g = ⟨[], false, 12, l⟩ := by unfold Tm.put; rw [if_neg h, if_neg h2, if_pos h3]
theorem put_full {m : Tm.Lim} {l : List Tm.One} {sn : Nat} {g : Gd} (h : ¬ (g.count = 0 ∨ g.count ≤ g.index)) (h2 : ¬ ((Tm.cur l sn g).count ≠ g.count ∨ (Tm.cur l sn g).version ≠ g.version)) (h3 : (Tm.cur l sn g).s.has g.index = false) (h4 : m.by_ < (Tm.cur l sn g).s.size + g.body.length) :
    Tm.put m l sn g = ⟨[], false, 10, Tm.wo l (sn, g.epoch, g.id)⟩ := by unfold Tm.put; rw [if_neg h, if_neg h2, if_neg (by rw [h3]; decide), if_pos h4]
theorem put_good {m : Tm.Lim} {l : List Tm.One} {sn : Nat} {g : Gd} (h : ¬ (g.count = 0 ∨ g.count ≤ g.index)) (h2 : ¬ ((Tm.cur l sn g).count ≠ g.count ∨ (Tm.cur l sn g).version ≠ g.version)) (h3 : (Tm.cur l sn g).s.has g.index = false) (h4 : ¬ m.by_ < (Tm.cur l sn g).s.size + g.body.length) {R : List Tm.One}
    (hR : Tm.shrink m.by_ (sn, g.epoch, g.id) (Tm.opened m l (sn, g.epoch, g.id) ((Tm.cur l sn g).plus g)).length (Tm.opened m l (sn, g.epoch, g.id) ((Tm.cur l sn g).plus g)) = R) :
    Tm.put m l sn g = (if ((Tm.cur l sn g).plus g).s.full then ⟨((Tm.cur l sn g).plus g).s.whole, true, 0, Tm.wo R (sn, g.epoch, g.id)⟩ else ⟨[], false, 0, R⟩) := by
  unfold Tm.put; rw [if_neg h, if_neg h2, if_neg (by rw [h3]; decide), if_neg h4]; dsimp only; rw [hR]
set_option maxHeartbeats 8000000 in
theorem rput22_any {w : World} {F : Nat → Prop} {h B : Nat} {m : Tm.Lim} {l : List Tm.One} {v : Value} {g : Gd} (r : Rt w F h m l) (hm : m.Ok) (hok : Tm.Ok m l) (sn : Nat) (hsn : sn < 65536) (H : Gv w B g v) (hFB : ∀ b, F b → B ≤ b) (hB : B ≤ w.heap.size) (hl : g.body.length ≤ 1000000) :
    Calls Try.prog 12 #[.pointer (some ⟨h, 0, none⟩), .int .u16 (sn : Int), v] w (RputPost w F h m (Tm.put m l sn g)) := by
  obtain ⟨vl, L, Fo, rfl, r⟩ := r
  have hlt := Lib.hid r.lt
  have hLm := hok.open_
  have hop2 := hm.op2
  rw [ones_len] at hLm
  have hPc := H
  obtain ⟨bx, A, c, w0, rfl, hbx, hal, hsz0, hGx, hbx0⟩ := boxedG H
  have M0 : Mid w F (fun b => b = bx) h m w0 vl L Fo := Mid.start r (by rw [hbx]; exact hbx0) (fun b hb => by subst hb; omega)
  obtain ⟨c0, c1, c2, c3, c4, c5, c6⟩ := hGx.cells
  obtain ⟨A0, cp, rfl, hle, hmx⟩ := r.shape
  have hc3 : w0.cell? ⟨h, 3, none⟩ = some (.slice A0 L.length cp) := M0.whole.at_ 3
  have hgo := hGx.ok
  obtain ⟨n, hn⟩ : ∃ x, Hid (L.length = x) := ⟨_, Lib.hid rfl⟩
  rw [hn.out] at hc3 M0 hle hLm
  have HM0 := Lib.hid M0
  unfold maxLen at hmx
  have HG := Lib.hid hgo
  have HGX := Lib.hid hGx.whole
  have HPi : Hid (∀ W, Foot F w W → Piece W B (.slice A g.body.length c) g.body) := Lib.hid (fun W hf => by
    obtain ⟨A', c', e, hp⟩ := hPc.ex
    injection e with e
    have := congrArg (fun a : Array Value => a[6]?) e
    simp at this
    obtain ⟨rfl, rfl⟩ := this
    exact hp.below (hf.below hFB hB))
  obtain ⟨kd, hkd⟩ : ∃ x, Hid (g.kind = x) := ⟨_, Lib.hid rfl⟩
  obtain ⟨ve, hve⟩ : ∃ x, Hid (g.version = x) := ⟨_, Lib.hid rfl⟩
  obtain ⟨ep, hep⟩ : ∃ x, Hid (g.epoch = x) := ⟨_, Lib.hid rfl⟩
  obtain ⟨di, hdi⟩ : ∃ x, Hid (g.id = x) := ⟨_, Lib.hid rfl⟩
  obtain ⟨ix, hix⟩ : ∃ x, Hid (g.index = x) := ⟨_, Lib.hid rfl⟩
  obtain ⟨co, hco⟩ : ∃ x, Hid (g.count = x) := ⟨_, Lib.hid rfl⟩
  obtain ⟨y, hy⟩ : ∃ x, Hid (g.body.length = x) := ⟨_, Lib.hid rfl⟩
  obtain ⟨gk, gv, ge, gi, gx, gc, gb⟩ := hgo
  rw [hkd.out] at c0 hal gk ⊢
  rw [hve.out] at c1 hal gv ⊢
  rw [hep.out] at c2 hal ge ⊢
  rw [hdi.out] at c3 hal gi ⊢
  rw [hix.out] at c4 hal gx ⊢
  rw [hco.out] at c5 hal gc ⊢
  rw [hy.out] at c6 hal hl HPi ⊢
  rw [hkd.out, hve.out, hep.out, hdi.out, hix.out, hco.out, hy.out] at HGX
  clear gb hGx M0 H hPc hbx0
  by_cases hbad : g.count = 0 ∨ g.count ≤ g.index
  · rw [put_arg hbad]
    have HD := Lib.hid (HM0.out.done r.lt)
    rw [hix.out, hco.out] at hbad
    by_cases h0 : co = 0
    · have heq : ((co : Int) == 0) = true := by simp; omega
      clear hbad r h0
      go_enter Try.func12, Try.ntmps12
      go_wp2_with fail
      go_ret3
      exact ⟨rfl, HD.out⟩
    · have hne : ((co : Int) == 0) = false := by simp; omega
      have hge : co ≤ ix := by omega
      clear hbad r
      go_enter Try.func12, Try.ntmps12
      go_wp2_with fail
      go_ret3
      exact ⟨rfl, HD.out⟩
  have hbad' := Lib.hid hbad
  have hb1 : ((co : Int) == 0) = false := by rw [hco.out] at hbad; simp; omega
  have hb2 : ¬ co ≤ ix := by rw [hco.out, hix.out] at hbad; omega
  have hco1 : 1 ≤ co := by rw [hco.out] at hbad; omega
  have hLn : L.length ≤ 1000 := by rw [hn.out]; omega
  have FI := Lib.hid (mid_find HM0.out hLn sn ep di)
  have hwx : IntKind.i64.wrap (ix : Int) = (ix : Int) := by rw [IntKind.wrap_i64]; omega
  have hwc : IntKind.i64.wrap (co : Int) = (co : Int) := by rw [IntKind.wrap_i64]; omega
  -- the new thing, and the variable
  obtain ⟨pP, hpP⟩ : ∃ x, w0.heap.size = x := ⟨_, rfl⟩
  obtain ⟨w1, hw1⟩ : ∃ W, w0.alloc (.cells #[.int .i64 (co : Int), .slice none 0 0, .slice none 0 0] 77) = W := ⟨_, rfl⟩
  obtain ⟨q, hq⟩ : ∃ x, w1.heap.size = x := ⟨_, rfl⟩
  obtain ⟨w2, hw2⟩ : ∃ W, w1.alloc (.cells #[.int .u16 0, .int .u32 0, .int .u32 0, .int .u16 0, .int .u8 0, .int .i64 0, .pointer none] 64) = W := ⟨_, rfl⟩
  have HZ : Hid (Whole w2 q 64 #[.int .u16 0, .int .u32 0, .int .u32 0, .int .u16 0, .int .u8 0, .int .i64 0, .pointer none]) := Lib.hid (by rw [← hw2, ← hq]; exact Whole.made _ _ _)
  obtain ⟨w3, hw3⟩ : ∃ W, w2.setRow q #[.int .u16 (sn : Int), .int .u32 (ep : Int), .int .u32 (di : Int), .int .u16 (co : Int), .int .u8 (ve : Int), .int .i64 0, .pointer (some ⟨pP, 0, none⟩)] = W := ⟨_, rfl⟩
  have HQ3 : Hid (Whole w3 q 64 #[.int .u16 (sn : Int), .int .u32 (ep : Int), .int .u32 (di : Int), .int .u16 (co : Int), .int .u8 (ve : Int), .int .i64 0, .pointer (some ⟨pP, 0, none⟩)]) := Lib.hid (by rw [← hw3]; exact HZ.out.row _)
  have hpq : q = pP + 1 := by rw [← hq, ← hw1, ← hpP]; simp
  have hB1 : Below pP w0 w1 := by rw [← hw1, ← hpP]; exact (Below.refl _ _).alloc (Nat.le_refl _) _
  have hB2 : Below pP w0 w2 := by rw [← hw2]; exact hB1.alloc (by rw [hq]; omega) _
  have hB3 : Below pP w0 w3 := by rw [← hw3]; exact below_row hB2 (by omega) _
  have hs3 : w3.heap.size = q + 1 := by rw [← hw3, size_setRow, ← hw2, ← hq]; simp
  have HP1 : Whole w3 pP 77 #[.int .i64 (co : Int), .slice none 0 0, .slice none 0 0] := by
    have k0 : Whole w1 pP 77 #[.int .i64 (co : Int), .slice none 0 0, .slice none 0 0] := by rw [← hw1, ← hpP]; exact Whole.made _ _ _
    have k1 : Whole w2 pP 77 #[.int .i64 (co : Int), .slice none 0 0, .slice none 0 0] := by rw [← hw2]; exact k0.alloc _
    rw [← hw3]; exact k1.rowOther (by omega) _
  have HRP : Hid (Rp w3 (fun b => b = pP) pP ⟨co, []⟩) := Lib.hid ⟨_, _, HP1, World.ownsRow_nil _ _ 3 1, World.ownsRow_nil _ _ 9 1, rfl, (fun b hb => by simp [Value.ownBlock] at hb), (fun b hb => by simp [Value.ownBlock] at hb), (fun b hb => by subst hb; omega),
    ⟨by simp [Pm.S.idx], (fun i hi => by simp [Pm.S.idx] at hi), (by show co ≤ 65535; omega), (fun x hx => by cases hx)⟩⟩
  have HM3 : Hid (Mid w F (fun b => b = bx ∨ (b = pP ∨ b = q)) h m w3 (.slice A0 n cp) L Fo) := Lib.hid (HM0.out.also (by rw [hpP]; exact hB3) (fun b hb => by rcases hb with rfl | rfl <;> omega))
  have hxp : bx < pP := by omega
  have HW3 := Lib.hid HM3.out.whole
  have hh1 : w3.cell? ⟨h, 1, none⟩ = some (.int .i64 (m.by_ : Int)) := HW3.out.at_ 1
  have q3 : w3.cell? ⟨q, 3, none⟩ = some (.int .u16 (co : Int)) := HQ3.out.at_ 3
  have q4 : w3.cell? ⟨q, 4, none⟩ = some (.int .u8 (ve : Int)) := HQ3.out.at_ 4
  have q6 : w3.cell? ⟨q, 6, none⟩ = some (.pointer (some ⟨pP, 0, none⟩)) := HQ3.out.at_ 6
  have HGx3 : Hid (Whole w3 bx 38 #[.int .u8 (kd : Int), .int .u8 (ve : Int), .int .u32 (ep : Int), .int .u32 (di : Int), .int .u16 (ix : Int), .int .u16 (co : Int), .slice A y c]) := Lib.hid (HGX.out.below hB3 hxp)
  have x1 : w3.cell? ⟨bx, 1, none⟩ = some (.int .u8 (ve : Int)) := HGx3.out.at_ 1
  have x2 : w3.cell? ⟨bx, 2, none⟩ = some (.int .u32 (ep : Int)) := HGx3.out.at_ 2
  have x3 : w3.cell? ⟨bx, 3, none⟩ = some (.int .u32 (di : Int)) := HGx3.out.at_ 3
  have x4 : w3.cell? ⟨bx, 4, none⟩ = some (.int .u16 (ix : Int)) := HGx3.out.at_ 4
  have x5 : w3.cell? ⟨bx, 5, none⟩ = some (.int .u16 (co : Int)) := HGx3.out.at_ 5
  have x6 : w3.cell? ⟨bx, 6, none⟩ = some (.slice A y c) := HGx3.out.at_ 6
  have HPQ := Lib.hid hpq
  have HS3 := Lib.hid hs3
  have hpq1 : pP < q := by omega
  clear hsz0 hB1 hB2 HP1 hpq hs3
  cases hf : Tm.find (ones L) (sn, ep, di) with
  | none =>
    rw [hf] at FI
    simp only [placeI] at FI
    have hcur : Tm.cur (ones L) sn g = Tm.fresh sn g := Tm.cur_none (by rw [hep.out, hdi.out]; exact hf)
    have HH := Lib.hid (rhas21_any HRP.out ix (by omega))
    rw [show (⟨co, []⟩ : Pm.S).has ix = false from rfl] at HH
    have SZ : Hid (∀ k, Calls Try.prog 30 #[.pointer (some ⟨pP, 0, none⟩)] (w3.drewN k) fun e w' => e = .returned (.int .i64 0) ∧ w' = w3.drewN k) := Lib.hid (fun k => (rsize21_any (HRP.out.drewN k) (by simp [Pm.S.size])).mono fun e w' ⟨e1, e2⟩ => ⟨e1, e2.symm⟩)
    have hwy : IntKind.i64.wrap ((0 : Int) + (y : Int)) = (y : Int) := by rw [IntKind.wrap_i64]; omega
    go_enter Try.func12, Try.ntmps12
    go_wp2_with fail
    refine (FI.out).mono ?_
    rintro e wx ⟨rfl, rfl⟩
    go_wp2_with (refine wpList_store_whole rfl rfl rfl rfl rfl HZ.out (oneW22 rfl) rfl (by simp [Value.oneCell']) ?_; rw [hw3])
    refine (HH.out).mono ?_
    rintro e wx ⟨rfl, rfl⟩
    by_cases hbig : m.by_ < y
    · have hR : Tm.put m (ones L) sn g = ⟨[], false, 10, ones L⟩ := by
        rw [put_full hbad (by rw [hcur]; simp [Tm.fresh]) (by rw [hcur]; rfl) (by rw [hcur, hy.out]; simpa [Tm.fresh, Pm.S.size] using hbig)]
        unfold Tm.wo
        rw [hep.out, hdi.out, hf]
      have HR := Lib.hid hR
      have hd : decide ((m.by_ : Int) < (y : Int)) = true := decide_eq_true (by omega)
      have WO := Lib.hid (fun k => mid_without (HM3.out.drewN k) hLn (-1) L.length (.inr ⟨rfl, Nat.le_refl _⟩))
      obtain ⟨by_, hby⟩ : ∃ x, Hid (m.by_ = x) := ⟨_, Lib.hid rfl⟩
      rw [hby.out] at hd hbig hh1
      clear hR
      go_wp2_with fail
      go_quiet (with_reducible exact Calls.quiet_of_same (SZ.out _))
      go_wp2_with fail
      refine (WO.out nq).mono ?_
      rintro e w5 ⟨rfl, v5, M5, _, _, _⟩
      have HD := Lib.hid (M5.done hlt.out)
      rw [List.eraseIdx_of_length_le (Nat.le_refl _)] at HD
      clear M5
      go_wp2_with fail
      go_ret3
      exact RputPost.of HR.out ⟨rfl, HD.out⟩
    have hd : decide ((m.by_ : Int) < (y : Int)) = false := decide_eq_false (by omega)
    have HY := Lib.hid hbig
    have hh0 : w3.cell? ⟨h, 0, none⟩ = some (.int .i64 (m.op : Int)) := HW3.out.at_ 0
    have hh3 : w3.cell? ⟨h, 3, none⟩ = some (.slice A0 n cp) := HW3.out.at_ 3
    obtain ⟨by_, hby⟩ : ∃ x, Hid (m.by_ = x) := ⟨_, Lib.hid rfl⟩
    rw [hby.out] at hd hh1 hbig
    by_cases hfull : n = m.op
    · have heqo : ((n : Int) == (m.op : Int)) = true := by simp; omega
      go_wp2_with fail
      go_quiet (with_reducible exact Calls.quiet_of_same (SZ.out _))
      obtain ⟨wA, hwA⟩ : ∃ W, w3.drewN nq = W := ⟨_, rfl⟩
      have HMA : Hid (Mid w F (fun b => b = bx ∨ (b = pP ∨ b = q)) h m wA (.slice A0 n cp) L Fo) := Lib.hid (by rw [← hwA]; exact HM3.out.drewN nq)
      have a0 : wA.cell? ⟨h, 0, none⟩ = some (.int .i64 (m.op : Int)) := HMA.out.whole.at_ 0
      have a3 : wA.cell? ⟨h, 3, none⟩ = some (.slice A0 n cp) := HMA.out.whole.at_ 3
      have HPA : Hid (Rp wA (fun b => b = pP) pP ⟨co, []⟩) := Lib.hid (by rw [← hwA]; exact HRP.out.drewN nq)
      have HQA : Hid (Whole wA q 64 #[.int .u16 (sn : Int), .int .u32 (ep : Int), .int .u32 (di : Int), .int .u16 (co : Int), .int .u8 (ve : Int), .int .i64 0, .pointer (some ⟨pP, 0, none⟩)]) := Lib.hid (by rw [← hwA]; exact HQ3.out)
      have HXA : Hid (Whole wA bx 38 #[.int .u8 (kd : Int), .int .u8 (ve : Int), .int .u32 (ep : Int), .int .u32 (di : Int), .int .u16 (ix : Int), .int .u16 (co : Int), .slice A y c]) := Lib.hid (by rw [← hwA]; exact HGx3.out)
      rw [hwA]
      clear hwA
      go_wp2_with fail
      go_quiet (fail)
      obtain ⟨wB, hwB⟩ : ∃ W, wA.drewN nq = W := ⟨_, rfl⟩
      have HMB : Hid (Mid w F (fun b => b = bx ∨ (b = pP ∨ b = q)) h m wB (.slice A0 n cp) L Fo) := Lib.hid (by rw [← hwB]; exact HMA.out.drewN nq)
      have HPB : Hid (Rp wB (fun b => b = pP) pP ⟨co, []⟩) := Lib.hid (by rw [← hwB]; exact HPA.out.drewN nq)
      have HQB : Hid (Whole wB q 64 #[.int .u16 (sn : Int), .int .u32 (ep : Int), .int .u32 (di : Int), .int .u16 (co : Int), .int .u8 (ve : Int), .int .i64 0, .pointer (some ⟨pP, 0, none⟩)]) := Lib.hid (by rw [← hwB]; exact HQA.out)
      have HXB : Hid (Whole wB bx 38 #[.int .u8 (kd : Int), .int .u8 (ve : Int), .int .u32 (ep : Int), .int .u32 (di : Int), .int .u16 (ix : Int), .int .u16 (co : Int), .slice A y c]) := Lib.hid (by rw [← hwB]; exact HXA.out)
      rw [hwB]
      clear hwB
      have WO0 := Lib.hid (mid_without HMB.out hLn 0 0 (.inl rfl))
      go_wp2_with fail
      refine (WO0.out).mono ?_
      rintro e wK ⟨rfl, vK, MK, hvK, hsameK, hzK⟩
      obtain ⟨L0, hL0⟩ : ∃ x, Hid (L.eraseIdx 0 = x) := ⟨_, Lib.hid rfl⟩
      rw [hL0.out] at MK
      obtain ⟨AK, cK, rfl, hK1, hK2⟩ := MK.shape
      unfold maxLen at hK2
      have hK3 : L0.length ≤ n := by rw [← hL0.out, ← hn.out]; exact List.length_eraseIdx_le ..
      obtain ⟨n2, hn2⟩ : ∃ x, Hid (L0.length = x) := ⟨_, Lib.hid rfl⟩
      rw [hn2.out] at hK1 hK3 MK
      have HMK := Lib.hid MK
      have HPK : Hid (Rp wK (fun b => b = pP) pP ⟨co, []⟩) := Lib.hid (HPB.out.keep (fun b hb => hsameK b (.inr (.inl hb))))
      have HQK : Hid (Whole wK q 64 #[.int .u16 (sn : Int), .int .u32 (ep : Int), .int .u32 (di : Int), .int .u16 (co : Int), .int .u8 (ve : Int), .int .i64 0, .pointer (some ⟨pP, 0, none⟩)]) := Lib.hid (HQB.out.same (hsameK q (.inr (.inr rfl))))
      have HXK : Hid (Whole wK bx 38 #[.int .u8 (kd : Int), .int .u8 (ve : Int), .int .u32 (ep : Int), .int .u32 (di : Int), .int .u16 (ix : Int), .int .u16 (co : Int), .slice A y c]) := Lib.hid (HXB.out.same (hsameK bx (.inl rfl)))
      clear MK hvK hsameK hzK
      go_wp2_with fail
      have HRW := Lib.hid (HMK.out.row)
      have HWB := Lib.hid (HMK.out.whole)
      have hhq : h < wK.heap.size := HWB.out.lt
      have hqq : q < wK.heap.size := HQK.out.lt
      have hvh : ∀ k, (Value.slice AK n2 cK).ownBlock = some k → k ≠ h ∧ k ≠ q := HMK.out.rowNe (fun b hb => hb) (.inr (.inr rfl))
      have HVH := Lib.hid hvh
      have hL0n : n2 ≤ 1000 := by omega
      have HPU := Lib.hid (fun (Y : Nat → Prop) (hY : ∀ b, Y b → (b = bx ∨ (b = pP ∨ b = q)) ∧ ¬ b = pP) (v1 : Value) (wr : World) (ob : Obj) a1 a2 a3 => Mid.push (g := pP) (o := (⟨sn, ep, di, co, ve, 0, ⟨co, []⟩⟩ : Tm.One)) (Y := Y) (v1 := v1) (wr := wr) (ob := ob) HMK.out HPK.out (fun b hb => .inr (.inl hb)) (fun b hb => by subst hb; omega) hY a1 a2 a3)
      rw [hn2.out] at HRW HPU
      clear hvh
      refine wp_region_last (S := fun W => W.heap[h]? = wK.heap[h]? ∧ W.heap[q]? = wK.heap[q]?) 10 [(0, true), (1, true), (2, true), (3, true), (4, true), (5, true), (6, false), (7, false), (8, false), (9, true), (10, false)] (by kernel_rfl) (by kernel_rfl) rfl (by kernel_rfl) (by rfl) (fun _ _ _ _ _ h => h) ⟨rfl, rfl⟩ ?_
      iterate 6
        refine alongL_take (v := ?_) rfl (by rfl) ?_ ?_
        rotate_left
        · intro W hW; obtain ⟨e1, e2⟩ := hW; have y3 := (HWB.out.same e1).at_ 3; have yq := HQK.out.same e2; have z0 := yq.at_ 0; have z1 := yq.at_ 1; have z2 := yq.at_ 2; have z3 := yq.at_ 3; have z4 := yq.at_ 4; have z5 := yq.at_ 5; have z6 := yq.at_ 6; clear e1 e2 yq; go_simp; try with_reducible rfl
        simp only [Act.put, List.setIfInBounds_toArray, List.set_cons_zero, List.set_cons_succ]
      refine alongL_step rfl (fun K hK => ?_)
      go_simp
      refine hK.out _ _ ⟨Below.heap_alloc wK.drew _ _ hhq, Below.heap_alloc wK.drew _ _ hqq⟩ ?_
      clear hK K
      try simp only [Act.put, List.setIfInBounds_toArray, List.set_cons_zero, List.set_cons_succ]
      refine alongL_step rfl (fun K hK => ?_)
      refine step_append_cells oneT22 oneI22 rfl (by decide) (by decide) _ _ rfl rfl 0 (Value.slice AK n2 cK) n2 (rowsOf fOe L0) rfl (HRW.out.drew.alloc _) 1 1 (fOe ((⟨sn, ep, di, co, ve, 0, ⟨co, []⟩⟩ : Tm.One), pP)) rfl rfl (fun h => by cases h) (by decide) (src_cells _ _ _ _) (fOe_one _) (by omega) (Nat.zero_le _) ?_
      intro v' wC0 hr hg hv
      obtain ⟨Av', cv', rfl, _, _, _, _⟩ := own_look hr
      have hSh : wC0.heap[h]? = wK.heap[h]? := (hg.block h (by show h < (wK.alloc _).heap.size; rw [World.size_alloc]; omega) (fun e => (HVH.out h e.symm).1 rfl)).trans (Below.heap_alloc wK.drew _ _ hhq)
      have hSq : wC0.heap[q]? = wK.heap[q]? := (hg.block q (by show q < (wK.alloc _).heap.size; rw [World.size_alloc]; omega) (fun e => (HVH.out q e.symm).2 rfl)).trans (Below.heap_alloc wK.drew _ _ hqq)
      refine hK.out _ _ ⟨hSh, hSq⟩ ?_
      clear hK K
      have HR17 := Lib.hid hr
      have HG17 : Hid ((wK.alloc (.cells #[.int .u16 (sn : Int), .int .u32 (ep : Int), .int .u32 (di : Int), .int .u16 (co : Int), .int .u8 (ve : Int), .int .i64 0, .pointer (some ⟨pP, 0, none⟩)] 64)).grownBy wC0 (Value.slice AK n2 cK).ownBlock) := Lib.hid ⟨hg.os, hg.tape, hg.output, hg.size, hg.block⟩
      have HV17 := Lib.hid hv
      have HS17 : Hid (wC0.heap[h]? = wK.heap[h]? ∧ wC0.heap[q]? = wK.heap[q]?) := Lib.hid ⟨hSh, hSq⟩
      have s3 : wC0.cell? ⟨h, 3, none⟩ = some (Value.slice AK n2 cK) := (HWB.out.same hSh).at_ 3
      have s4 : wC0.frozen? ⟨h, 3, none⟩ = false := (HWB.out.same hSh).free 3
      clear hr hg hv hSh hSq
      try simp only [Act.put, List.setIfInBounds_toArray, List.set_cons_zero, List.set_cons_succ]
      refine alongL_step rfl (fun K hK => ?_)
      go_simp
      refine hK.out _ _ HS17.out ?_
      clear hK K
      try simp only [Act.put, List.setIfInBounds_toArray, List.set_cons_zero, List.set_cons_succ]
      refine alongL_take (v := ?_) rfl (by rfl) ?_ ?_
      rotate_left
      · intro W hW; clear hW; go_simp; try with_reducible rfl
      simp only [Act.put, List.setIfInBounds_toArray, List.set_cons_zero, List.set_cons_succ]
      refine alongL_last rfl (fun K hK => ?_)
      go_simp
      refine hK.out _ _ ?_
      clear hK K
      obtain ⟨⟨Fo1, MC⟩, hsame, hzC⟩ := HPU.out (fun b => b = bx ∨ b = q) (fun b hb => ⟨by rcases hb with hb | hb; exact .inl hb; exact .inr (.inr hb), by rcases hb with hb | hb <;> omega⟩) _ _ _ HR17.out HG17.out HV17.out
      obtain ⟨wC, hwC⟩ : ∃ W, wC0.setCell ⟨h, 3, none⟩ (.slice Av' (n2 + 1) cv') = W := ⟨_, rfl⟩
      have HMC : Hid (Mid w F (fun b => b = bx ∨ b = q) h m wC (.slice Av' (n2 + 1) cv') (L0 ++ [((⟨sn, ep, di, co, ve, 0, ⟨co, []⟩⟩ : Tm.One), pP)]) Fo1) := Lib.hid (by rw [← hwC]; exact MC)
      have HQC : Hid (Whole wC q 64 #[.int .u16 (sn : Int), .int .u32 (ep : Int), .int .u32 (di : Int), .int .u16 (co : Int), .int .u8 (ve : Int), .int .i64 0, .pointer (some ⟨pP, 0, none⟩)]) := Lib.hid (HQK.out.same (by rw [← hwC]; exact hsame q (.inr rfl)))
      have HXC : Hid (Whole wC bx 38 #[.int .u8 (kd : Int), .int .u8 (ve : Int), .int .u32 (ep : Int), .int .u32 (di : Int), .int .u16 (ix : Int), .int .u16 (co : Int), .slice A y c]) := Lib.hid (HXK.out.same (by rw [← hwC]; exact hsame bx (.inl rfl)))
      rw [hwC]
      clear MC hsame hzC hwC s3 s4
      have HF2 : Hid (¬ ((Tm.cur (ones L) sn g).count ≠ g.count ∨ (Tm.cur (ones L) sn g).version ≠ g.version)) := Lib.hid (by rw [hcur]; simp [Tm.fresh])
      have HF3 : Hid ((Tm.cur (ones L) sn g).s.has g.index = false) := Lib.hid (by rw [hcur]; rfl)
      have HF4 : Hid (¬ m.by_ < (Tm.cur (ones L) sn g).s.size + g.body.length) := Lib.hid (by rw [hcur, hy.out]; simpa [Tm.fresh, Pm.S.size] using HY.out)
      have hfu : n = m.op := hfull
      have HOP : Hid (Tm.opened m (ones L) (sn, g.epoch, g.id) ((Tm.cur (ones L) sn g).plus g) = ones L0 ++ [(Tm.cur (ones L) sn g).plus g]) := Lib.hid (by
        rw [Tm.opened_none (by rw [hep.out, hdi.out]; exact hf), if_pos (by rw [ones_len, hn.out]; exact hfu), ← hL0.out, ones_erase, List.eraseIdx_zero])
      obtain ⟨RR, hRR⟩ : ∃ R, Hid (Tm.shrink m.by_ (sn, g.epoch, g.id) (Tm.opened m (ones L) (sn, g.epoch, g.id) ((Tm.cur (ones L) sn g).plus g)).length (Tm.opened m (ones L) (sn, g.epoch, g.id) ((Tm.cur (ones L) sn g).plus g)) = R) := ⟨_, Lib.hid rfl⟩
      have HMEM : Hid (((⟨sn, ep, di, co, ve, 0, ⟨co, []⟩⟩ : Tm.One), pP) ∈ L0 ++ [((⟨sn, ep, di, co, ve, 0, ⟨co, []⟩⟩ : Tm.One), pP)]) := Lib.hid (by simp)
      have HOO : Hid (Tm.One.putS (ix : Int) g.body (⟨sn, ep, di, co, ve, 0, ⟨co, []⟩⟩ : Tm.One) = (Tm.cur (ones L) sn g).plus g) := Lib.hid (by
        rw [hcur]
        have e : (⟨sn, ep, di, co, ve, 0, ⟨co, []⟩⟩ : Tm.One) = Tm.fresh sn g := by unfold Tm.fresh; rw [hep.out, hdi.out, hco.out, hve.out]
        rw [e, ← hix.out]
        exact putS_plus (by show g.index < g.count; have := hbad'.out; omega) rfl)
      have HSHR : Hid (Shr m.by_ (sn, g.epoch, g.id) RR ((Tm.cur (ones L) sn g).plus g) pP (turned pP (Tm.One.putS (ix : Int) g.body) (L0 ++ [((⟨sn, ep, di, co, ve, 0, ⟨co, []⟩⟩ : Tm.One), pP)]))) := Lib.hid (by
        have hon : ones (turned pP (Tm.One.putS (ix : Int) g.body) (L0 ++ [((⟨sn, ep, di, co, ve, 0, ⟨co, []⟩⟩ : Tm.One), pP)])) = Tm.opened m (ones L) (sn, g.epoch, g.id) ((Tm.cur (ones L) sn g).plus g) := by
          rw [turned_last _ _ _ HMC.out.once, HOP.out, HOO.out]
        refine ⟨⟨_, by rw [hon]; exact hRR.out, by rw [hon]; exact Nat.le_refl _⟩, by rw [← HOO.out]; exact turned_has _ HMEM.out, Tm.cur_key, by rw [Tm.plus_size, hcur, hy.out]; show 0 + y ≤ m.by_; have := HY.out; omega, by rw [hon]; exact Tm.opened_keys hok Tm.cur_key, by rw [turned_snd]; exact HMC.out.once⟩)
      have HLEN : Hid ((turned pP (Tm.One.putS (ix : Int) g.body) (L0 ++ [((⟨sn, ep, di, co, ve, 0, ⟨co, []⟩⟩ : Tm.One), pP)])).length ≤ 1000 ∧ Tm.held (ones (turned pP (Tm.One.putS (ix : Int) g.body) (L0 ++ [((⟨sn, ep, di, co, ve, 0, ⟨co, []⟩⟩ : Tm.One), pP)]))) ≤ 100000000) := Lib.hid ⟨by have := hn2.out; rw [turned_len]; simp; omega, by
        rw [turned_last _ _ _ HMC.out.once, Tm.held_append, HOO.out]
        have h1 : Tm.held (ones L0) ≤ m.by_ := Nat.le_trans (Tm.held_sub (by rw [← hL0.out, ones_erase]; exact List.eraseIdx_sublist _ _)) hok.few
        have h2 := hm.by2
        have h3 : Tm.held [(Tm.cur (ones L) sn g).plus g] = 0 + y := by simp only [Tm.held, List.map_cons, List.map_nil, List.sum_cons, List.sum_nil]; rw [Tm.plus_size, hcur, hy.out]; rfl
        rw [h3]; omega⟩
      have HCUR := Lib.hid hcur
      clear hcur
      have y6 : wC.cell? ⟨q, 6, none⟩ = some (.pointer (some ⟨pP, 0, none⟩)) := HQC.out.at_ 6
      have x4 : wC.cell? ⟨bx, 4, none⟩ = some (.int .u16 (ix : Int)) := HXC.out.at_ 4
      have x6 : wC.cell? ⟨bx, 6, none⟩ = some (.slice A y c) := HXC.out.at_ 6
      have hcv : (convert 36 9 (.slice A y c)).run Try.prog wC = .ok (.string (strOf g.body)) wC := (HPi.out wC HMC.out.foot).conv
      have AD := Lib.hid (mid_add HMC.out HMEM.out (ix : Int) (by omega) (by omega) (Txt.of HG.out.body))
      obtain ⟨er, her⟩ : ∃ x : Nat, Hid ((⟨sn, ep, di, co, ve, 0, ⟨co, []⟩⟩ : Tm.One).s.err (ix : Int) = x) := ⟨_, Lib.hid rfl⟩
      rw [her.out] at AD
      obtain ⟨u6, hu6⟩ : ∃ x, Hid (strOf g.body = x) := ⟨_, Lib.hid rfl⟩
      rw [hu6.out] at AD hcv
      go_wp2_with fail
      refine (AD.out).mono ?_
      rintro e wD ⟨rfl, ⟨Fo2, MD⟩, hsame, hzD⟩
      have HMD := Lib.hid MD
      have HQD : Hid (Whole wD q 64 #[.int .u16 (sn : Int), .int .u32 (ep : Int), .int .u32 (di : Int), .int .u16 (co : Int), .int .u8 (ve : Int), .int .i64 0, .pointer (some ⟨pP, 0, none⟩)]) := Lib.hid (HQC.out.same (hsame q (.inr rfl)))
      have HXD : Hid (Whole wD bx 38 #[.int .u8 (kd : Int), .int .u8 (ve : Int), .int .u32 (ep : Int), .int .u32 (di : Int), .int .u16 (ix : Int), .int .u16 (co : Int), .slice A y c]) := Lib.hid (HXC.out.same (hsame bx (.inl rfl)))
      clear MD hsame hzD y6 x4 x6 hcv
      go_wp2_with fail
      go_loopw [11] (fun u wr => ∃ (v : Value) (L' : List (Tm.One × Nat)) (Fo' : Nat → Nat → Prop), Hid (Mid w F (fun b => b = bx ∨ b = q) h m wr v L' Fo') ∧ Hid (Shr m.by_ (sn, g.epoch, g.id) RR ((Tm.cur (ones L) sn g).plus g) pP L') ∧ Hid (L'.length ≤ 1000 ∧ Tm.held (ones L') ≤ 100000000) ∧ Hid (Whole wr q 64 #[.int .u16 (sn : Int), .int .u32 (ep : Int), .int .u32 (di : Int), .int .u16 (co : Int), .int .u8 (ve : Int), .int .i64 0, .pointer (some ⟨pP, 0, none⟩)]) ∧ Hid (Whole wr bx 38 #[.int .u8 (kd : Int), .int .u8 (ve : Int), .int .u32 (ep : Int), .int .u32 (di : Int), .int .u16 (ix : Int), .int .u16 (co : Int), .slice A y c])) (fun _ wr => lenIn wr h)
      case atStart => exact ⟨_, _, _, HMD, HSHR, HLEN, HQD, HXD⟩
      case round =>
        obtain ⟨vr, L', Fo', HMr, HSr, HLr, HQr, HXr⟩ := hrel
        obtain ⟨Ar, cr, rfl, hler, hmr⟩ := HMr.out.shape
        have hl3 : wr.cell? ⟨h, 3, none⟩ = some (.slice Ar L'.length cr) := HMr.out.whole.at_ 3
        have hl1 : wr.cell? ⟨h, 1, none⟩ = some (.int .i64 (m.by_ : Int)) := HMr.out.whole.at_ 1
        have y6 : wr.cell? ⟨q, 6, none⟩ = some (.pointer (some ⟨pP, 0, none⟩)) := HQr.out.at_ 6
        have hpos := HSr.out.pos
        have HMn : Hid (lenIn wr h = L'.length) := Lib.hid (by unfold lenIn; rw [hl3])
        have HEL := Lib.hid (fun k => mid_held (HMr.out.drewN k) HLr.out.1 (Nat.le_trans HLr.out.2 (by decide)))
        obtain ⟨hd', hhd⟩ : ∃ x, Hid (Tm.held (ones L') = x) := ⟨_, Lib.hid rfl⟩
        rw [hhd.out] at HEL
        obtain ⟨bb, hbb⟩ : ∃ x, Hid (m.by_ = x) := ⟨_, Lib.hid rfl⟩
        rw [hbb.out] at hl1
        unfold maxLen at hmr
        by_cases hmore : bb < hd'
        · have hd1 : decide ((bb : Int) < (hd' : Int)) = true := decide_eq_true (by omega)
          have hnl : ¬ Tm.held (ones L') ≤ m.by_ := by rw [hhd.out, hbb.out]; omega
          have HNL := Lib.hid hnl
          obtain ⟨B0, e0, hB0, hc0⟩ := HMr.out.cells hpos
          have hp6 : wr.cell? ⟨B0, 6, none⟩ = some (.pointer (some ⟨(L'[0]'hpos).2, 0, none⟩)) := hc0 6 (by omega)
          cases e0
          have HT := Lib.hid (fun hg => HSr.out.this hnl hpos hg)
          have HOt := Lib.hid (fun hg => HSr.out.other hnl hpos hg)
          obtain ⟨g0, hg0⟩ : ∃ x, Hid ((L'[0]'hpos).2 = x) := ⟨_, Lib.hid rfl⟩
          have HRP0 := Lib.hid (HMr.out.rp (List.getElem_mem hpos))
          have HRPo := Lib.hid (HMr.out.rp HSr.out.mem)
          rw [hg0.out] at hp6 HT HOt HRP0
          have WO := Lib.hid (fun (W : World) (hW : Below wr.heap.size wr W) (a : Nat) => mid_without (HMr.out.stay hW) HLr.out.1 (a : Int) a (.inl rfl))
          have HER : Hid (∀ a, (L'.eraseIdx a).length ≤ 1000 ∧ Tm.held (ones (L'.eraseIdx a)) ≤ 100000000) := Lib.hid (fun a => ⟨Nat.le_trans (List.length_eraseIdx_le ..) HLr.out.1, Nat.le_trans (Tm.held_sub (by rw [ones_erase]; exact List.eraseIdx_sublist _ _)) HLr.out.2⟩)
          have HDEC : Hid (∀ a, a < L'.length → (L'.eraseIdx a).length < L'.length) := Lib.hid (fun a ha => by rw [List.length_eraseIdx_of_lt ha]; omega)
          obtain ⟨nl, hnl'⟩ : ∃ x, Hid (L'.length = x) := ⟨_, Lib.hid rfl⟩
          have hposn : 0 < nl := by rw [← hnl'.out]; exact hpos
          rw [hnl'.out] at hl3 hler
          clear hnl hc0
          by_cases hgg : g0 = pP
          · obtain ⟨hl2, HS2⟩ := HT.out hgg
            have HS2 := Lib.hid HS2
            have HL2 := Lib.hid hl2
            subst hgg
            clear hl2
            go_wp2_with fail
            go_quiet (with_reducible exact Calls.quiet_of_same (HEL.out _))
            obtain ⟨wE, hwE⟩ : ∃ W, wr.drewN nq = W := ⟨_, rfl⟩
            have hl3 : wE.cell? ⟨h, 3, none⟩ = some (.slice (some ⟨B0, 0, none⟩) nl cr) := by rw [← hwE]; exact hl3
            have y6 : wE.cell? ⟨q, 6, none⟩ = some (.pointer (some ⟨g0, 0, none⟩)) := by rw [← hwE]; exact y6
            have hp6 : wE.cell? ⟨B0, 6, none⟩ = some (.pointer (some ⟨g0, 0, none⟩)) := by rw [← hwE]; exact hp6
            have HBE : Hid (Below wr.heap.size wr wE) := Lib.hid (by rw [← hwE]; exact below_draws _ _ _)
            have hpe : ∀ k, (binOp .eql 62 (.pointer (some ⟨g0, 0, none⟩)) (.pointer (some ⟨g0, 0, none⟩))).run Try.prog (wE.drewN k) = .ok (.bool true) (wE.drewN k) := fun k => by exact ptr_same21 _ _
            clear hpe
            have hpe := fun W => ptr_same21 W g0
            rw [hwE]
            clear hwE
            go_wp2_with fail
            go_quiet (fail)
            obtain ⟨wG, hwG⟩ : ∃ W, wE.drewN nq = W := ⟨_, rfl⟩
            have HBG : Hid (Below wr.heap.size wr wG) := Lib.hid (by rw [← hwG]; exact HBE.out.trans (below_draws _ _ _))
            rw [hwG]
            have WOa := Lib.hid (WO.out wG HBG.out 1)
            clear hwG
            go_wp2_with fail
            refine (WOa.out).mono ?_
            rintro e wH ⟨rfl, vH, MH, _, hsame, hzH⟩
            have HMH := Lib.hid MH
            have hq1 := HQr.out.lt
            have hx1 := HXr.out.lt
            have HQH : Hid (Whole wH q 64 #[.int .u16 (sn : Int), .int .u32 (ep : Int), .int .u32 (di : Int), .int .u16 (co : Int), .int .u8 (ve : Int), .int .i64 0, .pointer (some ⟨g0, 0, none⟩)]) := Lib.hid ((HQr.out.below HBG.out hq1).same (hsame q (.inr rfl)))
            have HXH : Hid (Whole wH bx 38 #[.int .u8 (kd : Int), .int .u8 (ve : Int), .int .u32 (ep : Int), .int .u32 (di : Int), .int .u16 (ix : Int), .int .u16 (co : Int), .slice A y c]) := Lib.hid ((HXr.out.below HBG.out hx1).same (hsame bx (.inl rfl)))
            have HMm : Hid (lenIn wH h < nl) := Lib.hid (by
              obtain ⟨AH, cH, eH, _, _⟩ := HMH.out.shape
              have hl := HMH.out.whole.at_ 3
              rw [eH] at hl
              have hdec := HDEC.out 1 (by exact HL2.out)
              rw [← hnl'.out]
              unfold lenIn
              rw [show wH.cell? ⟨h, 3, none⟩ = some (.slice AH (L'.eraseIdx 1).length cH) from hl]
              exact hdec)
            clear MH hsame hzH
            go_wp2_with fail
            go_roundw
            case rel => exact ⟨_, _, _, HMH, HS2, Lib.hid (HER.out 1), HQH, HXH⟩
            case measure => rw [HMn.out, hnl'.out]; exact HMm.out
          · have HS2 := Lib.hid (HOt.out hgg)
            have hgg2 : ¬ pP = g0 := fun e => hgg e.symm
            go_wp2_with fail
            go_quiet (with_reducible exact Calls.quiet_of_same (HEL.out _))
            obtain ⟨wE, hwE⟩ : ∃ W, wr.drewN nq = W := ⟨_, rfl⟩
            have hl3 : wE.cell? ⟨h, 3, none⟩ = some (.slice (some ⟨B0, 0, none⟩) nl cr) := by rw [← hwE]; exact hl3
            have y6 : wE.cell? ⟨q, 6, none⟩ = some (.pointer (some ⟨pP, 0, none⟩)) := by rw [← hwE]; exact y6
            have hp6 : wE.cell? ⟨B0, 6, none⟩ = some (.pointer (some ⟨g0, 0, none⟩)) := by rw [← hwE]; exact hp6
            have HBE : Hid (Below wr.heap.size wr wE) := Lib.hid (by rw [← hwE]; exact below_draws _ _ _)
            have hpe : ∀ k, (binOp .eql 62 (.pointer (some ⟨g0, 0, none⟩)) (.pointer (some ⟨pP, 0, none⟩))).run Try.prog (wE.drewN k) = .ok (.bool false) (wE.drewN k) := fun k => by rw [← hwE]; exact ptr_other21 ((HRP0.out.drewN nq).drewN k) ((HRPo.out.drewN nq).drewN k) hgg
            have hpe0 := hpe 0
            rw [hwE]
            clear hwE
            go_wp2_with fail
            go_quiet (fail)
            obtain ⟨wG, hwG⟩ : ∃ W, wE.drewN nq = W := ⟨_, rfl⟩
            have HBG : Hid (Below wr.heap.size wr wG) := Lib.hid (by rw [← hwG]; exact HBE.out.trans (below_draws _ _ _))
            rw [hwG]
            have WOa := Lib.hid (WO.out wG HBG.out 0)
            clear hwG
            go_wp2_with fail
            refine (WOa.out).mono ?_
            rintro e wH ⟨rfl, vH, MH, _, hsame, hzH⟩
            have HMH := Lib.hid MH
            have hq1 := HQr.out.lt
            have hx1 := HXr.out.lt
            have HQH : Hid (Whole wH q 64 #[.int .u16 (sn : Int), .int .u32 (ep : Int), .int .u32 (di : Int), .int .u16 (co : Int), .int .u8 (ve : Int), .int .i64 0, .pointer (some ⟨pP, 0, none⟩)]) := Lib.hid ((HQr.out.below HBG.out hq1).same (hsame q (.inr rfl)))
            have HXH : Hid (Whole wH bx 38 #[.int .u8 (kd : Int), .int .u8 (ve : Int), .int .u32 (ep : Int), .int .u32 (di : Int), .int .u16 (ix : Int), .int .u16 (co : Int), .slice A y c]) := Lib.hid ((HXr.out.below HBG.out hx1).same (hsame bx (.inl rfl)))
            have HMm : Hid (lenIn wH h < nl) := Lib.hid (by
              obtain ⟨AH, cH, eH, _, _⟩ := HMH.out.shape
              have hl := HMH.out.whole.at_ 3
              rw [eH] at hl
              have hdec := HDEC.out 0 (by rw [hnl'.out]; exact hposn)
              rw [← hnl'.out]
              unfold lenIn
              rw [show wH.cell? ⟨h, 3, none⟩ = some (.slice AH (L'.eraseIdx 0).length cH) from hl]
              exact hdec)
            clear MH hsame hzH
            go_wp2_with fail
            go_roundw
            case rel => exact ⟨_, _, _, HMH, HS2, Lib.hid (HER.out 0), HQH, HXH⟩
            case measure => rw [HMn.out, hnl'.out]; exact HMm.out
        · have hd1 : decide ((bb : Int) < (hd' : Int)) = false := decide_eq_false (by omega)
          have hEnd := HSr.out.end_ (by rw [hhd.out, hbb.out]; omega)
          have HEnd := Lib.hid hEnd
          have hfew := HLr.out.2
          have HWh := Lib.hid (fun k => mid_whole (HMr.out.drewN k) HSr.out.mem (Nat.le_trans (Tm.held_mem (List.mem_map.2 ⟨_, HSr.out.mem, rfl⟩)) (Nat.le_trans HLr.out.2 (by decide))))
          obtain ⟨td, htd⟩ : ∃ x, Hid (((Tm.cur (ones L) sn g).plus g).s.told = x) := ⟨_, Lib.hid rfl⟩
          obtain ⟨fl, hfl⟩ : ∃ x, Hid (((Tm.cur (ones L) sn g).plus g).s.full = x) := ⟨_, Lib.hid rfl⟩
          rw [htd.out, hfl.out] at HWh
          have hput := put_good hbad HF2.out HF3.out HF4.out hRR.out
          rw [hfl.out] at hput
          have htold : ((Tm.cur (ones L) sn g).plus g).s.told = if ((Tm.cur (ones L) sn g).plus g).s.full then ((Tm.cur (ones L) sn g).plus g).s.whole else [] := rfl
          rw [htd.out, hfl.out] at htold
          have HPut := Lib.hid hput
          have HTold := Lib.hid htold
          clear hput htold hEnd hfew
          go_wp2_with fail
          go_quiet (with_reducible exact Calls.quiet_of_same (HEL.out _))
          go_wp2_with fail
          refine (HWh.out nq).mono ?_
          rintro e wF ⟨rfl, q2, rfl⟩
          cases fl with
          | false =>
            rw [if_neg (by decide)] at HPut HTold
            have HD := Lib.hid ((HMr.out.drewN (nq + q2)).done hlt.out)
            rw [HEnd.out] at HD
            have htd0 := HTold.out
            subst htd0
            go_wp2_with fail
            go_ret3
            exact RputPost.of HPut.out ⟨rfl, HD.out⟩
          | true =>
            rw [if_pos rfl] at HPut HTold
            obtain ⟨j, hj⟩ : ∃ j, Tm.find (ones L') (sn, ep, di) = some j := by
              cases e : Tm.find (ones L') (sn, ep, di) with
              | some j => exact ⟨j, rfl⟩
              | none => exact absurd (by rw [← hep.out, ← hdi.out]; exact HSr.out.key) (Tm.find_none e _ (List.mem_map.2 ⟨_, HSr.out.mem, rfl⟩))
            have HJ := Lib.hid hj
            obtain ⟨wX, hwX⟩ : ∃ W, wr.drewN (nq + q2) = W := ⟨_, rfl⟩
            have HMX : Hid (Mid w F (fun b => b = bx ∨ b = q) h m wX (.slice Ar L'.length cr) L' Fo') := Lib.hid (by rw [← hwX]; exact HMr.out.drewN _)
            have x2 : wX.cell? ⟨bx, 2, none⟩ = some (.int .u32 (ep : Int)) := by rw [← hwX]; exact HXr.out.at_ 2
            have x3 : wX.cell? ⟨bx, 3, none⟩ = some (.int .u32 (di : Int)) := by rw [← hwX]; exact HXr.out.at_ 3
            have FI2 := Lib.hid (mid_find HMX.out HLr.out.1 sn ep di)
            rw [hj] at FI2
            simp only [placeI] at FI2
            have WO2 := Lib.hid (mid_without HMX.out HLr.out.1 (j : Int) j (.inl rfl))
            have HW2 : Hid (ones (L'.eraseIdx j) = Tm.wo RR (sn, g.epoch, g.id)) := Lib.hid (by
              rw [ones_erase, HEnd.out]
              unfold Tm.wo
              rw [hep.out, hdi.out, ← HEnd.out, hj])
            rw [World.drewN_drewN, hwX]
            clear hwX hj
            go_wp2_with fail
            refine (FI2.out).mono ?_
            rintro e wY ⟨rfl, rfl⟩
            go_wp2_with fail
            refine (WO2.out).mono ?_
            rintro e wZ ⟨rfl, vZ, MZ, _, _, _⟩
            have HD := Lib.hid (MZ.done hlt.out)
            rw [HW2.out] at HD
            have htd0 := HTold.out
            clear MZ
            subst htd0
            go_wp2_with fail
            go_ret3
            exact RputPost.of HPut.out ⟨rfl, HD.out⟩
    · have hneq : ((n : Int) == (m.op : Int)) = false := by simp; omega
      go_wp2_with fail
      go_quiet (with_reducible exact Calls.quiet_of_same (SZ.out _))
      obtain ⟨wA, hwA⟩ : ∃ W, w3.drewN nq = W := ⟨_, rfl⟩
      have HMA : Hid (Mid w F (fun b => b = bx ∨ (b = pP ∨ b = q)) h m wA (.slice A0 n cp) L Fo) := Lib.hid (by rw [← hwA]; exact HM3.out.drewN nq)
      have a0 : wA.cell? ⟨h, 0, none⟩ = some (.int .i64 (m.op : Int)) := HMA.out.whole.at_ 0
      have a3 : wA.cell? ⟨h, 3, none⟩ = some (.slice A0 n cp) := HMA.out.whole.at_ 3
      have HPA : Hid (Rp wA (fun b => b = pP) pP ⟨co, []⟩) := Lib.hid (by rw [← hwA]; exact HRP.out.drewN nq)
      have HQA : Hid (Whole wA q 64 #[.int .u16 (sn : Int), .int .u32 (ep : Int), .int .u32 (di : Int), .int .u16 (co : Int), .int .u8 (ve : Int), .int .i64 0, .pointer (some ⟨pP, 0, none⟩)]) := Lib.hid (by rw [← hwA]; exact HQ3.out)
      have HXA : Hid (Whole wA bx 38 #[.int .u8 (kd : Int), .int .u8 (ve : Int), .int .u32 (ep : Int), .int .u32 (di : Int), .int .u16 (ix : Int), .int .u16 (co : Int), .slice A y c]) := Lib.hid (by rw [← hwA]; exact HGx3.out)
      rw [hwA]
      clear hwA
      go_wp2_with fail
      go_quiet (fail)
      obtain ⟨wB, hwB⟩ : ∃ W, wA.drewN nq = W := ⟨_, rfl⟩
      have HMB : Hid (Mid w F (fun b => b = bx ∨ (b = pP ∨ b = q)) h m wB (.slice A0 n cp) L Fo) := Lib.hid (by rw [← hwB]; exact HMA.out.drewN nq)
      have HPB : Hid (Rp wB (fun b => b = pP) pP ⟨co, []⟩) := Lib.hid (by rw [← hwB]; exact HPA.out.drewN nq)
      have HQB : Hid (Whole wB q 64 #[.int .u16 (sn : Int), .int .u32 (ep : Int), .int .u32 (di : Int), .int .u16 (co : Int), .int .u8 (ve : Int), .int .i64 0, .pointer (some ⟨pP, 0, none⟩)]) := Lib.hid (by rw [← hwB]; exact HQA.out)
      have HXB : Hid (Whole wB bx 38 #[.int .u8 (kd : Int), .int .u8 (ve : Int), .int .u32 (ep : Int), .int .u32 (di : Int), .int .u16 (ix : Int), .int .u16 (co : Int), .slice A y c]) := Lib.hid (by rw [← hwB]; exact HXA.out)
      rw [hwB]
      clear hwB
      go_wp2_with fail
      have HRW := Lib.hid (HMB.out.row)
      have HWB := Lib.hid (HMB.out.whole)
      have hhq : h < wB.heap.size := HWB.out.lt
      have hqq : q < wB.heap.size := HQB.out.lt
      have hvh : ∀ k, (Value.slice A0 n cp).ownBlock = some k → k ≠ h ∧ k ≠ q := HMB.out.rowNe (fun b hb => hb) (.inr (.inr rfl))
      have HVH := Lib.hid hvh
      have hL0n : n ≤ 1000 := by omega
      have HPU := Lib.hid (fun (Y : Nat → Prop) (hY : ∀ b, Y b → (b = bx ∨ (b = pP ∨ b = q)) ∧ ¬ b = pP) (v1 : Value) (wr : World) (ob : Obj) a1 a2 a3 => Mid.push (g := pP) (o := (⟨sn, ep, di, co, ve, 0, ⟨co, []⟩⟩ : Tm.One)) (Y := Y) (v1 := v1) (wr := wr) (ob := ob) HMB.out HPB.out (fun b hb => .inr (.inl hb)) (fun b hb => by subst hb; omega) hY a1 a2 a3)
      rw [hn.out] at HRW HPU
      clear hvh
      refine wp_region_last (S := fun W => W.heap[h]? = wB.heap[h]? ∧ W.heap[q]? = wB.heap[q]?) 10 [(0, true), (1, true), (2, true), (3, true), (4, true), (5, true), (6, false), (7, false), (8, false), (9, true), (10, false)] (by kernel_rfl) (by kernel_rfl) rfl (by kernel_rfl) (by rfl) (fun _ _ _ _ _ h => h) ⟨rfl, rfl⟩ ?_
      iterate 6
        refine alongL_take (v := ?_) rfl (by rfl) ?_ ?_
        rotate_left
        · intro W hW; obtain ⟨e1, e2⟩ := hW; have y3 := (HWB.out.same e1).at_ 3; have yq := HQB.out.same e2; have z0 := yq.at_ 0; have z1 := yq.at_ 1; have z2 := yq.at_ 2; have z3 := yq.at_ 3; have z4 := yq.at_ 4; have z5 := yq.at_ 5; have z6 := yq.at_ 6; clear e1 e2 yq; go_simp; try with_reducible rfl
        simp only [Act.put, List.setIfInBounds_toArray, List.set_cons_zero, List.set_cons_succ]
      refine alongL_step rfl (fun K hK => ?_)
      go_simp
      refine hK.out _ _ ⟨Below.heap_alloc wB.drew _ _ hhq, Below.heap_alloc wB.drew _ _ hqq⟩ ?_
      clear hK K
      try simp only [Act.put, List.setIfInBounds_toArray, List.set_cons_zero, List.set_cons_succ]
      refine alongL_step rfl (fun K hK => ?_)
      refine step_append_cells oneT22 oneI22 rfl (by decide) (by decide) _ _ rfl rfl 0 (Value.slice A0 n cp) n (rowsOf fOe L) rfl (HRW.out.drew.alloc _) 1 1 (fOe ((⟨sn, ep, di, co, ve, 0, ⟨co, []⟩⟩ : Tm.One), pP)) rfl rfl (fun h => by cases h) (by decide) (src_cells _ _ _ _) (fOe_one _) (by omega) (Nat.zero_le _) ?_
      intro v' wC0 hr hg hv
      obtain ⟨Av', cv', rfl, _, _, _, _⟩ := own_look hr
      have hSh : wC0.heap[h]? = wB.heap[h]? := (hg.block h (by show h < (wB.alloc _).heap.size; rw [World.size_alloc]; omega) (fun e => (HVH.out h e.symm).1 rfl)).trans (Below.heap_alloc wB.drew _ _ hhq)
      have hSq : wC0.heap[q]? = wB.heap[q]? := (hg.block q (by show q < (wB.alloc _).heap.size; rw [World.size_alloc]; omega) (fun e => (HVH.out q e.symm).2 rfl)).trans (Below.heap_alloc wB.drew _ _ hqq)
      refine hK.out _ _ ⟨hSh, hSq⟩ ?_
      clear hK K
      have HR17 := Lib.hid hr
      have HG17 : Hid ((wB.alloc (.cells #[.int .u16 (sn : Int), .int .u32 (ep : Int), .int .u32 (di : Int), .int .u16 (co : Int), .int .u8 (ve : Int), .int .i64 0, .pointer (some ⟨pP, 0, none⟩)] 64)).grownBy wC0 (Value.slice A0 n cp).ownBlock) := Lib.hid ⟨hg.os, hg.tape, hg.output, hg.size, hg.block⟩
      have HV17 := Lib.hid hv
      have HS17 : Hid (wC0.heap[h]? = wB.heap[h]? ∧ wC0.heap[q]? = wB.heap[q]?) := Lib.hid ⟨hSh, hSq⟩
      have s3 : wC0.cell? ⟨h, 3, none⟩ = some (Value.slice A0 n cp) := (HWB.out.same hSh).at_ 3
      have s4 : wC0.frozen? ⟨h, 3, none⟩ = false := (HWB.out.same hSh).free 3
      clear hr hg hv hSh hSq
      try simp only [Act.put, List.setIfInBounds_toArray, List.set_cons_zero, List.set_cons_succ]
      refine alongL_step rfl (fun K hK => ?_)
      go_simp
      refine hK.out _ _ HS17.out ?_
      clear hK K
      try simp only [Act.put, List.setIfInBounds_toArray, List.set_cons_zero, List.set_cons_succ]
      refine alongL_take (v := ?_) rfl (by rfl) ?_ ?_
      rotate_left
      · intro W hW; clear hW; go_simp; try with_reducible rfl
      simp only [Act.put, List.setIfInBounds_toArray, List.set_cons_zero, List.set_cons_succ]
      refine alongL_last rfl (fun K hK => ?_)
      go_simp
      refine hK.out _ _ ?_
      clear hK K
      obtain ⟨⟨Fo1, MC⟩, hsame, hzC⟩ := HPU.out (fun b => b = bx ∨ b = q) (fun b hb => ⟨by rcases hb with hb | hb; exact .inl hb; exact .inr (.inr hb), by rcases hb with hb | hb <;> omega⟩) _ _ _ HR17.out HG17.out HV17.out
      obtain ⟨wC, hwC⟩ : ∃ W, wC0.setCell ⟨h, 3, none⟩ (.slice Av' (n + 1) cv') = W := ⟨_, rfl⟩
      have HMC : Hid (Mid w F (fun b => b = bx ∨ b = q) h m wC (.slice Av' (n + 1) cv') (L ++ [((⟨sn, ep, di, co, ve, 0, ⟨co, []⟩⟩ : Tm.One), pP)]) Fo1) := Lib.hid (by rw [← hwC]; exact MC)
      have HQC : Hid (Whole wC q 64 #[.int .u16 (sn : Int), .int .u32 (ep : Int), .int .u32 (di : Int), .int .u16 (co : Int), .int .u8 (ve : Int), .int .i64 0, .pointer (some ⟨pP, 0, none⟩)]) := Lib.hid (HQB.out.same (by rw [← hwC]; exact hsame q (.inr rfl)))
      have HXC : Hid (Whole wC bx 38 #[.int .u8 (kd : Int), .int .u8 (ve : Int), .int .u32 (ep : Int), .int .u32 (di : Int), .int .u16 (ix : Int), .int .u16 (co : Int), .slice A y c]) := Lib.hid (HXB.out.same (by rw [← hwC]; exact hsame bx (.inl rfl)))
      rw [hwC]
      clear MC hsame hzC hwC s3 s4
      have HF2 : Hid (¬ ((Tm.cur (ones L) sn g).count ≠ g.count ∨ (Tm.cur (ones L) sn g).version ≠ g.version)) := Lib.hid (by rw [hcur]; simp [Tm.fresh])
      have HF3 : Hid ((Tm.cur (ones L) sn g).s.has g.index = false) := Lib.hid (by rw [hcur]; rfl)
      have HF4 : Hid (¬ m.by_ < (Tm.cur (ones L) sn g).s.size + g.body.length) := Lib.hid (by rw [hcur, hy.out]; simpa [Tm.fresh, Pm.S.size] using HY.out)
      have hfu : n ≠ m.op := hfull
      have HOP : Hid (Tm.opened m (ones L) (sn, g.epoch, g.id) ((Tm.cur (ones L) sn g).plus g) = ones L ++ [(Tm.cur (ones L) sn g).plus g]) := Lib.hid (by
        rw [Tm.opened_none (by rw [hep.out, hdi.out]; exact hf), if_neg (by rw [ones_len, hn.out]; exact hfu)])
      obtain ⟨RR, hRR⟩ : ∃ R, Hid (Tm.shrink m.by_ (sn, g.epoch, g.id) (Tm.opened m (ones L) (sn, g.epoch, g.id) ((Tm.cur (ones L) sn g).plus g)).length (Tm.opened m (ones L) (sn, g.epoch, g.id) ((Tm.cur (ones L) sn g).plus g)) = R) := ⟨_, Lib.hid rfl⟩
      have HMEM : Hid (((⟨sn, ep, di, co, ve, 0, ⟨co, []⟩⟩ : Tm.One), pP) ∈ L ++ [((⟨sn, ep, di, co, ve, 0, ⟨co, []⟩⟩ : Tm.One), pP)]) := Lib.hid (by simp)
      have HOO : Hid (Tm.One.putS (ix : Int) g.body (⟨sn, ep, di, co, ve, 0, ⟨co, []⟩⟩ : Tm.One) = (Tm.cur (ones L) sn g).plus g) := Lib.hid (by
        rw [hcur]
        have e : (⟨sn, ep, di, co, ve, 0, ⟨co, []⟩⟩ : Tm.One) = Tm.fresh sn g := by unfold Tm.fresh; rw [hep.out, hdi.out, hco.out, hve.out]
        rw [e, ← hix.out]
        exact putS_plus (by show g.index < g.count; have := hbad'.out; omega) rfl)
      have HSHR : Hid (Shr m.by_ (sn, g.epoch, g.id) RR ((Tm.cur (ones L) sn g).plus g) pP (turned pP (Tm.One.putS (ix : Int) g.body) (L ++ [((⟨sn, ep, di, co, ve, 0, ⟨co, []⟩⟩ : Tm.One), pP)]))) := Lib.hid (by
        have hon : ones (turned pP (Tm.One.putS (ix : Int) g.body) (L ++ [((⟨sn, ep, di, co, ve, 0, ⟨co, []⟩⟩ : Tm.One), pP)])) = Tm.opened m (ones L) (sn, g.epoch, g.id) ((Tm.cur (ones L) sn g).plus g) := by
          rw [turned_last _ _ _ HMC.out.once, HOP.out, HOO.out]
        refine ⟨⟨_, by rw [hon]; exact hRR.out, by rw [hon]; exact Nat.le_refl _⟩, by rw [← HOO.out]; exact turned_has _ HMEM.out, Tm.cur_key, by rw [Tm.plus_size, hcur, hy.out]; show 0 + y ≤ m.by_; have := HY.out; omega, by rw [hon]; exact Tm.opened_keys hok Tm.cur_key, by rw [turned_snd]; exact HMC.out.once⟩)
      have HLEN : Hid ((turned pP (Tm.One.putS (ix : Int) g.body) (L ++ [((⟨sn, ep, di, co, ve, 0, ⟨co, []⟩⟩ : Tm.One), pP)])).length ≤ 1000 ∧ Tm.held (ones (turned pP (Tm.One.putS (ix : Int) g.body) (L ++ [((⟨sn, ep, di, co, ve, 0, ⟨co, []⟩⟩ : Tm.One), pP)]))) ≤ 100000000) := Lib.hid ⟨by have := hn.out; rw [turned_len]; simp; omega, by
        rw [turned_last _ _ _ HMC.out.once, Tm.held_append, HOO.out]
        have h1 := hok.few
        have h2 := hm.by2
        have h3 : Tm.held [(Tm.cur (ones L) sn g).plus g] = 0 + y := by simp only [Tm.held, List.map_cons, List.map_nil, List.sum_cons, List.sum_nil]; rw [Tm.plus_size, hcur, hy.out]; rfl
        rw [h3]; omega⟩
      have HCUR := Lib.hid hcur
      clear hcur
      have y6 : wC.cell? ⟨q, 6, none⟩ = some (.pointer (some ⟨pP, 0, none⟩)) := HQC.out.at_ 6
      have x4 : wC.cell? ⟨bx, 4, none⟩ = some (.int .u16 (ix : Int)) := HXC.out.at_ 4
      have x6 : wC.cell? ⟨bx, 6, none⟩ = some (.slice A y c) := HXC.out.at_ 6
      have hcv : (convert 36 9 (.slice A y c)).run Try.prog wC = .ok (.string (strOf g.body)) wC := (HPi.out wC HMC.out.foot).conv
      have AD := Lib.hid (mid_add HMC.out HMEM.out (ix : Int) (by omega) (by omega) (Txt.of HG.out.body))
      obtain ⟨er, her⟩ : ∃ x : Nat, Hid ((⟨sn, ep, di, co, ve, 0, ⟨co, []⟩⟩ : Tm.One).s.err (ix : Int) = x) := ⟨_, Lib.hid rfl⟩
      rw [her.out] at AD
      obtain ⟨u6, hu6⟩ : ∃ x, Hid (strOf g.body = x) := ⟨_, Lib.hid rfl⟩
      rw [hu6.out] at AD hcv
      go_wp2_with fail
      refine (AD.out).mono ?_
      rintro e wD ⟨rfl, ⟨Fo2, MD⟩, hsame, hzD⟩
      have HMD := Lib.hid MD
      have HQD : Hid (Whole wD q 64 #[.int .u16 (sn : Int), .int .u32 (ep : Int), .int .u32 (di : Int), .int .u16 (co : Int), .int .u8 (ve : Int), .int .i64 0, .pointer (some ⟨pP, 0, none⟩)]) := Lib.hid (HQC.out.same (hsame q (.inr rfl)))
      have HXD : Hid (Whole wD bx 38 #[.int .u8 (kd : Int), .int .u8 (ve : Int), .int .u32 (ep : Int), .int .u32 (di : Int), .int .u16 (ix : Int), .int .u16 (co : Int), .slice A y c]) := Lib.hid (HXC.out.same (hsame bx (.inl rfl)))
      clear MD hsame hzD y6 x4 x6 hcv
      go_wp2_with fail
      go_loopw [11] (fun u wr => ∃ (v : Value) (L' : List (Tm.One × Nat)) (Fo' : Nat → Nat → Prop), Hid (Mid w F (fun b => b = bx ∨ b = q) h m wr v L' Fo') ∧ Hid (Shr m.by_ (sn, g.epoch, g.id) RR ((Tm.cur (ones L) sn g).plus g) pP L') ∧ Hid (L'.length ≤ 1000 ∧ Tm.held (ones L') ≤ 100000000) ∧ Hid (Whole wr q 64 #[.int .u16 (sn : Int), .int .u32 (ep : Int), .int .u32 (di : Int), .int .u16 (co : Int), .int .u8 (ve : Int), .int .i64 0, .pointer (some ⟨pP, 0, none⟩)]) ∧ Hid (Whole wr bx 38 #[.int .u8 (kd : Int), .int .u8 (ve : Int), .int .u32 (ep : Int), .int .u32 (di : Int), .int .u16 (ix : Int), .int .u16 (co : Int), .slice A y c])) (fun _ wr => lenIn wr h)
      case atStart => exact ⟨_, _, _, HMD, HSHR, HLEN, HQD, HXD⟩
      case round =>
        obtain ⟨vr, L', Fo', HMr, HSr, HLr, HQr, HXr⟩ := hrel
        obtain ⟨Ar, cr, rfl, hler, hmr⟩ := HMr.out.shape
        have hl3 : wr.cell? ⟨h, 3, none⟩ = some (.slice Ar L'.length cr) := HMr.out.whole.at_ 3
        have hl1 : wr.cell? ⟨h, 1, none⟩ = some (.int .i64 (m.by_ : Int)) := HMr.out.whole.at_ 1
        have y6 : wr.cell? ⟨q, 6, none⟩ = some (.pointer (some ⟨pP, 0, none⟩)) := HQr.out.at_ 6
        have hpos := HSr.out.pos
        have HMn : Hid (lenIn wr h = L'.length) := Lib.hid (by unfold lenIn; rw [hl3])
        have HEL := Lib.hid (fun k => mid_held (HMr.out.drewN k) HLr.out.1 (Nat.le_trans HLr.out.2 (by decide)))
        obtain ⟨hd', hhd⟩ : ∃ x, Hid (Tm.held (ones L') = x) := ⟨_, Lib.hid rfl⟩
        rw [hhd.out] at HEL
        obtain ⟨bb, hbb⟩ : ∃ x, Hid (m.by_ = x) := ⟨_, Lib.hid rfl⟩
        rw [hbb.out] at hl1
        unfold maxLen at hmr
        by_cases hmore : bb < hd'
        · have hd1 : decide ((bb : Int) < (hd' : Int)) = true := decide_eq_true (by omega)
          have hnl : ¬ Tm.held (ones L') ≤ m.by_ := by rw [hhd.out, hbb.out]; omega
          have HNL := Lib.hid hnl
          obtain ⟨B0, e0, hB0, hc0⟩ := HMr.out.cells hpos
          have hp6 : wr.cell? ⟨B0, 6, none⟩ = some (.pointer (some ⟨(L'[0]'hpos).2, 0, none⟩)) := hc0 6 (by omega)
          cases e0
          have HT := Lib.hid (fun hg => HSr.out.this hnl hpos hg)
          have HOt := Lib.hid (fun hg => HSr.out.other hnl hpos hg)
          obtain ⟨g0, hg0⟩ : ∃ x, Hid ((L'[0]'hpos).2 = x) := ⟨_, Lib.hid rfl⟩
          have HRP0 := Lib.hid (HMr.out.rp (List.getElem_mem hpos))
          have HRPo := Lib.hid (HMr.out.rp HSr.out.mem)
          rw [hg0.out] at hp6 HT HOt HRP0
          have WO := Lib.hid (fun (W : World) (hW : Below wr.heap.size wr W) (a : Nat) => mid_without (HMr.out.stay hW) HLr.out.1 (a : Int) a (.inl rfl))
          have HER : Hid (∀ a, (L'.eraseIdx a).length ≤ 1000 ∧ Tm.held (ones (L'.eraseIdx a)) ≤ 100000000) := Lib.hid (fun a => ⟨Nat.le_trans (List.length_eraseIdx_le ..) HLr.out.1, Nat.le_trans (Tm.held_sub (by rw [ones_erase]; exact List.eraseIdx_sublist _ _)) HLr.out.2⟩)
          have HDEC : Hid (∀ a, a < L'.length → (L'.eraseIdx a).length < L'.length) := Lib.hid (fun a ha => by rw [List.length_eraseIdx_of_lt ha]; omega)
          obtain ⟨nl, hnl'⟩ : ∃ x, Hid (L'.length = x) := ⟨_, Lib.hid rfl⟩
          have hposn : 0 < nl := by rw [← hnl'.out]; exact hpos
          rw [hnl'.out] at hl3 hler
          clear hnl hc0
          by_cases hgg : g0 = pP
          · obtain ⟨hl2, HS2⟩ := HT.out hgg
            have HS2 := Lib.hid HS2
            have HL2 := Lib.hid hl2
            subst hgg
            clear hl2
            go_wp2_with fail
            go_quiet (with_reducible exact Calls.quiet_of_same (HEL.out _))
            obtain ⟨wE, hwE⟩ : ∃ W, wr.drewN nq = W := ⟨_, rfl⟩
            have hl3 : wE.cell? ⟨h, 3, none⟩ = some (.slice (some ⟨B0, 0, none⟩) nl cr) := by rw [← hwE]; exact hl3
            have y6 : wE.cell? ⟨q, 6, none⟩ = some (.pointer (some ⟨g0, 0, none⟩)) := by rw [← hwE]; exact y6
            have hp6 : wE.cell? ⟨B0, 6, none⟩ = some (.pointer (some ⟨g0, 0, none⟩)) := by rw [← hwE]; exact hp6
            have HBE : Hid (Below wr.heap.size wr wE) := Lib.hid (by rw [← hwE]; exact below_draws _ _ _)
            have hpe : ∀ k, (binOp .eql 62 (.pointer (some ⟨g0, 0, none⟩)) (.pointer (some ⟨g0, 0, none⟩))).run Try.prog (wE.drewN k) = .ok (.bool true) (wE.drewN k) := fun k => by exact ptr_same21 _ _
            clear hpe
            have hpe := fun W => ptr_same21 W g0
            rw [hwE]
            clear hwE
            go_wp2_with fail
            go_quiet (fail)
            obtain ⟨wG, hwG⟩ : ∃ W, wE.drewN nq = W := ⟨_, rfl⟩
            have HBG : Hid (Below wr.heap.size wr wG) := Lib.hid (by rw [← hwG]; exact HBE.out.trans (below_draws _ _ _))
            rw [hwG]
            have WOa := Lib.hid (WO.out wG HBG.out 1)
            clear hwG
            go_wp2_with fail
            refine (WOa.out).mono ?_
            rintro e wH ⟨rfl, vH, MH, _, hsame, hzH⟩
            have HMH := Lib.hid MH
            have hq1 := HQr.out.lt
            have hx1 := HXr.out.lt
            have HQH : Hid (Whole wH q 64 #[.int .u16 (sn : Int), .int .u32 (ep : Int), .int .u32 (di : Int), .int .u16 (co : Int), .int .u8 (ve : Int), .int .i64 0, .pointer (some ⟨g0, 0, none⟩)]) := Lib.hid ((HQr.out.below HBG.out hq1).same (hsame q (.inr rfl)))
            have HXH : Hid (Whole wH bx 38 #[.int .u8 (kd : Int), .int .u8 (ve : Int), .int .u32 (ep : Int), .int .u32 (di : Int), .int .u16 (ix : Int), .int .u16 (co : Int), .slice A y c]) := Lib.hid ((HXr.out.below HBG.out hx1).same (hsame bx (.inl rfl)))
            have HMm : Hid (lenIn wH h < nl) := Lib.hid (by
              obtain ⟨AH, cH, eH, _, _⟩ := HMH.out.shape
              have hl := HMH.out.whole.at_ 3
              rw [eH] at hl
              have hdec := HDEC.out 1 (by exact HL2.out)
              rw [← hnl'.out]
              unfold lenIn
              rw [show wH.cell? ⟨h, 3, none⟩ = some (.slice AH (L'.eraseIdx 1).length cH) from hl]
              exact hdec)
            clear MH hsame hzH
            go_wp2_with fail
            go_roundw
            case rel => exact ⟨_, _, _, HMH, HS2, Lib.hid (HER.out 1), HQH, HXH⟩
            case measure => rw [HMn.out, hnl'.out]; exact HMm.out
          · have HS2 := Lib.hid (HOt.out hgg)
            have hgg2 : ¬ pP = g0 := fun e => hgg e.symm
            go_wp2_with fail
            go_quiet (with_reducible exact Calls.quiet_of_same (HEL.out _))
            obtain ⟨wE, hwE⟩ : ∃ W, wr.drewN nq = W := ⟨_, rfl⟩
            have hl3 : wE.cell? ⟨h, 3, none⟩ = some (.slice (some ⟨B0, 0, none⟩) nl cr) := by rw [← hwE]; exact hl3
            have y6 : wE.cell? ⟨q, 6, none⟩ = some (.pointer (some ⟨pP, 0, none⟩)) := by rw [← hwE]; exact y6
            have hp6 : wE.cell? ⟨B0, 6, none⟩ = some (.pointer (some ⟨g0, 0, none⟩)) := by rw [← hwE]; exact hp6
            have HBE : Hid (Below wr.heap.size wr wE) := Lib.hid (by rw [← hwE]; exact below_draws _ _ _)
            have hpe : ∀ k, (binOp .eql 62 (.pointer (some ⟨g0, 0, none⟩)) (.pointer (some ⟨pP, 0, none⟩))).run Try.prog (wE.drewN k) = .ok (.bool false) (wE.drewN k) := fun k => by rw [← hwE]; exact ptr_other21 ((HRP0.out.drewN nq).drewN k) ((HRPo.out.drewN nq).drewN k) hgg
            have hpe0 := hpe 0
            rw [hwE]
            clear hwE
            go_wp2_with fail
            go_quiet (fail)
            obtain ⟨wG, hwG⟩ : ∃ W, wE.drewN nq = W := ⟨_, rfl⟩
            have HBG : Hid (Below wr.heap.size wr wG) := Lib.hid (by rw [← hwG]; exact HBE.out.trans (below_draws _ _ _))
            rw [hwG]
            have WOa := Lib.hid (WO.out wG HBG.out 0)
            clear hwG
            go_wp2_with fail
            refine (WOa.out).mono ?_
            rintro e wH ⟨rfl, vH, MH, _, hsame, hzH⟩
            have HMH := Lib.hid MH
            have hq1 := HQr.out.lt
            have hx1 := HXr.out.lt
            have HQH : Hid (Whole wH q 64 #[.int .u16 (sn : Int), .int .u32 (ep : Int), .int .u32 (di : Int), .int .u16 (co : Int), .int .u8 (ve : Int), .int .i64 0, .pointer (some ⟨pP, 0, none⟩)]) := Lib.hid ((HQr.out.below HBG.out hq1).same (hsame q (.inr rfl)))
            have HXH : Hid (Whole wH bx 38 #[.int .u8 (kd : Int), .int .u8 (ve : Int), .int .u32 (ep : Int), .int .u32 (di : Int), .int .u16 (ix : Int), .int .u16 (co : Int), .slice A y c]) := Lib.hid ((HXr.out.below HBG.out hx1).same (hsame bx (.inl rfl)))
            have HMm : Hid (lenIn wH h < nl) := Lib.hid (by
              obtain ⟨AH, cH, eH, _, _⟩ := HMH.out.shape
              have hl := HMH.out.whole.at_ 3
              rw [eH] at hl
              have hdec := HDEC.out 0 (by rw [hnl'.out]; exact hposn)
              rw [← hnl'.out]
              unfold lenIn
              rw [show wH.cell? ⟨h, 3, none⟩ = some (.slice AH (L'.eraseIdx 0).length cH) from hl]
              exact hdec)
            clear MH hsame hzH
            go_wp2_with fail
            go_roundw
            case rel => exact ⟨_, _, _, HMH, HS2, Lib.hid (HER.out 0), HQH, HXH⟩
            case measure => rw [HMn.out, hnl'.out]; exact HMm.out
        · have hd1 : decide ((bb : Int) < (hd' : Int)) = false := decide_eq_false (by omega)
          have hEnd := HSr.out.end_ (by rw [hhd.out, hbb.out]; omega)
          have HEnd := Lib.hid hEnd
          have hfew := HLr.out.2
          have HWh := Lib.hid (fun k => mid_whole (HMr.out.drewN k) HSr.out.mem (Nat.le_trans (Tm.held_mem (List.mem_map.2 ⟨_, HSr.out.mem, rfl⟩)) (Nat.le_trans HLr.out.2 (by decide))))
          obtain ⟨td, htd⟩ : ∃ x, Hid (((Tm.cur (ones L) sn g).plus g).s.told = x) := ⟨_, Lib.hid rfl⟩
          obtain ⟨fl, hfl⟩ : ∃ x, Hid (((Tm.cur (ones L) sn g).plus g).s.full = x) := ⟨_, Lib.hid rfl⟩
          rw [htd.out, hfl.out] at HWh
          have hput := put_good hbad HF2.out HF3.out HF4.out hRR.out
          rw [hfl.out] at hput
          have htold : ((Tm.cur (ones L) sn g).plus g).s.told = if ((Tm.cur (ones L) sn g).plus g).s.full then ((Tm.cur (ones L) sn g).plus g).s.whole else [] := rfl
          rw [htd.out, hfl.out] at htold
          have HPut := Lib.hid hput
          have HTold := Lib.hid htold
          clear hput htold hEnd hfew
          go_wp2_with fail
          go_quiet (with_reducible exact Calls.quiet_of_same (HEL.out _))
          go_wp2_with fail
          refine (HWh.out nq).mono ?_
          rintro e wF ⟨rfl, q2, rfl⟩
          cases fl with
          | false =>
            rw [if_neg (by decide)] at HPut HTold
            have HD := Lib.hid ((HMr.out.drewN (nq + q2)).done hlt.out)
            rw [HEnd.out] at HD
            have htd0 := HTold.out
            subst htd0
            go_wp2_with fail
            go_ret3
            exact RputPost.of HPut.out ⟨rfl, HD.out⟩
          | true =>
            rw [if_pos rfl] at HPut HTold
            obtain ⟨j, hj⟩ : ∃ j, Tm.find (ones L') (sn, ep, di) = some j := by
              cases e : Tm.find (ones L') (sn, ep, di) with
              | some j => exact ⟨j, rfl⟩
              | none => exact absurd (by rw [← hep.out, ← hdi.out]; exact HSr.out.key) (Tm.find_none e _ (List.mem_map.2 ⟨_, HSr.out.mem, rfl⟩))
            have HJ := Lib.hid hj
            obtain ⟨wX, hwX⟩ : ∃ W, wr.drewN (nq + q2) = W := ⟨_, rfl⟩
            have HMX : Hid (Mid w F (fun b => b = bx ∨ b = q) h m wX (.slice Ar L'.length cr) L' Fo') := Lib.hid (by rw [← hwX]; exact HMr.out.drewN _)
            have x2 : wX.cell? ⟨bx, 2, none⟩ = some (.int .u32 (ep : Int)) := by rw [← hwX]; exact HXr.out.at_ 2
            have x3 : wX.cell? ⟨bx, 3, none⟩ = some (.int .u32 (di : Int)) := by rw [← hwX]; exact HXr.out.at_ 3
            have FI2 := Lib.hid (mid_find HMX.out HLr.out.1 sn ep di)
            rw [hj] at FI2
            simp only [placeI] at FI2
            have WO2 := Lib.hid (mid_without HMX.out HLr.out.1 (j : Int) j (.inl rfl))
            have HW2 : Hid (ones (L'.eraseIdx j) = Tm.wo RR (sn, g.epoch, g.id)) := Lib.hid (by
              rw [ones_erase, HEnd.out]
              unfold Tm.wo
              rw [hep.out, hdi.out, ← HEnd.out, hj])
            rw [World.drewN_drewN, hwX]
            clear hwX hj
            go_wp2_with fail
            refine (FI2.out).mono ?_
            rintro e wY ⟨rfl, rfl⟩
            go_wp2_with fail
            refine (WO2.out).mono ?_
            rintro e wZ ⟨rfl, vZ, MZ, _, _, _⟩
            have HD := Lib.hid (MZ.done hlt.out)
            rw [HW2.out] at HD
            have htd0 := HTold.out
            clear MZ
            subst htd0
            go_wp2_with fail
            go_ret3
            exact RputPost.of HPut.out ⟨rfl, HD.out⟩
  | some i =>
    rw [hf] at FI
    simp only [placeI] at FI
    obtain ⟨hi, hcur⟩ := Tm.cur_some (l := ones L) (sender := sn) (g := g) (i := i) (by rw [hep.out, hdi.out]; exact hf)
    have hiL : i < L.length := by rw [← ones_len]; exact hi
    have hin : i < n := by rw [← hn.out]; exact hiL
    rw [ones_get hi] at hcur
    obtain ⟨Bl, eBl, hBl, hcl⟩ := HM3.out.cells hiL
    have HRO := Lib.hid (HM3.out.rp (List.getElem_mem hiL))
    have HMEM0 := Lib.hid (List.getElem_mem hiL)
    have hkeyi := (hok.parts _ (List.getElem_mem hi))
    obtain ⟨o, ho⟩ : ∃ o, Hid (L[i] = o) := ⟨_, Lib.hid rfl⟩
    rw [ones_get hi, ho.out] at hkeyi
    rw [ho.out] at hcur HRO HMEM0 hcl
    obtain ⟨⟨osn, oep, odi, oco, ove, oag, ops⟩, go⟩ := o
    simp only at hcur HRO hkeyi
    obtain ⟨hops, hopc⟩ := hkeyi
    cases eBl
    have hh3 : w3.cell? ⟨h, 3, none⟩ = some (.slice (some ⟨Bl, 0, none⟩) n cp) := HW3.out.at_ 3
    have l0 : w3.cell? ⟨Bl, i * 7, none⟩ = some (.int .u16 (osn : Int)) := hcl 0 (by omega)
    have l1 : w3.cell? ⟨Bl, i * 7 + 1, none⟩ = some (.int .u32 (oep : Int)) := hcl 1 (by omega)
    have l2 : w3.cell? ⟨Bl, i * 7 + 2, none⟩ = some (.int .u32 (odi : Int)) := hcl 2 (by omega)
    have l3 : w3.cell? ⟨Bl, i * 7 + 3, none⟩ = some (.int .u16 (oco : Int)) := hcl 3 (by omega)
    have l4 : w3.cell? ⟨Bl, i * 7 + 4, none⟩ = some (.int .u8 (ove : Int)) := hcl 4 (by omega)
    have l5 : w3.cell? ⟨Bl, i * 7 + 5, none⟩ = some (.int .i64 (oag : Int)) := hcl 5 (by omega)
    have l6 : w3.cell? ⟨Bl, i * 7 + 6, none⟩ = some (.pointer (some ⟨go, 0, none⟩)) := hcl 6 (by omega)
    obtain ⟨w4, hw4⟩ : ∃ W, w3.setRow q #[.int .u16 (osn : Int), .int .u32 (oep : Int), .int .u32 (odi : Int), .int .u16 (oco : Int), .int .u8 (ove : Int), .int .i64 (oag : Int), .pointer (some ⟨go, 0, none⟩)] = W := ⟨_, rfl⟩
    have HQ4 : Hid (Whole w4 q 64 #[.int .u16 (osn : Int), .int .u32 (oep : Int), .int .u32 (odi : Int), .int .u16 (oco : Int), .int .u8 (ove : Int), .int .i64 (oag : Int), .pointer (some ⟨go, 0, none⟩)]) := Lib.hid (by rw [← hw4]; exact HQ3.out.row _)
    have HB4 : Hid (Below q w3 w4) := Lib.hid (by rw [← hw4]; exact below_row (Below.refl _ _) (Nat.le_refl _) _)
    have HM4 : Hid (Mid w F (fun b => b = bx ∨ b = q) h m w4 (.slice (some ⟨Bl, 0, none⟩) n cp) L Fo) := Lib.hid (by
      have M1 : Mid w F (fun b => b = bx ∨ (b = pP ∨ b = q)) h m w4 (.slice (some ⟨Bl, 0, none⟩) n cp) L Fo := HM3.out.poke (q := q) (by rw [← hw4]; exact foot_row _ _ _) (.inr (.inr rfl)) (by omega)
      exact M1.less (fun b hb => by rcases hb with hb | hb; exact .inl hb; exact .inr (.inr hb)))
    have HX4 : Hid (Whole w4 bx 38 #[.int .u8 (kd : Int), .int .u8 (ve : Int), .int .u32 (ep : Int), .int .u32 (di : Int), .int .u16 (ix : Int), .int .u16 (co : Int), .slice A y c]) := Lib.hid (HGx3.out.below HB4.out (by omega))
    have HRO4 := Lib.hid (HM4.out.rp HMEM0.out)
    simp only at HRO4
    have b3 : w4.cell? ⟨q, 3, none⟩ = some (.int .u16 (oco : Int)) := HQ4.out.at_ 3
    have b4 : w4.cell? ⟨q, 4, none⟩ = some (.int .u8 (ove : Int)) := HQ4.out.at_ 4
    have b6 : w4.cell? ⟨q, 6, none⟩ = some (.pointer (some ⟨go, 0, none⟩)) := HQ4.out.at_ 6
    have x1' : w4.cell? ⟨bx, 1, none⟩ = some (.int .u8 (ve : Int)) := HX4.out.at_ 1
    have x4' : w4.cell? ⟨bx, 4, none⟩ = some (.int .u16 (ix : Int)) := HX4.out.at_ 4
    have x5' : w4.cell? ⟨bx, 5, none⟩ = some (.int .u16 (co : Int)) := HX4.out.at_ 5
    have x6' : w4.cell? ⟨bx, 6, none⟩ = some (.slice A y c) := HX4.out.at_ 6
    have b1 : w4.cell? ⟨h, 1, none⟩ = some (.int .i64 (m.by_ : Int)) := HM4.out.whole.at_ 1
    have h0i : (0 : Int) ≤ (i : Int) := by omega
    have HCUR := Lib.hid hcur
    have hcc : (Tm.cur (ones L) sn g).count = oco := by rw [hcur]
    have hcv' : (Tm.cur (ones L) sn g).version = ove := by rw [hcur]
    have HCC := Lib.hid hcc
    have HCV := Lib.hid hcv'
    have HFI := Lib.hid hf
    clear hcl hcur hcc hcv' HGx3 x1 x2 x3 x4 x5 x6 hf
    by_cases hcnt : oco = co
    case neg =>
      have hne : ((oco : Int) != (co : Int)) = true := by simp; omega
      have hnb : ((oco : Int) == (co : Int)) = false := by simp; omega
      have HPut := Lib.hid (put_form (m := m) (l := ones L) (sn := sn) (g := g) hbad (.inl (by rw [HCC.out, hco.out]; exact hcnt)))
      have HD := Lib.hid (HM4.out.done hlt.out)
      clear hcnt r
      go_enter Try.func12, Try.ntmps12
      go_wp2_with fail
      refine (FI.out).mono ?_
      rintro e wx ⟨rfl, rfl⟩
      go_wp2_with (first | (refine wpList_store_whole rfl rfl rfl rfl rfl HZ.out (oneW22 rfl) rfl (by simp [Value.oneCell']) ?_; rw [hw3]) | (refine wpList_store_whole rfl rfl rfl rfl rfl HQ3.out (oneW22 rfl) rfl (by simp [Value.oneCell']) ?_; rw [hw4]))
      go_ret3
      exact RputPost.of HPut.out ⟨rfl, HD.out⟩
    subst hcnt
    by_cases hver : ove = ve
    case neg =>
      have hne : ((ove : Int) != (ve : Int)) = true := by simp; omega
      have hnb : ((ove : Int) == (ve : Int)) = false := by simp; omega
      have HPut := Lib.hid (put_form (m := m) (l := ones L) (sn := sn) (g := g) hbad (.inr (by rw [HCV.out, hve.out]; exact hver)))
      have HD := Lib.hid (HM4.out.done hlt.out)
      clear hver r
      go_enter Try.func12, Try.ntmps12
      go_wp2_with fail
      refine (FI.out).mono ?_
      rintro e wx ⟨rfl, rfl⟩
      go_wp2_with (first | (refine wpList_store_whole rfl rfl rfl rfl rfl HZ.out (oneW22 rfl) rfl (by simp [Value.oneCell']) ?_; rw [hw3]) | (refine wpList_store_whole rfl rfl rfl rfl rfl HQ3.out (oneW22 rfl) rfl (by simp [Value.oneCell']) ?_; rw [hw4]))
      go_ret3
      exact RputPost.of HPut.out ⟨rfl, HD.out⟩
    subst hver
    have HF2 : Hid (¬ ((Tm.cur (ones L) sn g).count ≠ g.count ∨ (Tm.cur (ones L) sn g).version ≠ g.version)) := Lib.hid (by rw [HCC.out, HCV.out, hco.out, hve.out]; simp)
    have HH := Lib.hid (rhas21_any HRO4.out ix (by omega))
    have HSo : Hid ((Tm.cur (ones L) sn g).s = ops) := Lib.hid (by rw [HCUR.out])
    cases hhas : ops.has ix with
    | true =>
      rw [hhas] at HH
      have HPut := Lib.hid (put_twice (m := m) (l := ones L) (sn := sn) (g := g) hbad HF2.out (by rw [HSo.out, hix.out]; exact hhas))
      have HD := Lib.hid (HM4.out.done hlt.out)
      clear hhas r
      go_enter Try.func12, Try.ntmps12
      go_wp2_with fail
      refine (FI.out).mono ?_
      rintro e wx ⟨rfl, rfl⟩
      go_wp2_with (first | (refine wpList_store_whole rfl rfl rfl rfl rfl HZ.out (oneW22 rfl) rfl (by simp [Value.oneCell']) ?_; rw [hw3]) | (refine wpList_store_whole rfl rfl rfl rfl rfl HQ3.out (oneW22 rfl) rfl (by simp [Value.oneCell']) ?_; rw [hw4]))
      refine (HH.out).mono ?_
      rintro e wx ⟨rfl, rfl⟩
      go_wp2_with fail
      go_ret3
      exact RputPost.of HPut.out ⟨rfl, HD.out⟩
    | false =>
      rw [hhas] at HH
      have HF3 : Hid ((Tm.cur (ones L) sn g).s.has g.index = false) := Lib.hid (by rw [HSo.out, hix.out]; exact hhas)
      have hsm : ops.size ≤ m.by_ := Nat.le_trans (Tm.held_mem (l := ones L) (o := (⟨osn, oep, odi, oco, ove, oag, ops⟩ : Tm.One)) (List.mem_map.2 ⟨_, HMEM0.out, rfl⟩)) hok.few
      have hby2 := hm.by2
      have SZ : Hid (∀ k, Calls Try.prog 30 #[.pointer (some ⟨go, 0, none⟩)] (w4.drewN k) fun e w' => e = .returned (.int .i64 (ops.size : Int)) ∧ w' = w4.drewN k) := Lib.hid (fun k => (rsize21_any (HRO4.out.drewN k) (by omega)).mono fun e w' ⟨e1, e2⟩ => ⟨e1, e2.symm⟩)
      obtain ⟨z, hz⟩ : ∃ x, Hid (ops.size = x) := ⟨_, Lib.hid rfl⟩
      rw [hz.out] at hsm SZ
      have hwy : IntKind.i64.wrap ((z : Int) + (y : Int)) = ((z + y : Nat) : Int) := by rw [IntKind.wrap_i64]; omega
      obtain ⟨zy, hzy⟩ : ∃ x, z + y = x := ⟨_, rfl⟩
      have HZY := Lib.hid hzy
      rw [hzy] at hwy
      by_cases hbig : m.by_ < zy
      · have HPut := Lib.hid (put_full (m := m) (l := ones L) (sn := sn) (g := g) hbad HF2.out HF3.out (by rw [HSo.out, hz.out, hy.out, HZY.out]; exact hbig))
        have hd : decide ((m.by_ : Int) < (zy : Int)) = true := decide_eq_true (by omega)
        have WO := Lib.hid (fun k => mid_without (HM4.out.drewN k) hLn (i : Int) i (.inl rfl))
        have HW2 : Hid (ones (L.eraseIdx i) = Tm.wo (ones L) (sn, g.epoch, g.id)) := Lib.hid (by
          rw [ones_erase]
          unfold Tm.wo
          rw [hep.out, hdi.out, HFI.out])
        obtain ⟨by_, hby⟩ : ∃ x, Hid (m.by_ = x) := ⟨_, Lib.hid rfl⟩
        rw [hby.out] at hd hbig b1 hsm hby2
        clear hhas r hzy
        go_enter Try.func12, Try.ntmps12
        go_wp2_with fail
        refine (FI.out).mono ?_
        rintro e wx ⟨rfl, rfl⟩
        go_wp2_with (first | (refine wpList_store_whole rfl rfl rfl rfl rfl HZ.out (oneW22 rfl) rfl (by simp [Value.oneCell']) ?_; rw [hw3]) | (refine wpList_store_whole rfl rfl rfl rfl rfl HQ3.out (oneW22 rfl) rfl (by simp [Value.oneCell']) ?_; rw [hw4]))
        refine (HH.out).mono ?_
        rintro e wx ⟨rfl, rfl⟩
        go_wp2_with fail
        go_quiet (with_reducible exact Calls.quiet_of_same (SZ.out _))
        go_wp2_with fail
        refine (WO.out nq).mono ?_
        rintro e w5 ⟨rfl, v5, M5, _, _, _⟩
        have HD := Lib.hid (M5.done hlt.out)
        rw [HW2.out] at HD
        clear M5
        go_wp2_with fail
        go_ret3
        exact RputPost.of HPut.out ⟨rfl, HD.out⟩
      · have HY := Lib.hid hbig
        have hd : decide ((m.by_ : Int) < (zy : Int)) = false := decide_eq_false (by omega)
        have HBYS := Lib.hid hsm
        obtain ⟨by_, hby⟩ : ∃ x, Hid (m.by_ = x) := ⟨_, Lib.hid rfl⟩
        rw [hby.out] at hd hbig b1 hsm hby2
        clear hhas hzy
        go_enter Try.func12, Try.ntmps12
        go_wp2_with fail
        refine (FI.out).mono ?_
        rintro e wx ⟨rfl, rfl⟩
        go_wp2_with (first | (refine wpList_store_whole rfl rfl rfl rfl rfl HZ.out (oneW22 rfl) rfl (by simp [Value.oneCell']) ?_; rw [hw3]) | (refine wpList_store_whole rfl rfl rfl rfl rfl HQ3.out (oneW22 rfl) rfl (by simp [Value.oneCell']) ?_; rw [hw4]))
        refine (HH.out).mono ?_
        rintro e wx ⟨rfl, rfl⟩
        go_wp2_with fail
        go_quiet (with_reducible exact Calls.quiet_of_same (SZ.out _))
        obtain ⟨wC, hwC⟩ : ∃ W, w4.drewN nq = W := ⟨_, rfl⟩
        have HMC : Hid (Mid w F (fun b => b = bx ∨ b = q) h m wC (.slice (some ⟨Bl, 0, none⟩) n cp) L Fo) := Lib.hid (by rw [← hwC]; exact HM4.out.drewN nq)
        have HQC : Hid (Whole wC q 64 #[.int .u16 (osn : Int), .int .u32 (oep : Int), .int .u32 (odi : Int), .int .u16 (oco : Int), .int .u8 (ove : Int), .int .i64 (oag : Int), .pointer (some ⟨go, 0, none⟩)]) := Lib.hid (by rw [← hwC]; exact HQ4.out)
        have HXC : Hid (Whole wC bx 38 #[.int .u8 (kd : Int), .int .u8 (ove : Int), .int .u32 (ep : Int), .int .u32 (di : Int), .int .u16 (ix : Int), .int .u16 (oco : Int), .slice A y c]) := Lib.hid (by rw [← hwC]; exact HX4.out)
        have HMEM := HMEM0
        rw [hwC]
        clear hwC
        have HF4 : Hid (¬ m.by_ < (Tm.cur (ones L) sn g).s.size + g.body.length) := Lib.hid (by rw [HSo.out, hz.out, hy.out, HZY.out]; exact HY.out)
        have HOO : Hid (Tm.One.putS (ix : Int) g.body (⟨osn, oep, odi, oco, ove, oag, ops⟩ : Tm.One) = (Tm.cur (ones L) sn g).plus g) := Lib.hid (by
          rw [HCUR.out, ← hix.out]
          exact putS_plus (by show g.index < ops.count; have h1 := hbad'.out; have h2 : ops.count = oco := hopc; have h3 := hco.out; omega) (by have := HF3.out; rw [HSo.out] at this; exact this))
        have HOP : Hid (ones (turned go (Tm.One.putS (ix : Int) g.body) L) = Tm.opened m (ones L) (sn, g.epoch, g.id) ((Tm.cur (ones L) sn g).plus g)) := Lib.hid (by
          rw [turned_set _ L i hiL HMC.out.once (by rw [ho.out]), Tm.opened_some (by rw [hep.out, hdi.out]; exact HFI.out), ho.out, HOO.out])
        obtain ⟨RR, hRR⟩ : ∃ R, Hid (Tm.shrink m.by_ (sn, g.epoch, g.id) (Tm.opened m (ones L) (sn, g.epoch, g.id) ((Tm.cur (ones L) sn g).plus g)).length (Tm.opened m (ones L) (sn, g.epoch, g.id) ((Tm.cur (ones L) sn g).plus g)) = R) := ⟨_, Lib.hid rfl⟩
        have HSHR : Hid (Shr m.by_ (sn, g.epoch, g.id) RR ((Tm.cur (ones L) sn g).plus g) go (turned go (Tm.One.putS (ix : Int) g.body) L)) := Lib.hid
          ⟨⟨_, by rw [HOP.out]; exact hRR.out, by rw [HOP.out]; exact Nat.le_refl _⟩, by rw [← HOO.out]; exact turned_has _ HMEM.out, Tm.cur_key, by rw [Tm.plus_size, HSo.out, hz.out, hy.out, HZY.out]; have := HY.out; omega, by rw [HOP.out]; exact Tm.opened_keys hok Tm.cur_key, by rw [turned_snd]; exact HMC.out.once⟩
        have HLEN : Hid ((turned go (Tm.One.putS (ix : Int) g.body) L).length ≤ 1000 ∧ Tm.held (ones (turned go (Tm.One.putS (ix : Int) g.body) L)) ≤ 100000000) := Lib.hid ⟨by rw [turned_len]; exact hLn, by
          rw [HOP.out]
          refine Nat.le_trans (Tm.held_opened hok) ?_
          rw [Tm.plus_size, HSo.out, hz.out, hy.out, HZY.out]
          have h1 := HY.out
          have h2 := hm.by2
          omega⟩
        have y6 : wC.cell? ⟨q, 6, none⟩ = some (.pointer (some ⟨go, 0, none⟩)) := HQC.out.at_ 6
        have x4 : wC.cell? ⟨bx, 4, none⟩ = some (.int .u16 (ix : Int)) := HXC.out.at_ 4
        have x6 : wC.cell? ⟨bx, 6, none⟩ = some (.slice A y c) := HXC.out.at_ 6
        have hcv : (convert 36 9 (.slice A y c)).run Try.prog wC = .ok (.string (strOf g.body)) wC := (HPi.out wC HMC.out.foot).conv
        have AD := Lib.hid (mid_add HMC.out HMEM.out (ix : Int) (by omega) (by omega) (Txt.of HG.out.body))
        obtain ⟨er, her⟩ : ∃ x : Nat, Hid ((⟨osn, oep, odi, oco, ove, oag, ops⟩ : Tm.One).s.err (ix : Int) = x) := ⟨_, Lib.hid rfl⟩
        rw [her.out] at AD
        obtain ⟨u6, hu6⟩ : ∃ x, Hid (strOf g.body = x) := ⟨_, Lib.hid rfl⟩
        rw [hu6.out] at AD hcv
        go_wp2_with fail
        refine (AD.out).mono ?_
        rintro e wD ⟨rfl, ⟨Fo2, MD⟩, hsame, hzD⟩
        have HMD := Lib.hid MD
        have HQD : Hid (Whole wD q 64 #[.int .u16 (osn : Int), .int .u32 (oep : Int), .int .u32 (odi : Int), .int .u16 (oco : Int), .int .u8 (ove : Int), .int .i64 (oag : Int), .pointer (some ⟨go, 0, none⟩)]) := Lib.hid (HQC.out.same (hsame q (.inr rfl)))
        have HXD : Hid (Whole wD bx 38 #[.int .u8 (kd : Int), .int .u8 (ove : Int), .int .u32 (ep : Int), .int .u32 (di : Int), .int .u16 (ix : Int), .int .u16 (oco : Int), .slice A y c]) := Lib.hid (HXC.out.same (hsame bx (.inl rfl)))
        clear MD hsame hzD y6 x4 x6 hcv
        go_wp2_with fail
        go_loopw [11] (fun u wr => ∃ (v : Value) (L' : List (Tm.One × Nat)) (Fo' : Nat → Nat → Prop), Hid (Mid w F (fun b => b = bx ∨ b = q) h m wr v L' Fo') ∧ Hid (Shr m.by_ (sn, g.epoch, g.id) RR ((Tm.cur (ones L) sn g).plus g) go L') ∧ Hid (L'.length ≤ 1000 ∧ Tm.held (ones L') ≤ 100000000) ∧ Hid (Whole wr q 64 #[.int .u16 (osn : Int), .int .u32 (oep : Int), .int .u32 (odi : Int), .int .u16 (oco : Int), .int .u8 (ove : Int), .int .i64 (oag : Int), .pointer (some ⟨go, 0, none⟩)]) ∧ Hid (Whole wr bx 38 #[.int .u8 (kd : Int), .int .u8 (ove : Int), .int .u32 (ep : Int), .int .u32 (di : Int), .int .u16 (ix : Int), .int .u16 (oco : Int), .slice A y c])) (fun _ wr => lenIn wr h)
        case atStart => exact ⟨_, _, _, HMD, HSHR, HLEN, HQD, HXD⟩
        case round =>
          obtain ⟨vr, L', Fo', HMr, HSr, HLr, HQr, HXr⟩ := hrel
          obtain ⟨Ar, cr, rfl, hler, hmr⟩ := HMr.out.shape
          have hl3 : wr.cell? ⟨h, 3, none⟩ = some (.slice Ar L'.length cr) := HMr.out.whole.at_ 3
          have hl1 : wr.cell? ⟨h, 1, none⟩ = some (.int .i64 (m.by_ : Int)) := HMr.out.whole.at_ 1
          have y6 : wr.cell? ⟨q, 6, none⟩ = some (.pointer (some ⟨go, 0, none⟩)) := HQr.out.at_ 6
          have hpos := HSr.out.pos
          have HMn : Hid (lenIn wr h = L'.length) := Lib.hid (by unfold lenIn; rw [hl3])
          have HEL := Lib.hid (fun k => mid_held (HMr.out.drewN k) HLr.out.1 (Nat.le_trans HLr.out.2 (by decide)))
          obtain ⟨hd', hhd⟩ : ∃ x, Hid (Tm.held (ones L') = x) := ⟨_, Lib.hid rfl⟩
          rw [hhd.out] at HEL
          obtain ⟨bb, hbb⟩ : ∃ x, Hid (m.by_ = x) := ⟨_, Lib.hid rfl⟩
          rw [hbb.out] at hl1
          unfold maxLen at hmr
          by_cases hmore : bb < hd'
          · have hd1 : decide ((bb : Int) < (hd' : Int)) = true := decide_eq_true (by omega)
            have hnl : ¬ Tm.held (ones L') ≤ m.by_ := by rw [hhd.out, hbb.out]; omega
            have HNL := Lib.hid hnl
            obtain ⟨B0, e0, hB0, hc0⟩ := HMr.out.cells hpos
            have hp6 : wr.cell? ⟨B0, 6, none⟩ = some (.pointer (some ⟨(L'[0]'hpos).2, 0, none⟩)) := hc0 6 (by omega)
            cases e0
            have HT := Lib.hid (fun hg => HSr.out.this hnl hpos hg)
            have HOt := Lib.hid (fun hg => HSr.out.other hnl hpos hg)
            obtain ⟨g0, hg0⟩ : ∃ x, Hid ((L'[0]'hpos).2 = x) := ⟨_, Lib.hid rfl⟩
            have HRP0 := Lib.hid (HMr.out.rp (List.getElem_mem hpos))
            have HRPo := Lib.hid (HMr.out.rp HSr.out.mem)
            rw [hg0.out] at hp6 HT HOt HRP0
            have WO := Lib.hid (fun (W : World) (hW : Below wr.heap.size wr W) (a : Nat) => mid_without (HMr.out.stay hW) HLr.out.1 (a : Int) a (.inl rfl))
            have HER : Hid (∀ a, (L'.eraseIdx a).length ≤ 1000 ∧ Tm.held (ones (L'.eraseIdx a)) ≤ 100000000) := Lib.hid (fun a => ⟨Nat.le_trans (List.length_eraseIdx_le ..) HLr.out.1, Nat.le_trans (Tm.held_sub (by rw [ones_erase]; exact List.eraseIdx_sublist _ _)) HLr.out.2⟩)
            have HDEC : Hid (∀ a, a < L'.length → (L'.eraseIdx a).length < L'.length) := Lib.hid (fun a ha => by rw [List.length_eraseIdx_of_lt ha]; omega)
            obtain ⟨nl, hnl'⟩ : ∃ x, Hid (L'.length = x) := ⟨_, Lib.hid rfl⟩
            have hposn : 0 < nl := by rw [← hnl'.out]; exact hpos
            rw [hnl'.out] at hl3 hler
            clear hnl hc0
            by_cases hgg : g0 = go
            · obtain ⟨hl2, HS2⟩ := HT.out hgg
              have HS2 := Lib.hid HS2
              have HL2 := Lib.hid hl2
              subst hgg
              clear hl2
              go_wp2_with fail
              go_quiet (with_reducible exact Calls.quiet_of_same (HEL.out _))
              obtain ⟨wE, hwE⟩ : ∃ W, wr.drewN nq = W := ⟨_, rfl⟩
              have hl3 : wE.cell? ⟨h, 3, none⟩ = some (.slice (some ⟨B0, 0, none⟩) nl cr) := by rw [← hwE]; exact hl3
              have y6 : wE.cell? ⟨q, 6, none⟩ = some (.pointer (some ⟨g0, 0, none⟩)) := by rw [← hwE]; exact y6
              have hp6 : wE.cell? ⟨B0, 6, none⟩ = some (.pointer (some ⟨g0, 0, none⟩)) := by rw [← hwE]; exact hp6
              have HBE : Hid (Below wr.heap.size wr wE) := Lib.hid (by rw [← hwE]; exact below_draws _ _ _)
              have hpe : ∀ k, (binOp .eql 62 (.pointer (some ⟨g0, 0, none⟩)) (.pointer (some ⟨g0, 0, none⟩))).run Try.prog (wE.drewN k) = .ok (.bool true) (wE.drewN k) := fun k => by exact ptr_same21 _ _
              clear hpe
              have hpe := fun W => ptr_same21 W g0
              rw [hwE]
              clear hwE
              go_wp2_with fail
              go_quiet (fail)
              obtain ⟨wG, hwG⟩ : ∃ W, wE.drewN nq = W := ⟨_, rfl⟩
              have HBG : Hid (Below wr.heap.size wr wG) := Lib.hid (by rw [← hwG]; exact HBE.out.trans (below_draws _ _ _))
              rw [hwG]
              have WOa := Lib.hid (WO.out wG HBG.out 1)
              clear hwG
              go_wp2_with fail
              refine (WOa.out).mono ?_
              rintro e wH ⟨rfl, vH, MH, _, hsame, hzH⟩
              have HMH := Lib.hid MH
              have hq1 := HQr.out.lt
              have hx1 := HXr.out.lt
              have HQH : Hid (Whole wH q 64 #[.int .u16 (osn : Int), .int .u32 (oep : Int), .int .u32 (odi : Int), .int .u16 (oco : Int), .int .u8 (ove : Int), .int .i64 (oag : Int), .pointer (some ⟨g0, 0, none⟩)]) := Lib.hid ((HQr.out.below HBG.out hq1).same (hsame q (.inr rfl)))
              have HXH : Hid (Whole wH bx 38 #[.int .u8 (kd : Int), .int .u8 (ove : Int), .int .u32 (ep : Int), .int .u32 (di : Int), .int .u16 (ix : Int), .int .u16 (oco : Int), .slice A y c]) := Lib.hid ((HXr.out.below HBG.out hx1).same (hsame bx (.inl rfl)))
              have HMm : Hid (lenIn wH h < nl) := Lib.hid (by
                obtain ⟨AH, cH, eH, _, _⟩ := HMH.out.shape
                have hl := HMH.out.whole.at_ 3
                rw [eH] at hl
                have hdec := HDEC.out 1 (by exact HL2.out)
                rw [← hnl'.out]
                unfold lenIn
                rw [show wH.cell? ⟨h, 3, none⟩ = some (.slice AH (L'.eraseIdx 1).length cH) from hl]
                exact hdec)
              clear MH hsame hzH
              go_wp2_with fail
              go_roundw
              case rel => exact ⟨_, _, _, HMH, HS2, Lib.hid (HER.out 1), HQH, HXH⟩
              case measure => rw [HMn.out, hnl'.out]; exact HMm.out
            · have HS2 := Lib.hid (HOt.out hgg)
              have hgg2 : ¬ go = g0 := fun e => hgg e.symm
              go_wp2_with fail
              go_quiet (with_reducible exact Calls.quiet_of_same (HEL.out _))
              obtain ⟨wE, hwE⟩ : ∃ W, wr.drewN nq = W := ⟨_, rfl⟩
              have hl3 : wE.cell? ⟨h, 3, none⟩ = some (.slice (some ⟨B0, 0, none⟩) nl cr) := by rw [← hwE]; exact hl3
              have y6 : wE.cell? ⟨q, 6, none⟩ = some (.pointer (some ⟨go, 0, none⟩)) := by rw [← hwE]; exact y6
              have hp6 : wE.cell? ⟨B0, 6, none⟩ = some (.pointer (some ⟨g0, 0, none⟩)) := by rw [← hwE]; exact hp6
              have HBE : Hid (Below wr.heap.size wr wE) := Lib.hid (by rw [← hwE]; exact below_draws _ _ _)
              have hpe : ∀ k, (binOp .eql 62 (.pointer (some ⟨g0, 0, none⟩)) (.pointer (some ⟨go, 0, none⟩))).run Try.prog (wE.drewN k) = .ok (.bool false) (wE.drewN k) := fun k => by rw [← hwE]; exact ptr_other21 ((HRP0.out.drewN nq).drewN k) ((HRPo.out.drewN nq).drewN k) hgg
              have hpe0 := hpe 0
              rw [hwE]
              clear hwE
              go_wp2_with fail
              go_quiet (fail)
              obtain ⟨wG, hwG⟩ : ∃ W, wE.drewN nq = W := ⟨_, rfl⟩
              have HBG : Hid (Below wr.heap.size wr wG) := Lib.hid (by rw [← hwG]; exact HBE.out.trans (below_draws _ _ _))
              rw [hwG]
              have WOa := Lib.hid (WO.out wG HBG.out 0)
              clear hwG
              go_wp2_with fail
              refine (WOa.out).mono ?_
              rintro e wH ⟨rfl, vH, MH, _, hsame, hzH⟩
              have HMH := Lib.hid MH
              have hq1 := HQr.out.lt
              have hx1 := HXr.out.lt
              have HQH : Hid (Whole wH q 64 #[.int .u16 (osn : Int), .int .u32 (oep : Int), .int .u32 (odi : Int), .int .u16 (oco : Int), .int .u8 (ove : Int), .int .i64 (oag : Int), .pointer (some ⟨go, 0, none⟩)]) := Lib.hid ((HQr.out.below HBG.out hq1).same (hsame q (.inr rfl)))
              have HXH : Hid (Whole wH bx 38 #[.int .u8 (kd : Int), .int .u8 (ove : Int), .int .u32 (ep : Int), .int .u32 (di : Int), .int .u16 (ix : Int), .int .u16 (oco : Int), .slice A y c]) := Lib.hid ((HXr.out.below HBG.out hx1).same (hsame bx (.inl rfl)))
              have HMm : Hid (lenIn wH h < nl) := Lib.hid (by
                obtain ⟨AH, cH, eH, _, _⟩ := HMH.out.shape
                have hl := HMH.out.whole.at_ 3
                rw [eH] at hl
                have hdec := HDEC.out 0 (by rw [hnl'.out]; exact hposn)
                rw [← hnl'.out]
                unfold lenIn
                rw [show wH.cell? ⟨h, 3, none⟩ = some (.slice AH (L'.eraseIdx 0).length cH) from hl]
                exact hdec)
              clear MH hsame hzH
              go_wp2_with fail
              go_roundw
              case rel => exact ⟨_, _, _, HMH, HS2, Lib.hid (HER.out 0), HQH, HXH⟩
              case measure => rw [HMn.out, hnl'.out]; exact HMm.out
          · have hd1 : decide ((bb : Int) < (hd' : Int)) = false := decide_eq_false (by omega)
            have hEnd := HSr.out.end_ (by rw [hhd.out, hbb.out]; omega)
            have HEnd := Lib.hid hEnd
            have hfew := HLr.out.2
            have HWh := Lib.hid (fun k => mid_whole (HMr.out.drewN k) HSr.out.mem (Nat.le_trans (Tm.held_mem (List.mem_map.2 ⟨_, HSr.out.mem, rfl⟩)) (Nat.le_trans HLr.out.2 (by decide))))
            obtain ⟨td, htd⟩ : ∃ x, Hid (((Tm.cur (ones L) sn g).plus g).s.told = x) := ⟨_, Lib.hid rfl⟩
            obtain ⟨fl, hfl⟩ : ∃ x, Hid (((Tm.cur (ones L) sn g).plus g).s.full = x) := ⟨_, Lib.hid rfl⟩
            rw [htd.out, hfl.out] at HWh
            have hput := put_good hbad HF2.out HF3.out HF4.out hRR.out
            rw [hfl.out] at hput
            have htold : ((Tm.cur (ones L) sn g).plus g).s.told = if ((Tm.cur (ones L) sn g).plus g).s.full then ((Tm.cur (ones L) sn g).plus g).s.whole else [] := rfl
            rw [htd.out, hfl.out] at htold
            have HPut := Lib.hid hput
            have HTold := Lib.hid htold
            clear hput htold hEnd hfew
            go_wp2_with fail
            go_quiet (with_reducible exact Calls.quiet_of_same (HEL.out _))
            go_wp2_with fail
            refine (HWh.out nq).mono ?_
            rintro e wF ⟨rfl, q2, rfl⟩
            cases fl with
            | false =>
              rw [if_neg (by decide)] at HPut HTold
              have HD := Lib.hid ((HMr.out.drewN (nq + q2)).done hlt.out)
              rw [HEnd.out] at HD
              have htd0 := HTold.out
              subst htd0
              go_wp2_with fail
              go_ret3
              exact RputPost.of HPut.out ⟨rfl, HD.out⟩
            | true =>
              rw [if_pos rfl] at HPut HTold
              obtain ⟨j, hj⟩ : ∃ j, Tm.find (ones L') (sn, ep, di) = some j := by
                cases e : Tm.find (ones L') (sn, ep, di) with
                | some j => exact ⟨j, rfl⟩
                | none => exact absurd (by rw [← hep.out, ← hdi.out]; exact HSr.out.key) (Tm.find_none e _ (List.mem_map.2 ⟨_, HSr.out.mem, rfl⟩))
              have HJ := Lib.hid hj
              obtain ⟨wX, hwX⟩ : ∃ W, wr.drewN (nq + q2) = W := ⟨_, rfl⟩
              have HMX : Hid (Mid w F (fun b => b = bx ∨ b = q) h m wX (.slice Ar L'.length cr) L' Fo') := Lib.hid (by rw [← hwX]; exact HMr.out.drewN _)
              have x2 : wX.cell? ⟨bx, 2, none⟩ = some (.int .u32 (ep : Int)) := by rw [← hwX]; exact HXr.out.at_ 2
              have x3 : wX.cell? ⟨bx, 3, none⟩ = some (.int .u32 (di : Int)) := by rw [← hwX]; exact HXr.out.at_ 3
              have FI2 := Lib.hid (mid_find HMX.out HLr.out.1 sn ep di)
              rw [hj] at FI2
              simp only [placeI] at FI2
              have WO2 := Lib.hid (mid_without HMX.out HLr.out.1 (j : Int) j (.inl rfl))
              have HW2 : Hid (ones (L'.eraseIdx j) = Tm.wo RR (sn, g.epoch, g.id)) := Lib.hid (by
                rw [ones_erase, HEnd.out]
                unfold Tm.wo
                rw [hep.out, hdi.out, ← HEnd.out, hj])
              rw [World.drewN_drewN, hwX]
              clear hwX hj
              go_wp2_with fail
              refine (FI2.out).mono ?_
              rintro e wY ⟨rfl, rfl⟩
              go_wp2_with fail
              refine (WO2.out).mono ?_
              rintro e wZ ⟨rfl, vZ, MZ, _, _, _⟩
              have HD := Lib.hid (MZ.done hlt.out)
              rw [HW2.out] at HD
              have htd0 := HTold.out
              clear MZ
              subst htd0
              go_wp2_with fail
              go_ret3
              exact RputPost.of HPut.out ⟨rfl, HD.out⟩
end Go.Proofs.Ytkpmlhhoijijhaa
