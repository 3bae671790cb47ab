/- Contracts of package room: begin, fault, what is struck, discard. -/
import Derived.Test.YtbhdgfpaoghnbaaFc22a
namespace Go.Proofs.Ytbhdgfpaoghnbaa
open Go.RowKit
set_option linter.unusedVariables false
set_option maxRecDepth 100000
set_option linter.unusedSimpArgs false

set_option maxHeartbeats 1000000 in
theorem tbegin22_any {w : World} {B : Nat} {v : Value} {g : Gd} (sn : Nat) (H : Gv w B g v) (hc : 1 ≤ g.count) :
    Calls Try.prog 36 #[.int .u16 (sn : Int), v] w fun e w' => ∃ b, e = .returned (pt b) ∧ Mg w' (fun x => w.heap.size ≤ x ∧ x < w'.heap.size) b (Tm.fresh sn g) ∧ Below w.heap.size w w' := by
  obtain ⟨bx, A, c, w0, rfl, hbx, hal, hsz0, hGx, hB0⟩ := boxedG H
  have hco := H.ok.count
  obtain ⟨c0, c1, c2, c3, c4, c5, c6⟩ := hGx.cells
  have HGX := Lib.hid (fun W (hW : Below w0.heap.size w0 W) => (hGx.kept hW).cells)
  have hwc : IntKind.i64.wrap (g.count : Int) = (g.count : Int) := by rw [IntKind.wrap_i64]; omega
  have C := Lib.hid (fun W => pnew21_any g.count hc (by omega) W)
  have HF : Hid (Tm.fresh sn g = ⟨sn, g.epoch, g.id, g.count, g.version, 0, ⟨g.count, []⟩⟩) := Lib.hid rfl
  have HB00 := Lib.hid hB0
  rw [HF.out]
  obtain ⟨kd, hkd⟩ : ∃ x, Hid (g.kind = x) := ⟨_, Lib.hid rfl⟩
  obtain ⟨ve, hve⟩ : ∃ x, Hid (g.version = x) := ⟨_, Lib.hid rfl⟩
  obtain ⟨ep, hep⟩ : ∃ x, Hid (g.epoch = x) := ⟨_, Lib.hid rfl⟩
  obtain ⟨di, hdi⟩ : ∃ x, Hid (g.id = x) := ⟨_, Lib.hid rfl⟩
  obtain ⟨ix, hix⟩ : ∃ x, Hid (g.index = x) := ⟨_, Lib.hid rfl⟩
  obtain ⟨co, hco'⟩ : ∃ x, Hid (g.count = x) := ⟨_, Lib.hid rfl⟩
  obtain ⟨y, hy⟩ : ∃ x, Hid (g.body.length = x) := ⟨_, Lib.hid rfl⟩
  rw [hkd.out, hve.out, hep.out, hdi.out, hix.out, hco'.out, hy.out]
  rw [hkd.out, hve.out, hep.out, hdi.out, hix.out, hco'.out, hy.out] at hal HGX
  rw [hve.out] at c1
  rw [hep.out] at c2
  rw [hdi.out] at c3
  rw [hco'.out] at c5 C hwc hco
  clear c0 c4 c6 hGx hB0 H hc HF
  go_enter Try.func36, Try.ntmps36
  go_wp2_with fail
  refine (C.out _).mono ?_
  rintro e w1 ⟨q, rfl, hpt, hb1⟩
  have HP := Lib.hid hpt
  have HB1 := Lib.hid hb1
  obtain ⟨k0, k1, k2, k3, k4, k5, k6⟩ := HGX.out w1 hb1
  obtain ⟨p, hp⟩ : ∃ p, w1.heap.size = p := ⟨_, rfl⟩
  have hW : Whole (w1.alloc (.cells #[.int .u16 (sn : Int), .int .u32 (ep : Int), .int .u32 (di : Int), .int .u16 (co : Int), .int .u8 (ve : Int), .int .i64 0, pt q] 82)) w1.heap.size 82 #[.int .u16 (sn : Int), .int .u32 (ep : Int), .int .u32 (di : Int), .int .u16 (co : Int), .int .u8 (ve : Int), .int .i64 0, pt q] := Whole.made _ _ _
  have HW := Lib.hid hW
  have HBA : Hid (Below w1.heap.size w1 (w1.alloc (.cells #[.int .u16 (sn : Int), .int .u32 (ep : Int), .int .u32 (di : Int), .int .u16 (co : Int), .int .u8 (ve : Int), .int .i64 0, pt q] 82))) := Lib.hid ((Below.refl _ _).alloc (Nat.le_refl _) _)
  have HSZ : Hid ((w1.alloc (.cells #[.int .u16 (sn : Int), .int .u32 (ep : Int), .int .u32 (di : Int), .int .u16 (co : Int), .int .u8 (ve : Int), .int .i64 0, pt q] 82)).heap.size = w1.heap.size + 1) := Lib.hid (World.size_alloc ..)
  have HZ : Hid (w.heap.size ≤ w0.heap.size ∧ w0.heap.size ≤ w1.heap.size) := Lib.hid ⟨by omega, hb1.size⟩
  have HBx := Lib.hid hbx
  have HS0 := Lib.hid hsz0
  clear hpt hb1 hW c1 c2 c3 c5 k0 k4 k6 hp hbx hsz0
  go_wp2_with fail
  go_ret
  refine ⟨_, rfl, ⟨q, _, ⟨HW.out, HP.out.keep (fun x hx => HBA.out.block x hx.2), fun x hx => ⟨⟨by have := HZ.out; have := hx.1; omega, by have := hx.2; rw [World.size_alloc]; omega⟩, by have := hx.2; omega⟩, ⟨by have := HZ.out; omega, by rw [World.size_alloc]; omega⟩, fun x hx => hx.2⟩⟩, ?_⟩
  have hb := HB00.out
  rw [← HBx.out] at hb
  exact (hb.trans (HB1.out.mono HZ.out.1)).trans (HBA.out.mono (by have := HZ.out; omega))
theorem quiet_far {P : Program} {f : FuncId} {args : Array Value} {w : World} {k n : Nat} {v : Value}
    (h : Calls P f args (w.drewN (k + n)) fun e w' => e = .returned v ∧ w' = w.drewN (k + n)) : Calls P f args (w.drewN (k + n)) fun e w'' => e = .returned v ∧ ∃ m, w'' = w.drewN (k + m) :=
  h.mono fun _ _ ⟨he, hm⟩ => ⟨he, n, hm⟩
/-- what fault answers -/
def Tm.faultN (by_ : Nat) (o : Tm.One) (g : Gd) : Nat :=
  if o.count ≠ g.count ∨ o.version ≠ g.version then 3 else if o.s.has g.index then 12 else if by_ < o.s.size + g.body.length then 10 else 0
set_option maxHeartbeats 2000000 in
theorem tfault22_any {w : World} {F : Nat → Prop} {h b B by_ : Nat} {o : Tm.One} {v : Value} {g : Gd} (M : Mg w F b o) (hby : w.cell? ⟨h, 1, none⟩ = some (.int .i64 (by_ : Int))) (hb64 : by_ ≤ 65536) (H : Gv w B g v) (hl : g.body.length ≤ 1000000) (hs : o.s.size ≤ 1000000) :
    Calls Try.prog 37 #[pt h, pt b, v] w fun e w' => e = .returned (.int .i64 (Tm.faultN by_ o g : Int)) ∧ Below w.heap.size w w' := by
  obtain ⟨q, G, M⟩ := M
  obtain ⟨bx, A, c, w0, rfl, hbx, hal, hsz0, hGx, hB0⟩ := boxedG H
  have hgo := H.ok
  have hB0' : Below w.heap.size w w0 := by rw [hbx]; exact hB0
  have HB0 := Lib.hid hB0'
  have HM : Hid (∀ W, Below w0.heap.size w0 W → MsAt W F b q G o) := Lib.hid (fun W hW => M.keep (fun x hx => (hB0'.trans (hW.mono hB0'.size)).block x (M.lt x hx)))
  have HX : Hid (∀ W, Below w0.heap.size w0 W → Gx W bx g A c) := Lib.hid (fun W hW => hGx.kept hW)
  have HY : Hid (∀ W, Below w0.heap.size w0 W → W.cell? ⟨h, 1, none⟩ = some (.int .i64 (by_ : Int))) := Lib.hid (fun W hW => ((hB0'.trans (hW.mono hB0'.size)).cell (p := ⟨h, 1, none⟩) (World.block_lt_of_cell? w _ hby)).trans hby)
  have M0 := HM.out w0 (Below.refl _ _)
  have m3 := M0.whole.at_ 3
  have m4 := M0.whole.at_ 4
  obtain ⟨c0, c1, c2, c3, c4, c5, c6⟩ := hGx.cells
  obtain ⟨gk, gv, ge, gi, gx, gc, gb⟩ := hgo
  have HS := Lib.hid (fun W (hW : Below w0.heap.size w0 W) => psize21_eq (HM.out W hW).parts (by omega))
  have HH := Lib.hid (fun W (hW : Below w0.heap.size w0 W) => phas21_eq (HM.out W hW).parts g.index (by omega))
  obtain ⟨z, hz⟩ : ∃ x, Hid (o.s.size = x) := ⟨_, Lib.hid rfl⟩
  obtain ⟨hs', hhs⟩ : ∃ x, Hid (o.s.has g.index = x) := ⟨_, Lib.hid rfl⟩
  obtain ⟨oc, hoc⟩ : ∃ x, Hid (o.count = x) := ⟨_, Lib.hid rfl⟩
  obtain ⟨ov, hov⟩ : ∃ x, Hid (o.version = x) := ⟨_, Lib.hid rfl⟩
  have hm3 : w0.cell? ⟨b, 3, none⟩ = some (.int .u16 (oc : Int)) := by rw [← hoc.out]; exact m3
  have hm4 : w0.cell? ⟨b, 4, none⟩ = some (.int .u8 (ov : Int)) := by rw [← hov.out]; exact m4
  have HM6 : Hid (∀ W, Below w0.heap.size w0 W → W.cell? ⟨b, 6, none⟩ = some (pt q)) := Lib.hid (fun W hW => (HM.out W hW).whole.at_ 6)
  rw [hz.out] at HS hs
  rw [hhs.out] at HH
  have HR : Hid (Tm.faultN by_ o g = if oc ≠ g.count ∨ ov ≠ g.version then 3 else if hs' then 12 else if by_ < z + g.body.length then 10 else 0) := Lib.hid (by unfold Tm.faultN; rw [hz.out, hhs.out, hoc.out, hov.out])
  rw [HR.out]
  obtain ⟨kd, hkd⟩ : ∃ x, Hid (g.kind = x) := ⟨_, Lib.hid rfl⟩
  obtain ⟨ve, hve⟩ : ∃ x, Hid (g.version = x) := ⟨_, Lib.hid rfl⟩
  obtain ⟨ep, hep⟩ : ∃ x, Hid (g.epoch = x) := ⟨_, Lib.hid rfl⟩
  obtain ⟨di, hdi⟩ : ∃ x, Hid (g.id = x) := ⟨_, Lib.hid rfl⟩
  obtain ⟨ix, hix⟩ : ∃ x, Hid (g.index = x) := ⟨_, Lib.hid rfl⟩
  obtain ⟨co, hco⟩ : ∃ x, Hid (g.count = x) := ⟨_, Lib.hid rfl⟩
  obtain ⟨y, hy⟩ : ∃ x, Hid (g.body.length = x) := ⟨_, Lib.hid rfl⟩
  have HXc : Hid (∀ W, Below w0.heap.size w0 W → W.cell? ⟨bx, 4, none⟩ = some (.int .u16 (ix : Int)) ∧ W.cell? ⟨bx, 6, none⟩ = some (.slice A y c)) := Lib.hid (fun W hW => by
    obtain ⟨d0, d1, d2, d3, d4, d5, d6⟩ := (HX.out W hW).cells
    rw [hix.out] at d4
    rw [hy.out] at d6
    exact ⟨d4, d6⟩)
  rw [hkd.out, hve.out, hep.out, hdi.out, hix.out, hco.out, hy.out]
  rw [hkd.out, hve.out, hep.out, hdi.out, hix.out, hco.out, hy.out] at hal
  rw [hve.out] at c1
  rw [hco.out] at c5
  rw [hix.out] at HH gx
  rw [hy.out] at hl
  clear c0 c2 c3 c4 c6 m3 m4 M0 M H hGx hB0 hB0' gb hby
  by_cases hne : oc = co ∧ ov = ve
  case neg =>
    rw [if_pos (by omega)]
    by_cases hc : oc = co
    · have hv : ((ov : Int) != (ve : Int)) = true := by simp; omega
      subst hc
      clear hne
      go_enter Try.func37, Try.ntmps37
      go_wp2_with fail
      go_quiet (fail)
      go_wp2_with fail
      go_ret
      exact ⟨rfl, ⟨HB0.out.os, HB0.out.tape, HB0.out.output, HB0.out.size, HB0.out.block⟩⟩
    · have hv : ((oc : Int) != (co : Int)) = true := by simp; omega
      clear hne hc
      go_enter Try.func37, Try.ntmps37
      go_wp2_with fail
      go_quiet (fail)
      go_wp2_with fail
      go_ret
      exact ⟨rfl, ⟨HB0.out.os, HB0.out.tape, HB0.out.output, HB0.out.size, HB0.out.block⟩⟩
  obtain ⟨rfl, rfl⟩ := hne
  rw [if_neg (by omega)]
  have hwx : IntKind.i64.wrap (ix : Int) = (ix : Int) := by rw [IntKind.wrap_i64]; omega
  have HBq : Hid (∀ n, Below w0.heap.size w0 (w0.drewN n)) := Lib.hid (fun n => ⟨rfl, rfl, rfl, Nat.le_refl _, fun _ _ => rfl⟩)
  have HHn := Lib.hid (fun n => HH.out (w0.drewN n) (HBq.out n))
  have HSn := Lib.hid (fun n => HS.out (w0.drewN n) (HBq.out n))
  have HBe : Hid (∀ n, Below w.heap.size w (w0.drewN n)) := Lib.hid (fun n => ⟨HB0.out.os, HB0.out.tape, HB0.out.output, HB0.out.size, HB0.out.block⟩)
  have hm6 : w0.cell? ⟨b, 6, none⟩ = some (pt q) := HM6.out w0 (Below.refl _ _)
  obtain ⟨hx4, hx6⟩ := HXc.out w0 (Below.refl _ _)
  have hy1 := HY.out w0 (Below.refl _ _)
  cases hs' with
  | true =>
    rw [if_pos rfl]
    go_enter Try.func37, Try.ntmps37
    go_wp2_with fail
    go_quiet (fail)
    go_wp2_with fail
    go_quiet (first | (with_reducible exact quiet_far (HHn.out _)) | (with_reducible exact Calls.quiet_of_same (HHn.out _)))
    go_wp2_with fail
    go_ret
    exact ⟨rfl, by rw [drewN_add]; exact HBe.out _⟩
  | false =>
    rw [if_neg (by decide)]
    have hw : IntKind.i64.wrap ((z : Int) + (y : Int)) = ((z + y : Nat) : Int) := by rw [IntKind.wrap_i64]; omega
    by_cases hf : by_ < z + y
    · rw [if_pos hf]
      have hd : decide ((by_ : Int) < ((z + y : Nat) : Int)) = true := decide_eq_true (by omega)
      have hd2 : decide (by_ < z + y) = true := decide_eq_true hf
      obtain ⟨u, hu⟩ : ∃ u, Hid (z + y = u) := ⟨_, Lib.hid rfl⟩
      rw [hu.out] at hw hd
      rw [hu.out] at hd2
      clear hf
      go_enter Try.func37, Try.ntmps37
      go_wp2_with fail
      go_quiet (fail)
      go_wp2_with fail
      go_quiet (first | (with_reducible exact quiet_far (HHn.out _)) | (with_reducible exact Calls.quiet_of_same (HHn.out _)))
      go_wp2_with fail
      go_quiet (first | (with_reducible exact quiet_far (HSn.out _)) | (with_reducible exact Calls.quiet_of_same (HSn.out _)))
      go_wp2_with fail
      go_ret
      exact ⟨rfl, by rw [drewN_add, drewN_add]; exact HBe.out _⟩
    · rw [if_neg hf]
      have hd : decide ((by_ : Int) < ((z + y : Nat) : Int)) = false := decide_eq_false (by omega)
      have hd2 : decide (by_ < z + y) = false := decide_eq_false hf
      obtain ⟨u, hu⟩ : ∃ u, Hid (z + y = u) := ⟨_, Lib.hid rfl⟩
      rw [hu.out] at hw hd
      rw [hu.out] at hd2
      clear hf
      go_enter Try.func37, Try.ntmps37
      go_wp2_with fail
      go_quiet (fail)
      go_wp2_with fail
      go_quiet (first | (with_reducible exact quiet_far (HHn.out _)) | (with_reducible exact Calls.quiet_of_same (HHn.out _)))
      go_wp2_with fail
      go_quiet (first | (with_reducible exact quiet_far (HSn.out _)) | (with_reducible exact Calls.quiet_of_same (HSn.out _)))
      go_wp2_with fail
      go_ret
      exact ⟨rfl, by rw [drewN_add, drewN_add]; exact HBe.out _⟩
/-- a pointer that is told from another one -/
theorem eqPtr22 {w : World} {a b : Nat} {ca cb : Array Value} (ha : Whole w a 82 ca) (hb : Whole w b 82 cb) :
    (binOp .eql 77 (pt a) (pt b)).run Try.prog w = .ok (.bool (decide (a = b))) w := by
  obtain ⟨j, hj, hz⟩ : ∃ j, Try.prog.info? 82 = some j ∧ j.size ≠ 0 := by
    have e : (Try.prog.info? 82).map (·.size) = some 7 := by kernel_rfl
    cases hj : Try.prog.info? 82 with
    | none => rw [hj] at e; cases e
    | some j =>
      rw [hj] at e
      injection e with e
      exact ⟨j, rfl, by simp only at e; omega⟩
  by_cases h : a = b
  · subst h
    rw [decide_eq_true rfl]
    exact run_eql_ptr_same w _ Try.underlying77 hj
  · rw [decide_eq_false h]
    exact run_eql_ptr_other w Try.underlying77 hj hz (fun e => h (by injection e)) ha hb
theorem clo22_any {w : World} {x b bx : Nat} {ca cb : Array Value} (ha : Whole w x 82 ca) (hb : Whole w b 82 cb) (hc : w.cell? ⟨bx, 0, none⟩ = some (pt b)) :
    Calls Try.prog 50 #[pt x, pt bx] w fun e w' => e = .returned (.bool (decide (x = b))) ∧ ∃ q, w' = w.drewN q := by
  have he := eqPtr22 ha hb
  obtain ⟨v, hv⟩ : ∃ v, Hid (decide (x = b) = v) := ⟨_, Lib.hid rfl⟩
  rw [hv.out] at he ⊢
  go_enter Try.func50, Try.ntmps50
  go_wp2_with fail
  go_ret
  exact ⟨rfl, 0, rfl⟩
theorem own_len (A : Option Addr) (n m c d : Nat) : (Value.slice A n c).ownBlock = (Value.slice A m d).ownBlock := by cases A <;> rfl
/-- all but the one in block b -/
def less (L : List (Tm.One × Nat)) (b : Nat) : List (Tm.One × Nat) := L.filter (fun x => !decide (x.2 = b))
theorem less_snds (L : List (Tm.One × Nat)) (b : Nat) : snds (less L b) = (snds L).filter (fun x => !decide (x = b)) := by
  unfold snds less
  rw [List.filter_map]
  rfl
theorem less_sub (L : List (Tm.One × Nat)) (b : Nat) : (less L b).Sublist L := List.filter_sublist
set_option maxHeartbeats 2000000 in
theorem tdiscard22_any {w : World} {F : Nat → Prop} {h b : Nat} {vl : Value} {m : Tm.Lim} {L : List (Tm.One × Nat)} {Fo : Nat → Nat → Prop} {cb : Array Value} (r : TtAt w F h vl m L Fo) (hb : Whole w b 82 cb) (hbr : vl.ownBlock ≠ some b) :
    Calls Try.prog 38 #[pt h, pt b] w fun e w' => e = .returned (.tuple #[]) ∧ (∃ v, v.ownBlock = vl.ownBlock ∧ TtAt w' (Wide F w w') h v m (less L b) Fo) ∧ Foot F w w' := by
  obtain ⟨A, cp, rfl, hle, hmx⟩ := r.shape
  obtain ⟨w0, hw0⟩ : ∃ W, w.alloc (.cells #[pt b] 77) = W := ⟨_, rfl⟩
  have HB0 : Below w.heap.size w w0 := by rw [← hw0]; exact (Below.refl _ _).alloc (Nat.le_refl _) _
  have hx0 : Whole w0 w.heap.size 77 #[pt b] := by rw [← hw0]; exact Whole.made _ _ _
  obtain ⟨bx, hbx⟩ : ∃ x, w.heap.size = x := ⟨_, rfl⟩
  rw [hbx] at hx0
  have r0 := r.stay HB0
  have hb0 : Whole w0 b 82 cb := hb.below HB0 hb.lt
  have hc3 : w0.cell? ⟨h, 3, none⟩ = some (.slice A L.length cp) := r0.whole.at_ 3
  have hrow := r0.row
  rw [show L.length = (snds L).length from (snds_len L).symm] at hrow
  have D := del22_any (K := 50) (u := pt bx) (fun args w => by kernel_rfl) (fun x => decide (x = b)) hrow (fun x hx W hW => by
    obtain ⟨y, hy, rfl⟩ := List.mem_map.1 hx
    obtain ⟨g, hg⟩ := (r0.bag.mg y hy).whole
    have hyr : (Value.slice A (snds L).length cp).ownBlock ≠ some y.2 := by
      intro e
      exact (r0.fo y hy y.2 (r0.bag.mg y hy).self).2.2 (by rw [← e]; exact own_len _ _ _ _ _)
    refine clo22_any (hg.same (hW.block _ hg.lt hyr)) (hb0.same (hW.block _ hb0.lt ?_)) ((hx0.same (hW.block _ hx0.lt ?_)).at_ 0)
    · intro e; exact hbr (by rw [← e]; exact own_len _ _ _ _ _)
    · intro e
      have := (r.row.lt bx (by rw [← e]; exact own_len _ _ _ _ _)).2
      omega)
  rw [← less_snds, snds_len, snds_len] at D
  have HD := Lib.hid D
  have HS := Lib.hid (fun W v e1 e2 e3 => r0.swap (wr := W) (v := v) (less_sub L b) e1 e2 e3)
  have HR0 := Lib.hid r0
  have HBB := Lib.hid HB0
  have HF3 : Hid (∀ W, Foot (fun b => (Value.slice A L.length cp).ownBlock = some b) w0 W → W.cell? ⟨h, 3, none⟩ = some (.slice A L.length cp) ∧ W.frozen? ⟨h, 3, none⟩ = false) := Lib.hid (fun W hW => by
    have hh := r0.lt h r0.self
    have := r0.whole.same (hW.block h hh (fun e => (r0.fr h e).2 rfl))
    exact ⟨this.at_ 3, this.free 3⟩)
  obtain ⟨n, hn⟩ : ∃ n, Hid (L.length = n) := ⟨_, Lib.hid rfl⟩
  obtain ⟨k, hk⟩ : ∃ k, Hid ((less L b).length = k) := ⟨_, Lib.hid rfl⟩
  rw [hn.out] at hc3 HD HS HF3
  rw [hk.out] at HD HS
  have HFT : Hid (Below w.heap.size w w0) := Lib.hid HB0
  have HRF : Hid (∀ b, F b → b < w.heap.size) := Lib.hid r.lt
  clear r r0 hrow D hb hb0 hx0 HB0 hbr
  go_enter Try.func38, Try.ntmps38
  go_wp2_with fail
  refine (HD.out).mono ?_
  rintro e w1 ⟨rfl, ho1, hf1⟩
  obtain ⟨h3, hz3⟩ := HF3.out w1 hf1
  have HS1 := Lib.hid (HS.out w1 (.slice A k cp) ho1 (own_len _ _ _ _ _) hf1)
  clear ho1 hf1
  go_wp2_with fail
  go_end0
  obtain ⟨k1, k2⟩ := HS1.out
  have hF : Foot F w w0 := Foot.of_below HFT.out
  refine ⟨rfl, ⟨_, own_len _ _ _ _ _, k1.more (fun x hx => ?_) (fun x hx => ?_)⟩, hF.trans k2 (fun _ _ q => q)⟩
  · rcases hx with hx | hx
    · exact .inl hx
    · have := HFT.out.size; exact .inr ⟨by omega, hx.2⟩
  · rcases hx with hx | hx
    · have := HRF.out x hx; have := HFT.out.size; have := k2.size; omega
    · exact hx.2
end Go.Proofs.Ytbhdgfpaoghnbaa
