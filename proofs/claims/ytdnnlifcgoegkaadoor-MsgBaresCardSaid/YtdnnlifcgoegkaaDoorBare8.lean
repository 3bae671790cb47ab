/- Contracts of msg.onlyIf at a peer, and of msg.Bare. -/
import Derived.Test.YtdnnlifcgoegkaaDoorOnly8
import Derived.Test.YtdnnlifcgoegkaaDoorCopy8
import Derived.Test.YtdnnlifcgoegkaaDoorRegion
namespace Go.Proofs.YtdnnlifcgoegkaaDoor
open Go.RowKit
set_option linter.unusedVariables false
open Gm

/-- a struct is stored whole, in a region that draws its order -/
theorem step_store_whole {P : Program} {ty : TypeId} {cs cs' : Array Value} {ops : Array Oper} {o : Oper} {a : Act} {w : World} {K : Act → World → Prop} {Q : Exit → Act → World → Prop} {F : Prop} {x y : Operand} {g t : Nat} (hgd : o.guard = none) (hd : o.dst = none) (ho : o.op = .store ty x y) (hx : a.eval x = .pointer (some ⟨g, 0, none⟩)) (hy : a.eval y = .agg cs') (hg : Whole w g t cs)
    (hi : (P.info? ty).map (·.size) = some cs'.size) (hs : cs.size = cs'.size) (h1 : cs'.all (·.oneCell') = true) (h : K a (w.setRow g cs')) : if Region.wanted o (yielded ops a.tmps) = true then Oper.wp P o a w K Q else F := by
  have hw : Region.wanted o (yielded ops a.tmps) = true := by simp [Region.wanted, hgd]
  rw [if_pos hw]
  unfold Oper.wp execOp
  simp only [ho, hx, hy, Instr.storeAt, Instr.sureAddr, Sem.run_bind, Sem.run_pure, Result.andThen_ok, run_storeVar_row w g t ty cs cs' hg hi hs h1]
  unfold Oper.upon
  simp only
  try rw [hd]
  exact h
theorem peerI {cs : Array Value} (h : cs.size = 2) : (Tryd.prog.info? 26).map (·.size) = some cs.size := by rw [h]; kernel_rfl
theorem made2 (w : World) (o : Obj) (t : Nat) (cs : Array Value) : Whole ((w.alloc o).alloc (.cells cs t)) (w.heap.size + 1) t cs := by
  have := Whole.made (w.alloc o) t cs
  rw [show (w.alloc o).heap.size = w.heap.size + 1 by simp] at this
  exact this
theorem oi_peer (b : Bool) (x y : Nat) (w : World) :
    Calls Tryd.prog 45 #[.bool b, .agg #[.int .u64 (x : Int), .int .u16 (y : Int)]] w fun e w' => e = .returned (.agg #[.int .u64 ((oi b x 0 : Nat) : Int), .int .u16 ((oi b y 0 : Nat) : Int)]) ∧ Below w.heap.size w w' := by
  have hb1 : ∀ o, Below w.heap.size w (w.alloc o) := fun o => (Below.refl _ _).alloc (Nat.le_refl _) o
  have Hb2 := Lib.hid (fun o o' => (hb1 o).alloc (by simp) o')
  have Hb3 := Lib.hid (fun o o' o'' => (Hb2.out o o').alloc (by simp; omega) o'')
  clear hb1
  cases b
  · go_enter Tryd.func45, Tryd.ntmps45
    go_wp2_with fail
    refine bodyPost_ret (v := .agg #[.int .u64 0, .int .u16 0]) ?_ rfl ⟨rfl, Hb3.out _ _ _⟩
    exact results_cell_row rfl _ _ _ _ _ (0, 0) _ rfl ((made2 w _ _ _).alloc _) Tryd.underlying26 rfl (peerI rfl)
  · go_enter Tryd.func45, Tryd.ntmps45
    go_wp2_with fail
    refine bodyPost_ret (v := .agg #[.int .u64 (x : Int), .int .u16 (y : Int)]) ?_ rfl ⟨rfl, Hb2.out _ _⟩
    exact results_cell_row rfl _ _ _ _ _ (0, 0) _ rfl (made2 w _ _ _) Tryd.underlying26 rfl (peerI rfl)
theorem Sl.oi {α : Type} {f : α → Value × Value} {w : World} {B n c : Nat} {A : Option Addr} {l : List α} (h : Sl f w B (.slice A n c) l) (b : Bool) : Sl f w B (.slice (oi b A none) (oi b n 0) (oi b c 0)) (oi b l []) := by
  cases b
  · exact Sl.empty _ _
  · exact h
theorem own_bits (m : Ms) : (bits .and .u16 ((own m : Nat) : Int) 1 != 0) = oCode m ∧ (bits .and .u16 ((own m : Nat) : Int) 2 != 0) = oHas m ∧ (bits .and .u16 ((own m : Nat) : Int) 4 != 0) = oId m ∧ (bits .and .u16 ((own m : Nat) : Int) 8 != 0) = oPeer m ∧
    (bits .and .u16 ((own m : Nat) : Int) 16 != 0) = oPeers m ∧ (bits .and .u16 ((own m : Nat) : Int) 32 != 0) = oKey m ∧ (bits .and .u16 ((own m : Nat) : Int) 64 != 0) = oVal m ∧ (bits .and .u16 ((own m : Nat) : Int) 128 != 0) = oPairs m := by
  obtain ⟨h1, h2, h3, h4, h5, h6, h7, h8⟩ := mask_bits (oCode m) (oHas m) (oId m) (oPeer m) (oPeers m) (oKey m) (oVal m) (oPairs m)
  unfold own
  rw [h1, h2, h3, h4, h5, h6, h7, h8]
  refine ⟨?_, ?_, ?_, ?_, ?_, ?_, ?_, ?_⟩
  · cases oCode m <;> rfl
  · cases oHas m <;> rfl
  · cases oId m <;> rfl
  · cases oPeer m <;> rfl
  · cases oPeers m <;> rfl
  · cases oKey m <;> rfl
  · cases oVal m <;> rfl
  · cases oPairs m <;> rfl

set_option maxRecDepth 100000 in
set_option maxHeartbeats 1000000 in
theorem bare_any {w : World} {B : Nat} {m : Ms} {v : Value} (H : Mv w B m v) (T : Tab w) (hlp : m.peers.length ≤ 1000000000) (hlq : m.pairs.length ≤ 1000000000) :
    Calls Tryd.prog 15 #[v] w fun e w' => ∃ v', e = .returned v' ∧ Mo w' w.heap.size (bare m) v' ∧ Below w.heap.size w w' := by
  obtain ⟨b, vp, vq, w0, rfl, hb, hal, hsz, hx, hb0⟩ := boxed H
  obtain ⟨b2, w1, hb2, hal2, hsz2, hy, hb1⟩ := msg_box w0
  have e2 : b2 = b + 1 := by omega
  subst e2
  have hx1 := hx.below hb1 (by omega)
  have hB1 := hb0.trans (hb1.mono (by omega))
  have hT1 := T.below hB1 (by rw [← hb]; exact T.lt)
  have HM := Lib.hid hx1.mv
  have HX := Lib.hid hx1
  have HY := Lib.hid hy
  have HBB := Lib.hid hB1
  obtain ⟨Ap, cp, rfl, hpp⟩ := hx1.peers.ex
  obtain ⟨Aq, cq, rfl, hqq⟩ := hx1.pairs.ex
  obtain ⟨c0, c1, c2, c3, c4, c5, c6, c7, c8, c9, c10⟩ := hx1.cells
  have C := Lib.hid (own_any HM.out hT1)
  have HQ := Lib.hid (own_bits m)
  obtain ⟨O, hO⟩ : ∃ O, Hid (own m = O) := ⟨_, rfl⟩
  rw [hO.out] at C HQ
  clear hx hx1 hy hb0 hb1 hb2 H hB1 hT1 T hpp hqq
  go_enter Tryd.func15, Tryd.ntmps15
  go_wp2_with fail
  refine C.out.mono ?_
  rintro e w2 ⟨rfl, hb2⟩
  have HB2 := Lib.hid hb2.drew
  clear hb2 c0 c1 c2 c3 c4 c5 c6 c7 c8 c9 c10
  go_wp2_with fail
  refine wp_region_plan (S := fun W => Box W b m (.slice Ap m.peers.length cp) (.slice Aq m.pairs.length cq)) [(0, true), (1, true), (2, true), (3, true), (4, true), (5, true), (6, true), (7, true), (8, true), (10, true), (11, true), (12, true), (13, true), (14, true), (16, true), (17, true), (18, true), (19, true), (20, true), (22, true), (23, true), (24, true), (25, true), (26, true), (28, true), (29, true), (30, true), (31, true), (32, true), (34, true), (35, true), (36, true), (37, true), (38, true), (40, true), (41, true), (42, true), (43, true), (44, true), (46, true), (47, true), (48, true), (49, true), (50, true), (9, false), (15, false), (21, false), (27, false), (33, false), (39, false), (45, false), (51, false), (52, true), (53, false), (54, false)] (by kernel_rfl) (by kernel_rfl) rfl (by kernel_rfl) (fun _ _ _ _ _ h => h) (HX.out.kept HB2.out) ?_
  iterate 44
    refine along_take (v := ?_) rfl (by rfl) ?_ ?_
    rotate_left
    · intro W hW; have hW' : Box W b m (.slice Ap m.peers.length cp) (.slice Aq m.pairs.length cq) := hW; obtain ⟨c0, c1, c2, c3, c4, c5, c6, c7, c8, c9, c10⟩ := hW'.cells; clear hW hW'; go_simp; try with_reducible rfl
    simp only [Act.put, List.setIfInBounds_toArray, List.set_cons_zero, List.set_cons_succ]
  refine along_step rfl (fun K hK => ?_)
  go_simp
  refine (oi_u8 _ _ _).mono ?_
  rintro e w3 ⟨rfl, rfl⟩
  refine hK.out _ _ (HX.out.kept HB2.out) ?_
  clear hK K
  try simp only [Act.put, List.setIfInBounds_toArray, List.set_cons_zero, List.set_cons_succ]
  refine along_step rfl (fun K hK => ?_)
  go_simp
  refine (oi_bool _ _ _).mono ?_
  rintro e w3 ⟨rfl, rfl⟩
  refine hK.out _ _ (HX.out.kept HB2.out) ?_
  clear hK K
  try simp only [Act.put, List.setIfInBounds_toArray, List.set_cons_zero, List.set_cons_succ]
  refine along_step rfl (fun K hK => ?_)
  go_simp
  refine (oi_u64 _ _ _).mono ?_
  rintro e w3 ⟨rfl, rfl⟩
  refine hK.out _ _ (HX.out.kept HB2.out) ?_
  clear hK K
  try simp only [Act.put, List.setIfInBounds_toArray, List.set_cons_zero, List.set_cons_succ]
  refine along_step rfl (fun K hK => ?_)
  go_simp
  refine (oi_str _ _ _).mono ?_
  rintro e w3 ⟨rfl, rfl⟩
  refine hK.out _ _ (HX.out.kept HB2.out) ?_
  clear hK K
  try simp only [Act.put, List.setIfInBounds_toArray, List.set_cons_zero, List.set_cons_succ]
  refine along_step rfl (fun K hK => ?_)
  go_simp
  refine (oi_str _ _ _).mono ?_
  rintro e w3 ⟨rfl, rfl⟩
  refine hK.out _ _ (HX.out.kept HB2.out) ?_
  clear hK K
  try simp only [Act.put, List.setIfInBounds_toArray, List.set_cons_zero, List.set_cons_succ]
  refine along_step rfl (fun K hK => ?_)
  go_simp
  refine (oi_peer _ _ _ _).mono ?_
  rintro e w3 ⟨rfl, hb3⟩
  have HB3 := Lib.hid (HB2.out.trans (hb3.mono HB2.out.size))
  clear hb3
  refine hK.out _ _ (HX.out.kept HB3.out) ?_
  clear hK K
  try simp only [Act.put, List.setIfInBounds_toArray, List.set_cons_zero, List.set_cons_succ]
  refine along_step rfl (fun K hK => ?_)
  go_simp
  refine (oi_peers _ _ _ _ _).mono ?_
  rintro e w4 ⟨rfl, rfl⟩
  refine hK.out _ _ (HX.out.kept HB3.out) ?_
  clear hK K
  try simp only [Act.put, List.setIfInBounds_toArray, List.set_cons_zero, List.set_cons_succ]
  refine along_step rfl (fun K hK => ?_)
  go_simp
  refine (oi_pairs _ _ _ _ _).mono ?_
  rintro e w4 ⟨rfl, rfl⟩
  refine hK.out _ _ (HX.out.kept HB3.out) ?_
  clear hK K
  try simp only [Act.put, List.setIfInBounds_toArray, List.set_cons_zero, List.set_cons_succ]
  iterate 1
    refine along_take (v := ?_) rfl (by rfl) ?_ ?_
    rotate_left
    · intro W hW; have hW' : Box W b m (.slice Ap m.peers.length cp) (.slice Aq m.pairs.length cq) := hW; obtain ⟨c0, c1, c2, c3, c4, c5, c6, c7, c8, c9, c10⟩ := hW'.cells; clear hW hW'; go_simp; try with_reducible rfl
    simp only [Act.put, List.setIfInBounds_toArray, List.set_cons_zero, List.set_cons_succ]
  refine along_step rfl (fun K hK => ?_)
  go_simp
  have hx4 := HX.out.kept HB3.out
  obtain ⟨q1, q2, q3, q4, q5, q6, q7, q8⟩ := HQ.out
  rw [q1, q2, q3, q4, q5, q6, q7, q8]
  have hm : Mv w4 b (bare m) (.agg #[.int .i64 m.kind, .int .u32 (m.rid : Int), .int .u8 ((oi (oCode m) m.code 0 : Nat) : Int), .bool (oi (oHas m) m.has false), .int .u64 ((oi (oId m) m.id 0 : Nat) : Int), .string (oi (oKey m) m.key ⟨#[]⟩), .string (oi (oVal m) m.val ⟨#[]⟩), .int .u64 ((oi (oPeer m) m.pid 0 : Nat) : Int), .int .u16 ((oi (oPeer m) m.pad 0 : Nat) : Int),
      .slice (oi (oPeers m) Ap none) (oi (oPeers m) m.peers.length 0) (oi (oPeers m) cp 0), .slice (oi (oPairs m) Aq none) (oi (oPairs m) m.pairs.length 0) (oi (oPairs m) cq 0)]) :=
    ⟨⟨_, _, rfl, hx4.peers.oi _, hx4.pairs.oi _⟩, hx4.ok.bare⟩
  have hlp2 : (bare m).peers.length ≤ 1000000000 := by show (oi (oPeers m) m.peers []).length ≤ _; cases oPeers m; exact Nat.zero_le _; exact hlp
  have hlq2 : (bare m).pairs.length ≤ 1000000000 := by show (oi (oPairs m) m.pairs []).length ≤ _; cases oPairs m; exact Nat.zero_le _; exact hlq
  refine (copy_any hm hlp2 hlq2).mono ?_
  rintro e w5 ⟨v5, rfl, hmo, hb5⟩
  refine hK.out _ _ (hx4.kept hb5) ?_
  clear hK K
  try simp only [Act.put, List.setIfInBounds_toArray, List.set_cons_zero, List.set_cons_succ]
  obtain ⟨⟨up, uq, rfl, hop, hoq⟩, hok⟩ := hmo
  have hy4 := HY.out.below (HB3.out.trans (hb5.mono HB3.out.size)) (by omega)
  refine along_step rfl (fun K hK => ?_)
  obtain ⟨uA, un, rfl⟩ := own_shape hop
  obtain ⟨uB, um, rfl⟩ := own_shape hoq
  refine step_store_whole rfl rfl rfl rfl rfl hy4 (msgI rfl) rfl (by simp [Value.oneCell']) ?_
  have HY6 := Lib.hid (hy4.row #[.int .i64 (bare m).kind, .int .u32 ((bare m).rid : Int), .int .u8 ((bare m).code : Int), .bool (bare m).has, .int .u64 ((bare m).id : Int), .string (bare m).key, .string (bare m).val, .int .u64 ((bare m).pid : Int), .int .u16 ((bare m).pad : Int), .slice uA (bare m).peers.length un, .slice uB (bare m).pairs.length um])
  have hz3 := HB3.out.size
  have hz5 := hb5.size
  refine hK.out _ _ ((hx4.kept hb5).below (below_row (Below.refl (b + 1) w5) (Nat.le_refl _) _) (by omega)) ?_
  clear hK K
  refine along_done ?_
  go_wp2_with fail
  refine bodyPost_ret (v := .agg #[.int .i64 (bare m).kind, .int .u32 ((bare m).rid : Int), .int .u8 ((bare m).code : Int), .bool (bare m).has, .int .u64 ((bare m).id : Int), .string (bare m).key, .string (bare m).val, .int .u64 ((bare m).pid : Int), .int .u16 ((bare m).pad : Int), .slice uA (bare m).peers.length un, .slice uB (bare m).pairs.length um]) ?_ rfl ⟨_, rfl, ⟨⟨_, _, rfl, ?_, ?_⟩, hok⟩, ?_⟩
  · exact results_cell_row rfl _ _ _ _ _ (0, 0) _ rfl HY6.out Tryd.underlying30 rfl (msgI rfl)
  · exact own2_lower (own2_from hop (fun i hi _ => setRow_other w5 (b + 1) i _ (by omega))) (by omega)
  · exact own2_lower (own2_from hoq (fun i hi _ => setRow_other w5 (b + 1) i _ (by omega))) (by omega)
  · rw [hb]; exact below_row (HBB.out.trans ((HB3.out.trans (hb5.mono hz3)).mono (by omega))) (by omega) _
end Go.Proofs.YtdnnlifcgoegkaaDoor
