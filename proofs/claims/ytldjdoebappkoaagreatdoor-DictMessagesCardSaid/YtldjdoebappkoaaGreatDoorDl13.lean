/- Contracts of dict.listOf at strings, peers and pairs, and of pairTree. -/
import Derived.Test.YtldjdoebappkoaaGreatDoorDb13
import Derived.Deep.CutRange
namespace Go.Proofs.YtldjdoebappkoaaGreatDoor
open Go.RowKit
set_option linter.unusedVariables false
set_option maxRecDepth 100000
set_option linter.unusedSimpArgs false
open Gm
theorem Tn.Few.leaf (k n : Int) (s : ByteArray) : (Tn.mk k n s [] []).Few := .mk (by simp [Tn.keys]) (by simp [Tn.kids]) (fun u hu => by cases hu)
theorem take_map13 {α β : Type} (f : α → β) {l : List α} {L : List β} {j : Nat} (hl : j < l.length) (h : L = (l.take j).map f) {x : β} (hx : f l[j] = x) : L ++ [x] = (l.take (j + 1)).map f := by
  rw [List.take_succ_eq_append_getElem hl, List.map_append, ← h, ← hx]; rfl
theorem two13 (w : World) (t : TypeId) (z0 z1 x y : Value) : ∃ b w0 u w1, w.heap.size = b ∧ w.alloc (.cells #[z0, z1] t) = w0 ∧ (w0.cell? ⟨b, 0, none⟩ = some z0 ∧ w0.frozen? ⟨b, 0, none⟩ = false) ∧ w0.setCell ⟨b, 0, none⟩ x = u ∧ (u.cell? ⟨b, 1, none⟩ = some z1 ∧ u.frozen? ⟨b, 1, none⟩ = false) ∧
    u.setCell ⟨b, 1, none⟩ y = w1 ∧ Whole w1 b t #[x, y] ∧ w1.heap.size = b + 1 ∧ Below b w w1 := by
  have h0 := Whole.made w t #[z0, z1]
  have h1 := h0.put 0 x
  have h2 := h1.put 1 y
  refine ⟨_, _, _, _, rfl, rfl, ⟨h0.at_ 0, h0.free 0⟩, rfl, ⟨h1.at_ 1, h1.free 1⟩, rfl, h2, by simp [World.setCell], ?_⟩
  exact (((Below.refl _ _).alloc (Nat.le_refl _) _).setCell (Nat.le_refl _) _).setCell (Nat.le_refl _) _
theorem src5 {w : World} {z : Nat} (hz : w.heap.size = z) (x : Tn) (xk xq : Value) : Src (w.alloc (.cells #[.int .i64 x.kind, .int .i64 x.n, .string x.s, xk, xq] 25)) (some ⟨z, 0, none⟩) (five [(x, xk, xq)]) := src_lit _ hz _

set_option maxHeartbeats 4000000 in
theorem liststr13_any {w : World} {B : Nat} {v : Value} {l : List ByteArray} (h : Sk w B v l) (hl : l.length ≤ 1000000) :
    Calls Tryz.prog 77 #[v, .func (.func 37) #[] #[]] w fun e w' => ∃ uk uq, e = .returned (tval (Dm.list (l.map Dm.text)) uk uq) ∧ Tl w' w.heap.size (Dm.list (l.map Dm.text)) uk uq ∧ Below w.heap.size w w' := by
  obtain ⟨A, c, rfl, hS, h1, h2, h3, h4⟩ := h
  have HS := Lib.hid hS.all
  have HZ := Lib.hid h4
  clear hS h3 h4
  unfold maxLen at h2
  obtain ⟨X, hX⟩ : ∃ X, Hid (Dm.list (l.map Dm.text) = X) := ⟨_, Lib.hid rfl⟩
  rw [hX.out]
  have HX : Hid (Tn.listOf (l.map Dm.text) = X) := Lib.hid hX.out
  obtain ⟨g, w1, hg, hal, hY, hb1, hs1⟩ := var_tree w
  have HY := Lib.hid hY
  have HB1 := Lib.hid hb1
  have HL0 : Hid (Ls w1.heap.size w1 [] (.slice none 0 0) w1) := Lib.hid (Ls.start (Below.refl _ _) (Nat.le_refl _))
  clear hY hb1

  go_enter Tryz.func77, Tryz.ntmps77
  go_wp2_with fail
  obtain ⟨s1, hz1⟩ : ∃ s, w1.heap.size = s := ⟨_, rfl⟩
  rw [hz1] at HL0
  go_loopw [5, 10] (fun vl vi wr => ∃ (j : Nat) (L : List Tq), vi = .int .i64 (j : Int) ∧ j ≤ l.length ∧ Hid (L.length = j) ∧ Hid (Ls s1 w1 L vl wr) ∧ Hid (L.map (·.1) = (l.take j).map Dm.text)) (fun _ vi _ => l.length - (intOf vi).toNat)
  case atStart => exact ⟨0, [], rfl, Nat.zero_le _, Lib.hid rfl, HL0, Lib.hid rfl⟩
  case round =>
    obtain ⟨j, L, rfl, hj, hLj, HI, HM⟩ := hrel
    clear HL0
    by_cases hlt : j < l.length
    · have hlt' : (j : Int) < (l.length : Int) := by omega
      have hBw : Below w.heap.size w wr := HB1.out.mono (by omega) |>.trans (HI.out.bel.mono (by omega))

      obtain ⟨bk, ok, rfl, hbk, hcell⟩ := HS.out j hlt
      have e0 := (World.cell?_of_block (a := ⟨bk, ok + j, none⟩) (hBw.block bk hbk)).trans hcell
      obtain ⟨y, hy⟩ : ∃ y, l[j] = y := ⟨_, rfl⟩
      have HMn := Lib.hid (take_map13 Dm.text hlt HM.out (x := Dm.text y) (by rw [hy]))
      have hys : y.size ≤ maxLen := by rw [← hy]; exact HZ.out _ (List.getElem_mem hlt)
      have HYs := Lib.hid hys
      rw [hy] at e0
      clear hcell hy hys
      obtain ⟨A9, c9, rfl, _, _, _, _⟩ := own_look HI.out.row
      have CP := Lib.hid (fun W => text11_any y W)
      dsimp only [tval, Tn.kind, Tn.n, Tn.s] at CP
      go_wp2_with fail
      refine (CP.out _).mono ?_
      rintro e w2 ⟨rfl, hb2⟩
      have HI2 := Lib.hid (HI.out.behind hb2)
      have HT2 : Hid (Tl w2 wr.heap.size (Dm.text y) (.slice none 0 0) (.slice none 0 0)) := Lib.hid (Tl.leaf _ _ (by omega) (by omega) HYs.out)
      have HN2 := Lib.hid (HI.out.new HT2.out)

      obtain ⟨z, hz⟩ : ∃ z, w2.heap.size = z := ⟨_, rfl⟩
      obtain ⟨wa, hala⟩ : ∃ wa, w2.alloc (.cells #[.int .i64 2, .int .i64 0, .string y, .slice none 0 0, .slice none 0 0] 25) = wa := ⟨_, rfl⟩
      have hBa : Below w2.heap.size w2 wa := by rw [hz, ← hala]; exact below_lit _ hz _
      have HSa : Hid (Src wa (some ⟨z, 0, none⟩) (five [(Dm.text y, .slice none 0 0, .slice none 0 0)])) := Lib.hid (by rw [← hala]; exact src5 hz _ _ _)
      have HIa := Lib.hid (HI2.out.behind hBa)
      have HNa : Hid (Tp wa (fun b => (Value.slice A9 L.length c9).ownBlock ≠ some b) (Dm.text y) (.slice none 0 0) (.slice none 0 0)) := Lib.hid (HN2.out.keep (fun b p q => ⟨p, hBa.block b q⟩))
      have hsa : s1 ≤ wa.heap.size := HIa.out.low
      clear hBa hb2
      go_upto_region 5 with (at_builtin; refine wpList_append_cells Tryz.underlying23 treeZ rfl (by decide) (by decide) _ _ rfl rfl s1 (.slice A9 L.length c9) L.length _ rfl HIa.out.row 1 1 (five [(Dm.text y, .slice none 0 0, .slice none 0 0)]) rfl rfl (fun h => by cases h) (Nat.le_refl _) HSa.out (by simp [five, Value.oneCell']) (by have := hLj.out; omega) hsa ?_; intro v7 w7 ho7 hg7 hv7; obtain ⟨g7, c7, rfl, hg7a, hg7b⟩ := ho7.form (by omega))
      have HI7 := Lib.hid (HIa.out.kid HNa.out ho7 hg7 hv7)
      have HLn : Hid ((L ++ [((Dm.text y : Tn), (.slice none 0 0 : Value), (.slice none 0 0 : Value))]).length = j + 1) := Lib.hid (by rw [List.length_append, hLj.out]; rfl)
      have HMn2 : Hid ((L ++ [((Dm.text y : Tn), (.slice none 0 0 : Value), (.slice none 0 0 : Value))]).map (·.1) = (l.take (j + 1)).map Dm.text) := Lib.hid (by rw [List.map_append]; exact HMn.out)
      clear ho7 hg7 hv7 hg7a hg7b
      go_wp2_with fail
      go_roundw
      case rel => exact ⟨j + 1, _, by go_num, by omega, HLn, HI7, HMn2⟩
      case measure => simp [intOf]; omega
    · have hjn : j = l.length := by omega
      subst hjn
      rw [List.take_length] at HM
      have HK := Lib.hid HI.out.kv
      have hlen : (l.map Dm.text).length ≤ 1000000 := by rw [List.length_map]; exact hl
      have CL := Lib.hid (list11_at (by have h := HK.out; rw [HM.out] at h; exact h) hlen (fun u hu => by
        obtain ⟨y, _, rfl⟩ := List.mem_map.1 hu
        exact Tn.Few.leaf _ _ _))
      have HY2 := Lib.hid (HY.out.below HI.out.bel (by omega))
      have HBr := Lib.hid (HB1.out.trans (HI.out.bel.mono (by omega)))
      have hlow := HI.out.low
      obtain ⟨A9, c9, rfl, _, _, _, _⟩ := own_look HI.out.row
      rw [HX.out] at CL
      clear HI HM HK
      go_wp2_with fail
      refine (CL.out).mono ?_
      rintro e w3 ⟨yk, yq, rfl, hv3, hb3⟩
      obtain ⟨A1, e1, rfl, _⟩ := hv3.tv.keys
      obtain ⟨A2, e2, rfl, _⟩ := hv3.tv.kids
      have HY3 := Lib.hid (HY2.out.below hb3 (by omega))
      have HB3 := Lib.hid (HBr.out.trans (hb3.mono (by omega)))
      have HV : Hid (∀ cs, Tl (w3.setRow g cs) w.heap.size X (.slice A1 X.keys.length e1) (.slice A2 X.kids.length e2)) := Lib.hid (fun cs => (hv3.from_ ((From.refl wr.heap.size w3).setRow (by omega) cs)).less (by omega))
      clear hv3 hb3 CL
      go_wp2_with (refine wpList_store_whole rfl rfl rfl rfl rfl HY3.out (treeI rfl) rfl (by simp [Value.oneCell']) ?_)
      refine bodyPost_ret (v := tval X (.slice A1 X.keys.length e1) (.slice A2 X.kids.length e2)) ?_ rfl ⟨_, _, rfl, HV.out _, by rw [hg]; exact below_row HB3.out (by omega) _⟩
      exact results_tree rfl rfl (HY3.out.row _) rfl
theorem pairT_few (p : ByteArray × ByteArray) : (Dm.pairT p).Few := .mk (by simp [Dm.pairT, Dm.list, Tn.keys]) (by simp [Dm.pairT, Dm.list, Tn.kids]) (fun y hy => by
  rcases List.mem_cons.1 (show y ∈ [Dm.text p.1, Dm.text p.2] from hy) with rfl | hy
  · exact Tn.Few.leaf _ _ _
  · rcases List.mem_cons.1 hy with rfl | hy
    · exact Tn.Few.leaf _ _ _
    · cases hy)
theorem sk_two {w : World} {b : Nat} {p1 p2 : ByteArray} (h1 : p1.size ≤ maxLen) (h2 : p2.size ≤ maxLen) (hb : w.heap.size = b) : Sk (w.alloc (.cells #[.string p1, .string p2] 9)) (b + 1) (.slice (some ⟨b, 0, none⟩) 2 2) [p1, p2] := by
  refine ⟨some ⟨b, 0, none⟩, 2, rfl, fun i hi => ⟨b, 0, rfl, by omega, ?_⟩, by simp, by unfold maxLen; omega, (fun h => by cases h), fun s hs => ?_⟩
  · have h := Whole.made w 9 #[.string p1, .string p2]
    rw [hb] at h
    match i, hi with
    | 0, _ => exact h.at_ 0
    | 1, _ => exact h.at_ 1
  · rcases List.mem_cons.1 hs with rfl | hs
    · exact h1
    · rcases List.mem_cons.1 hs with rfl | hs
      · exact h2
      · cases hs
set_option maxHeartbeats 1000000 in
theorem pairtree13_any (p : ByteArray × ByteArray) (h1 : p.1.size ≤ maxLen) (h2 : p.2.size ≤ maxLen) (w : World) :
    Calls Tryz.prog 45 #[.agg #[.string p.1, .string p.2]] w fun e w' => ∃ uk uq, e = .returned (tval (Dm.pairT p) uk uq) ∧ Tl w' w.heap.size (Dm.pairT p) uk uq ∧ Below w.heap.size w w' := by
  obtain ⟨p1, p2⟩ := p
  change p1.size ≤ maxLen at h1
  change p2.size ≤ maxLen at h2
  obtain ⟨X, hX⟩ : ∃ X, Hid (Dm.pairT (p1, p2) = X) := ⟨_, Lib.hid rfl⟩
  rw [hX.out]
  show Calls Tryz.prog 45 #[.agg #[.string p1, .string p2]] w fun e w' => ∃ uk uq, e = .returned (tval X uk uq) ∧ Tl w' w.heap.size X uk uq ∧ Below w.heap.size w w'
  obtain ⟨b, w1, hb, hal, hW, hB⟩ : ∃ b w1, w.heap.size = b ∧ w.alloc (.cells #[.string p1, .string p2] 65) = w1 ∧ Whole w1 b 65 #[.string p1, .string p2] ∧ Below b w w1 := ⟨_, _, rfl, rfl, Whole.made _ _ _, (Below.refl _ _).alloc (Nat.le_refl _) _⟩
  obtain ⟨g, w2, hg, hal2, hY, hb2, hs2⟩ := var_tree w1
  have hbg : b < g := by rw [← hg]; exact hW.lt
  have hW2 := hW.below hb2 hbg
  have HY := Lib.hid hY
  have HB : Hid (Below b w w2) := Lib.hid (hB.trans (hb2.mono (by omega)))
  obtain ⟨z, hz⟩ : ∃ z, w2.heap.size = z := ⟨_, rfl⟩
  obtain ⟨w3, hal3⟩ : ∃ W, w2.alloc (.cells #[.string p1, .string p2] 9) = W := ⟨_, rfl⟩
  have hK : Sk w3 (z + 1) (.slice (some ⟨z, 0, none⟩) 2 2) [p1, p2] := by rw [← hal3]; exact sk_two h1 h2 hz
  have hB3 : Below z w2 w3 := by rw [← hal3]; exact (Below.refl _ _).alloc (by omega) _
  have CL := Lib.hid (liststr13_any hK (by simp))
  rw [show Dm.list ([p1, p2].map Dm.text) = Dm.pairT (p1, p2) from rfl, hX.out] at CL
  have HY3 := Lib.hid (HY.out.below hB3 (by omega))
  have HB3 := Lib.hid (HB.out.trans (hB3.mono (by omega)))
  have hz3 : z ≤ w3.heap.size := by have := hB3.size; omega
  have e0 := hW2.at_ 0
  have e1 := hW2.at_ 1
  simp at e0 e1
  have hzg : g < z := by omega
  clear hY hb2 hW hB hW2 hK hB3 h1 h2 hs2
  go_enter Tryz.func45, Tryz.ntmps45
  go_wp2_with fail
  refine (CL.out).mono ?_
  rintro e w4 ⟨yk, yq, rfl, hv, hb4⟩
  obtain ⟨A1, e1, rfl, _⟩ := hv.tv.keys
  obtain ⟨A2, e2, rfl, _⟩ := hv.tv.kids
  have HY4 := Lib.hid (HY3.out.below hb4 (by omega))
  have HB4 := Lib.hid (HB3.out.trans (hb4.mono (by omega)))
  have HV : Hid (∀ cs, Tl (w4.setRow g cs) w.heap.size X (.slice A1 X.keys.length e1) (.slice A2 X.kids.length e2)) := Lib.hid (fun cs => (hv.from_ ((From.refl w3.heap.size w4).setRow (by omega) cs)).less (by omega))
  clear hv hb4 CL
  go_wp2_with (refine wpList_store_whole rfl rfl rfl rfl rfl HY4.out (treeI rfl) rfl (by simp [Value.oneCell']) ?_)
  refine bodyPost_ret (v := tval X (.slice A1 X.keys.length e1) (.slice A2 X.kids.length e2)) ?_ rfl ⟨_, _, rfl, HV.out _, by rw [hb]; exact below_row HB4.out (by omega) _⟩
  exact results_tree rfl rfl (HY4.out.row _) rfl

set_option maxHeartbeats 4000000 in
theorem listpeer13_any {w : World} {B : Nat} {v : Value} {l : List (Nat × Nat)} (h : Sl fPeer w B v l) (hl : l.length ≤ 1000000) (hb : ∀ p ∈ l, p.1 < 18446744073709551616 ∧ p.2 < 65536) :
    Calls Tryz.prog 43 #[v, .func (.func 42) #[] #[]] w fun e w' => ∃ uk uq, e = .returned (tval (Dm.list (l.map Dm.peerT)) uk uq) ∧ Tl w' w.heap.size (Dm.list (l.map Dm.peerT)) uk uq ∧ Below w.heap.size w w' := by
  obtain ⟨A, c, rfl, hS, h1, h2, h3⟩ := h.ex
  have HS := Lib.hid hS.all
  have HZ := Lib.hid hb
  clear h hS h3 hb
  unfold maxLen at h2
  obtain ⟨X, hX⟩ : ∃ X, Hid (Dm.list (l.map Dm.peerT) = X) := ⟨_, Lib.hid rfl⟩
  rw [hX.out]
  have HX : Hid (Tn.listOf (l.map Dm.peerT) = X) := Lib.hid hX.out
  obtain ⟨g, w1, hg, hal, hY, hb1, hs1⟩ := var_tree w
  have HY := Lib.hid hY
  have HB1 := Lib.hid hb1
  have HL0 : Hid (Ls w1.heap.size w1 [] (.slice none 0 0) w1) := Lib.hid (Ls.start (Below.refl _ _) (Nat.le_refl _))
  clear hY hb1

  go_enter Tryz.func43, Tryz.ntmps43
  go_wp2_with fail
  obtain ⟨s1, hz1⟩ : ∃ s, w1.heap.size = s := ⟨_, rfl⟩
  rw [hz1] at HL0
  go_loopw [5, 10] (fun vl vi wr => ∃ (j : Nat) (L : List Tq), vi = .int .i64 (j : Int) ∧ j ≤ l.length ∧ Hid (L.length = j) ∧ Hid (Ls s1 w1 L vl wr) ∧ Hid (L.map (·.1) = (l.take j).map Dm.peerT)) (fun _ vi _ => l.length - (intOf vi).toNat)
  case atStart => exact ⟨0, [], rfl, Nat.zero_le _, Lib.hid rfl, HL0, Lib.hid rfl⟩
  case round =>
    obtain ⟨j, L, rfl, hj, hLj, HI, HM⟩ := hrel
    clear HL0
    by_cases hlt : j < l.length
    · have hlt' : (j : Int) < (l.length : Int) := by omega
      have hBw : Below w.heap.size w wr := HB1.out.mono (by omega) |>.trans (HI.out.bel.mono (by omega))

      obtain ⟨bk, ok, rfl, hbk, hc0, hc1⟩ := HS.out.at_ hlt
      obtain ⟨p1, p2, hpj⟩ : ∃ p1 p2, l[j] = (p1, p2) := ⟨_, _, rfl⟩
      have HMn := Lib.hid (take_map13 Dm.peerT hlt HM.out (x := Dm.peerT (p1, p2)) (by rw [hpj]))
      have hpb := HZ.out _ (List.getElem_mem hlt)
      rw [hpj] at hc0 hc1 hpb
      have hp1 : p1 < 18446744073709551616 := hpb.1
      have hp2 : p2 < 65536 := hpb.2
      have e0 : wr.cell? ⟨bk, ok + j * 2, none⟩ = some (.int .u64 (p1 : Int)) := (World.cell?_of_block (a := ⟨bk, ok + j * 2, none⟩) (hBw.block bk hbk)).trans hc0
      have e1 : wr.cell? ⟨bk, ok + j * 2 + 1, none⟩ = some (.int .u16 (p2 : Int)) := (World.cell?_of_block (a := ⟨bk, ok + j * 2 + 1, none⟩) (hBw.block bk hbk)).trans hc1
      have CP := Lib.hid (fun W => peertree13_any (p1, p2) hp1 hp2 W)
      unfold Dm.peerT at CP
      dsimp only [tval, Dm.text, Tn.kind, Tn.n, Tn.s] at CP
      obtain ⟨S, hS⟩ : ∃ S, Hid (Dm.peerS (p1, p2) = S) := ⟨_, Lib.hid rfl⟩
      have HSz : Hid (S.size ≤ maxLen) := Lib.hid (by rw [← hS.out]; unfold Dm.peerS; rw [strOf_size, List.length_append, Bm.fix_length, Bm.fix_length]; unfold maxLen; omega)
      rw [show Dm.peerT (p1, p2) = Dm.text S by rw [← hS.out]; rfl] at HMn
      rw [hS.out] at CP
      clear hc0 hc1 hpj hpb hp1 hp2
      obtain ⟨A9, c9, rfl, _, _, _, _⟩ := own_look HI.out.row
      obtain ⟨gv, u0, ua, wu, hgv, halv, ⟨z0, f0⟩, hst0, ⟨z1, f1⟩, hst1, hw1, hzv, hbb⟩ := two13 wr 32 (.int .u64 0) (.int .u16 0) (.int .u64 (p1 : Int)) (.int .u16 (p2 : Int))
      have HBu : Hid (Below wr.heap.size wr wu) := Lib.hid (by rw [hgv]; exact hbb)
      have HIu := Lib.hid (HI.out.behind HBu.out)
      have HW1 := Lib.hid hw1
      clear hw1 hbb hzv
      go_wp2_with (refine wpList_load_struct Tryz.underlying32 (peerI rfl) rfl rfl rfl HW1.out ?_)
      refine (CP.out _).mono ?_
      rintro e w2 ⟨rfl, hb2⟩
      have HI2 := Lib.hid (HIu.out.behind hb2)
      have HT2 : Hid (Tl w2 wu.heap.size (Dm.text S) (.slice none 0 0) (.slice none 0 0)) := Lib.hid (Tl.leaf _ _ (by omega) (by omega) HSz.out)
      have HN2 := Lib.hid (HIu.out.new HT2.out)

      obtain ⟨z, hz⟩ : ∃ z, w2.heap.size = z := ⟨_, rfl⟩
      obtain ⟨wa, hala⟩ : ∃ wa, w2.alloc (.cells #[.int .i64 2, .int .i64 0, .string S, .slice none 0 0, .slice none 0 0] 25) = wa := ⟨_, rfl⟩
      have hBa : Below w2.heap.size w2 wa := by rw [hz, ← hala]; exact below_lit _ hz _
      have HSa : Hid (Src wa (some ⟨z, 0, none⟩) (five [(Dm.text S, .slice none 0 0, .slice none 0 0)])) := Lib.hid (by rw [← hala]; exact src5 hz _ _ _)
      have HIa := Lib.hid (HI2.out.behind hBa)
      have HNa : Hid (Tp wa (fun b => (Value.slice A9 L.length c9).ownBlock ≠ some b) (Dm.text S) (.slice none 0 0) (.slice none 0 0)) := Lib.hid (HN2.out.keep (fun b p q => ⟨p, hBa.block b q⟩))
      have hsa : s1 ≤ wa.heap.size := HIa.out.low
      clear hBa hb2
      go_upto_region 5 with (at_builtin; refine wpList_append_cells Tryz.underlying23 treeZ rfl (by decide) (by decide) _ _ rfl rfl s1 (.slice A9 L.length c9) L.length _ rfl HIa.out.row 1 1 (five [(Dm.text S, .slice none 0 0, .slice none 0 0)]) rfl rfl (fun h => by cases h) (Nat.le_refl _) HSa.out (by simp [five, Value.oneCell']) (by have := hLj.out; omega) hsa ?_; intro v7 w7 ho7 hg7 hv7; obtain ⟨g7, c7, rfl, hg7a, hg7b⟩ := ho7.form (by omega))
      have HI7 := Lib.hid (HIa.out.kid HNa.out ho7 hg7 hv7)
      have HLn : Hid ((L ++ [((Dm.text S : Tn), (.slice none 0 0 : Value), (.slice none 0 0 : Value))]).length = j + 1) := Lib.hid (by rw [List.length_append, hLj.out]; rfl)
      have HMn2 : Hid ((L ++ [((Dm.text S : Tn), (.slice none 0 0 : Value), (.slice none 0 0 : Value))]).map (·.1) = (l.take (j + 1)).map Dm.peerT) := Lib.hid (by rw [List.map_append]; exact HMn.out)
      clear ho7 hg7 hv7 hg7a hg7b
      go_wp2_with fail
      go_roundw
      case rel => exact ⟨j + 1, _, by go_num, by omega, HLn, HI7, HMn2⟩
      case measure => simp [intOf]; omega
    · have hjn : j = l.length := by omega
      subst hjn
      rw [List.take_length] at HM
      have HK := Lib.hid HI.out.kv
      have hlen : (l.map Dm.peerT).length ≤ 1000000 := by rw [List.length_map]; exact hl
      have CL := Lib.hid (list11_at (by have h := HK.out; rw [HM.out] at h; exact h) hlen (fun u hu => by
        obtain ⟨y, _, rfl⟩ := List.mem_map.1 hu
        exact Tn.Few.leaf _ _ _))
      have HY2 := Lib.hid (HY.out.below HI.out.bel (by omega))
      have HBr := Lib.hid (HB1.out.trans (HI.out.bel.mono (by omega)))
      have hlow := HI.out.low
      obtain ⟨A9, c9, rfl, _, _, _, _⟩ := own_look HI.out.row
      rw [HX.out] at CL
      clear HI HM HK
      go_wp2_with fail
      refine (CL.out).mono ?_
      rintro e w3 ⟨yk, yq, rfl, hv3, hb3⟩
      obtain ⟨A1, e1, rfl, _⟩ := hv3.tv.keys
      obtain ⟨A2, e2, rfl, _⟩ := hv3.tv.kids
      have HY3 := Lib.hid (HY2.out.below hb3 (by omega))
      have HB3 := Lib.hid (HBr.out.trans (hb3.mono (by omega)))
      have HV : Hid (∀ cs, Tl (w3.setRow g cs) w.heap.size X (.slice A1 X.keys.length e1) (.slice A2 X.kids.length e2)) := Lib.hid (fun cs => (hv3.from_ ((From.refl wr.heap.size w3).setRow (by omega) cs)).less (by omega))
      clear hv3 hb3 CL
      go_wp2_with (refine wpList_store_whole rfl rfl rfl rfl rfl HY3.out (treeI rfl) rfl (by simp [Value.oneCell']) ?_)
      refine bodyPost_ret (v := tval X (.slice A1 X.keys.length e1) (.slice A2 X.kids.length e2)) ?_ rfl ⟨_, _, rfl, HV.out _, by rw [hg]; exact below_row HB3.out (by omega) _⟩
      exact results_tree rfl rfl (HY3.out.row _) rfl

set_option maxHeartbeats 4000000 in
theorem listpair13_any {w : World} {B : Nat} {v : Value} {l : List (ByteArray × ByteArray)} (h : Sl fPair w B v l) (hl : l.length ≤ 1000000) (hb : ∀ p ∈ l, p.1.size ≤ maxLen ∧ p.2.size ≤ maxLen) :
    Calls Tryz.prog 44 #[v, .func (.func 45) #[] #[]] w fun e w' => ∃ uk uq, e = .returned (tval (Dm.list (l.map Dm.pairT)) uk uq) ∧ Tl w' w.heap.size (Dm.list (l.map Dm.pairT)) uk uq ∧ Below w.heap.size w w' := by
  obtain ⟨A, c, rfl, hS, h1, h2, h3⟩ := h.ex
  have HS := Lib.hid hS.all
  have HZ := Lib.hid hb
  clear h hS h3 hb
  unfold maxLen at h2
  obtain ⟨X, hX⟩ : ∃ X, Hid (Dm.list (l.map Dm.pairT) = X) := ⟨_, Lib.hid rfl⟩
  rw [hX.out]
  have HX : Hid (Tn.listOf (l.map Dm.pairT) = X) := Lib.hid hX.out
  obtain ⟨g, w1, hg, hal, hY, hb1, hs1⟩ := var_tree w
  have HY := Lib.hid hY
  have HB1 := Lib.hid hb1
  have HL0 : Hid (Ls w1.heap.size w1 [] (.slice none 0 0) w1) := Lib.hid (Ls.start (Below.refl _ _) (Nat.le_refl _))
  clear hY hb1

  go_enter Tryz.func44, Tryz.ntmps44
  go_wp2_with fail
  obtain ⟨s1, hz1⟩ : ∃ s, w1.heap.size = s := ⟨_, rfl⟩
  rw [hz1] at HL0
  go_loopw [5, 10] (fun vl vi wr => ∃ (j : Nat) (L : List Tq), vi = .int .i64 (j : Int) ∧ j ≤ l.length ∧ Hid (L.length = j) ∧ Hid (Ls s1 w1 L vl wr) ∧ Hid (L.map (·.1) = (l.take j).map Dm.pairT)) (fun _ vi _ => l.length - (intOf vi).toNat)
  case atStart => exact ⟨0, [], rfl, Nat.zero_le _, Lib.hid rfl, HL0, Lib.hid rfl⟩
  case round =>
    obtain ⟨j, L, rfl, hj, hLj, HI, HM⟩ := hrel
    clear HL0
    by_cases hlt : j < l.length
    · have hlt' : (j : Int) < (l.length : Int) := by omega
      have hBw : Below w.heap.size w wr := HB1.out.mono (by omega) |>.trans (HI.out.bel.mono (by omega))

      obtain ⟨bk, ok, rfl, hbk, hc0, hc1⟩ := HS.out.at_ hlt
      obtain ⟨p1, p2, hpj⟩ : ∃ p1 p2, l[j] = (p1, p2) := ⟨_, _, rfl⟩
      have HMn := Lib.hid (take_map13 Dm.pairT hlt HM.out (x := Dm.pairT (p1, p2)) (by rw [hpj]))
      have hpb := HZ.out _ (List.getElem_mem hlt)
      rw [hpj] at hc0 hc1 hpb
      have hp1 : p1.size ≤ maxLen := hpb.1
      have hp2 : p2.size ≤ maxLen := hpb.2
      have e0 : wr.cell? ⟨bk, ok + j * 2, none⟩ = some (.string p1) := (World.cell?_of_block (a := ⟨bk, ok + j * 2, none⟩) (hBw.block bk hbk)).trans hc0
      have e1 : wr.cell? ⟨bk, ok + j * 2 + 1, none⟩ = some (.string p2) := (World.cell?_of_block (a := ⟨bk, ok + j * 2 + 1, none⟩) (hBw.block bk hbk)).trans hc1
      have CP := Lib.hid (fun W => pairtree13_any (p1, p2) hp1 hp2 W)
      obtain ⟨x, hx⟩ : ∃ X, Hid (Dm.pairT (p1, p2) = X) := ⟨_, Lib.hid rfl⟩
      rw [hx.out] at CP HMn
      unfold tval at CP
      clear hc0 hc1 hpj hpb hp1 hp2
      obtain ⟨A9, c9, rfl, _, _, _, _⟩ := own_look HI.out.row
      obtain ⟨gv, u0, ua, wu, hgv, halv, ⟨z0, f0⟩, hst0, ⟨z1, f1⟩, hst1, hw1, hzv, hbb⟩ := two13 wr 65 (.string ⟨#[]⟩) (.string ⟨#[]⟩) (.string p1) (.string p2)
      have HBu : Hid (Below wr.heap.size wr wu) := Lib.hid (by rw [hgv]; exact hbb)
      have HIu := Lib.hid (HI.out.behind HBu.out)
      have HW1 := Lib.hid hw1
      clear hw1 hbb hzv
      go_wp2_with (refine wpList_load_struct Tryz.underlying65 (pairI13 rfl) rfl rfl rfl HW1.out ?_)
      refine (CP.out _).mono ?_
      rintro e w2 ⟨xk, xq, rfl, hx2, hb2⟩
      obtain ⟨Ak, ck, rfl, _⟩ := hx2.tv.keys
      obtain ⟨Aq, cq, rfl, _⟩ := hx2.tv.kids
      have HI2 := Lib.hid (HIu.out.behind hb2)
      have HN2 := Lib.hid (HIu.out.new hx2)
      clear hx2

      obtain ⟨z, hz⟩ : ∃ z, w2.heap.size = z := ⟨_, rfl⟩
      obtain ⟨wa, hala⟩ : ∃ wa, w2.alloc (.cells #[.int .i64 x.kind, .int .i64 x.n, .string x.s, .slice Ak x.keys.length ck, .slice Aq x.kids.length cq] 25) = wa := ⟨_, rfl⟩
      have hBa : Below w2.heap.size w2 wa := by rw [hz, ← hala]; exact below_lit _ hz _
      have HSa : Hid (Src wa (some ⟨z, 0, none⟩) (five [(x, .slice Ak x.keys.length ck, .slice Aq x.kids.length cq)])) := Lib.hid (by rw [← hala]; exact src5 hz _ _ _)
      have HIa := Lib.hid (HI2.out.behind hBa)
      have HNa : Hid (Tp wa (fun b => (Value.slice A9 L.length c9).ownBlock ≠ some b) (x) (.slice Ak x.keys.length ck) (.slice Aq x.kids.length cq)) := Lib.hid (HN2.out.keep (fun b p q => ⟨p, hBa.block b q⟩))
      have hsa : s1 ≤ wa.heap.size := HIa.out.low
      clear hBa hb2
      go_upto_region 5 with (at_builtin; refine wpList_append_cells Tryz.underlying23 treeZ rfl (by decide) (by decide) _ _ rfl rfl s1 (.slice A9 L.length c9) L.length _ rfl HIa.out.row 1 1 (five [(x, .slice Ak x.keys.length ck, .slice Aq x.kids.length cq)]) rfl rfl (fun h => by cases h) (Nat.le_refl _) HSa.out (by simp [five, Value.oneCell']) (by have := hLj.out; omega) hsa ?_; intro v7 w7 ho7 hg7 hv7; obtain ⟨g7, c7, rfl, hg7a, hg7b⟩ := ho7.form (by omega))
      have HI7 := Lib.hid (HIa.out.kid HNa.out ho7 hg7 hv7)
      have HLn : Hid ((L ++ [((x : Tn), (.slice Ak x.keys.length ck : Value), (.slice Aq x.kids.length cq : Value))]).length = j + 1) := Lib.hid (by rw [List.length_append, hLj.out]; rfl)
      have HMn2 : Hid ((L ++ [((x : Tn), (.slice Ak x.keys.length ck : Value), (.slice Aq x.kids.length cq : Value))]).map (·.1) = (l.take (j + 1)).map Dm.pairT) := Lib.hid (by rw [List.map_append]; exact HMn.out)
      clear ho7 hg7 hv7 hg7a hg7b
      go_wp2_with fail
      go_roundw
      case rel => exact ⟨j + 1, _, by go_num, by omega, HLn, HI7, HMn2⟩
      case measure => simp [intOf]; omega
    · have hjn : j = l.length := by omega
      subst hjn
      rw [List.take_length] at HM
      have HK := Lib.hid HI.out.kv
      have hlen : (l.map Dm.pairT).length ≤ 1000000 := by rw [List.length_map]; exact hl
      have CL := Lib.hid (list11_at (by have h := HK.out; rw [HM.out] at h; exact h) hlen (fun u hu => by
        obtain ⟨y, _, rfl⟩ := List.mem_map.1 hu
        exact pairT_few _))
      have HY2 := Lib.hid (HY.out.below HI.out.bel (by omega))
      have HBr := Lib.hid (HB1.out.trans (HI.out.bel.mono (by omega)))
      have hlow := HI.out.low
      obtain ⟨A9, c9, rfl, _, _, _, _⟩ := own_look HI.out.row
      rw [HX.out] at CL
      clear HI HM HK
      go_wp2_with fail
      refine (CL.out).mono ?_
      rintro e w3 ⟨yk, yq, rfl, hv3, hb3⟩
      obtain ⟨A1, e1, rfl, _⟩ := hv3.tv.keys
      obtain ⟨A2, e2, rfl, _⟩ := hv3.tv.kids
      have HY3 := Lib.hid (HY2.out.below hb3 (by omega))
      have HB3 := Lib.hid (HBr.out.trans (hb3.mono (by omega)))
      have HV : Hid (∀ cs, Tl (w3.setRow g cs) w.heap.size X (.slice A1 X.keys.length e1) (.slice A2 X.kids.length e2)) := Lib.hid (fun cs => (hv3.from_ ((From.refl wr.heap.size w3).setRow (by omega) cs)).less (by omega))
      clear hv3 hb3 CL
      go_wp2_with (refine wpList_store_whole rfl rfl rfl rfl rfl HY3.out (treeI rfl) rfl (by simp [Value.oneCell']) ?_)
      refine bodyPost_ret (v := tval X (.slice A1 X.keys.length e1) (.slice A2 X.kids.length e2)) ?_ rfl ⟨_, _, rfl, HV.out _, by rw [hg]; exact below_row HB3.out (by omega) _⟩
      exact results_tree rfl rfl (HY3.out.row _) rfl
end Go.Proofs.YtldjdoebappkoaaGreatDoor
