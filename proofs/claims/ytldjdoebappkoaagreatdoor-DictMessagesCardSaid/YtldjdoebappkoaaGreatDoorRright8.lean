/- Contract of the reference's Right. -/
import Derived.Test.YtldjdoebappkoaaGreatDoorRbare8
import Derived.Test.YtldjdoebappkoaaGreatDoorPF
import Derived.Test.YtldjdoebappkoaaGreatDoorPE
import Derived.Test.YtldjdoebappkoaaGreatDoorPA
namespace Go.Proofs.YtldjdoebappkoaaGreatDoor
open Go.RowKit
set_option linter.unusedVariables false
set_option maxRecDepth 100000
open Gm

theorem name_known (k : Int) : ((at_ k).name.toList == [63]) = !known k := by
  have h := str_eq (at_ k).name ⟨#[63]⟩
  rw [show (⟨#[63]⟩ : ByteArray).toList = [63] from ByteArray.toList_mk [63]] at h
  rw [h]
  rcases kinds k with rfl | rfl | rfl | rfl | rfl | rfl | rfl | rfl | rfl | rfl | rfl | rfl | ⟨h1, h2⟩
  iterate 12 decide +kernel
  rw [at_none h1, h1]
  decide +kernel
theorem right_diff {m : Ms} (h : known m.kind = true) (h2 : same m (bare m) = false) : right m = 1 := by unfold right; rw [h, h2]; rfl
theorem right_same {m : Ms} (h : known m.kind = true) (h2 : same m (bare m) = true) : right m = bif badKey m then 7 else bif isLong m then 5 else bif isShort m then 2 else 0 := by unfold right; rw [h, h2]; rfl
theorem any_take {α : Type} {l : List α} {P : α → Bool} {i : Nat} (h : i < l.length) : (l.take (i + 1)).any P = ((l.take i).any P || P l[i]) := by
  rw [List.take_succ_eq_append_getElem h, List.any_append]
  simp
theorem beqf {a b : Int} (h : ¬ a = b) : (a == b) = false := by rw [beq_eq_false_iff_ne]; exact h
theorem beqt {a b : Int} (h : a = b) : (a == b) = true := by rw [h]; exact beq_self_eq_true b

set_option maxRecDepth 100000 in
set_option maxHeartbeats 1000000 in
theorem rright_k7 {w : World} {B : Nat} {m : Ms} {v : Value} (H : Mv w B m v) (hlp : m.peers.length ≤ 1000000000) (hlq : m.pairs.length ≤ 1000000000) (hkn : known m.kind = true)
    (e2 : (m.kind == 2) = false) (e7 : (m.kind == 7) = true) (e8 : (m.kind == 8) = false) (e10 : (m.kind == 10) = false) (e12 : (m.kind == 12) = false) :
    Calls Tryz.prog 22 #[v] w fun e w' => e = .returned (.int .i64 (right m : Int)) ∧ Below w.heap.size w w' := by
  obtain ⟨b, vp, vq, w0, rfl, hb, hal, hsz, hx, hb0⟩ := boxed H
  have HX := Lib.hid hx
  have HB := Lib.hid hb0
  obtain ⟨Ap, cp, rfl, _, hp1, hp2, _⟩ := hx.peers.ex
  obtain ⟨Aq, cq, rfl, hq0, hq1, hq2, _⟩ := hx.pairs.ex
  have hk := hx.ok.kind
  have HKey := Lib.hid hx.ok.key
  have HPs := Lib.hid hx.ok.pairs
  have hv := hx.ok.val
  unfold maxLen at hp2 hq2 hv
  have hnm := name_known m.kind
  rw [hkn] at hnm
  have R2 := Lib.hid (fun h2 => right_diff (m := m) hkn h2)
  have R3 := Lib.hid (fun h2 => right_same (m := m) hkn h2)
  have HLg : Hid (isLong m = ((decide (512 < m.val.size) || decide (16 < m.peers.length) || decide (8 < m.pairs.length)) || m.pairs.any long1)) := rfl
  have hoK : oKey m = true := by
    unfold oKey
    rw [decide_eq_true_iff]
    simp at e7 e8
    omega
  have HbK : Hid (badKey m = ((true && !isKey m.key) || m.pairs.any bad1)) := Lib.hid (by unfold badKey; rw [hoK]; rfl)
  have HSh : Hid (isShort m = false) := Lib.hid (by
    unfold isShort
    rw [show decide (m.kind = 2) = (m.kind == 2) by rw [Bool.eq_iff_iff]; simp, show decide (m.kind = 10) = (m.kind == 10) by rw [Bool.eq_iff_iff]; simp, show decide (m.kind = 12) = (m.kind == 12) by rw [Bool.eq_iff_iff]; simp, e2, e10, e12]
    simp)
  obtain ⟨r, hr⟩ : ∃ r, Hid (right m = r) := ⟨_, rfl⟩
  rw [hr.out] at R2 R3 ⊢
  obtain ⟨c0, c1, c2, c3, c4, c5, c6, c7, c8, c9, c10⟩ := hx.cells
  clear hb0 H hq0 hoK
  obtain ⟨n, hn⟩ : ∃ n, Hid (m.pairs.length = n) := ⟨_, rfl⟩
  go_enter Tryz.func22, Tryz.ntmps22
  go_wp2_with fail
  refine (rname_any m.kind hk _).mono ?_
  rintro e w1 ⟨rfl, hb1⟩
  have HB1 := Lib.hid hb1
  have hx1 := hx.kept hb1
  have HX1 := Lib.hid hx1
  clear hb1 hx c0 c1 c2 c3 c4 c5 c6 c7 c8 c9 c10
  obtain ⟨c0, c1, c2, c3, c4, c5, c6, c7, c8, c9, c10⟩ := hx1.cells
  clear hx1
  go_wp2_with fail
  clear c0 c1 c2 c3 c4 c5 c6 c7 c8 c9 c10
  refine wp_region_plan (S := fun W => Box W b m (.slice Ap m.peers.length cp) (.slice Aq m.pairs.length cq)) [(0, true), (1, true), (2, false), (3, false), (4, true)] (by kernel_rfl) (by kernel_rfl) rfl (by kernel_rfl) (fun _ _ _ _ _ h => h) HX1.out.drew ?_
  iterate 2
    refine along_take (v := ?_) rfl (by rfl) ?_ ?_
    rotate_left
    · intro W hW; have hW' : Box W b m (.slice Ap m.peers.length cp) (.slice Aq m.pairs.length cq) := hW; obtain ⟨c0, c1, c2, c3, c4, c5, c6, c7, c8, c9, c10⟩ := hW'.cells; clear hW hW'; go_simp; try with_reducible rfl
    simp only [Act.put, List.setIfInBounds_toArray, List.set_cons_zero, List.set_cons_succ]
  refine along_step rfl (fun K hK => ?_)
  go_simp
  refine (rbare_any HX1.out.drew.mv hlp hlq).mono ?_
  rintro e w2 ⟨vb, rfl, hmb, hb2⟩
  have HB2 : Hid (Below w1.heap.size w1 w2) := Lib.hid ((Below.refl _ _).drew.trans hb2)
  have HX2 := Lib.hid (HX1.out.kept HB2.out)
  have HMB := Lib.hid hmb
  clear hb2 hmb
  refine hK.out _ _ HX2.out ?_
  clear hK K
  try simp only [Act.put, List.setIfInBounds_toArray, List.set_cons_zero, List.set_cons_succ]
  refine along_step rfl (fun K hK => ?_)
  go_simp
  refine (rmsame_any HX2.out.mv HMB.out).mono ?_
  rintro e w3 ⟨rfl, hb3⟩
  have HB3 : Hid (Below b w w3) := Lib.hid (HB.out.trans ((HB1.out.trans ((HB2.out.trans (hb3.mono HB2.out.size)).mono HB1.out.size)).mono (by omega)))
  have HX3 := Lib.hid (HX2.out.kept hb3)
  refine hK.out _ _ HX3.out ?_
  clear hK K hb3
  try simp only [Act.put, List.setIfInBounds_toArray, List.set_cons_zero, List.set_cons_succ]
  refine along_take (v := ?_) rfl (by rfl) ?_ ?_
  rotate_left
  · intro W hW; clear hW; go_simp; try with_reducible rfl
  simp only [Act.put, List.setIfInBounds_toArray, List.set_cons_zero, List.set_cons_succ]
  refine along_done ?_
  obtain ⟨c0, c1, c2, c3, c4, c5, c6, c7, c8, c9, c10⟩ := HX3.out.cells
  clear HB1 HB2 HX1 HX2 HMB
  cases hsm : same m (bare m)
  case false =>
    have e := R2.out hsm
    subst e
    go_wp2_with fail
    go_ret
    exact ⟨rfl, by first | exact HB3.out | (rw [hb]; exact HB3.out)⟩
  have HR := Lib.hid (R3.out hsm)
  clear R2 R3
  go_wp2_with fail
  refine (rkey_any m.key HKey.out _).mono ?_
  rintro e w4 ⟨rfl, hb4⟩
  have HB4 : Hid (Below b w w4) := Lib.hid (HB3.out.trans (hb4.mono (by have := HX3.out.lt; omega)))
  have hx4 := HX3.out.kept hb4
  have HX4 := Lib.hid hx4
  clear hb4 c0 c1 c2 c3 c4 c5 c6 c7 c8 c9 c10
  obtain ⟨c0, c1, c2, c3, c4, c5, c6, c7, c8, c9, c10⟩ := hx4.cells
  clear hx4
  cases hik : isKey m.key
  case false =>
    have er : r = 7 := by rw [HR.out, HbK.out, hik]; rfl
    subst er
    go_wp2_with fail
    go_ret
    exact ⟨rfl, by first | exact HB4.out | (rw [hb]; exact HB4.out)⟩
  have HbK2 : Hid (badKey m = m.pairs.any bad1) := Lib.hid (by rw [HbK.out, hik]; rfl)
  have HLg2 : Hid (isLong m = ((decide (512 < m.val.size) || decide (16 < m.peers.length) || decide (8 < n)) || m.pairs.any long1)) := by rw [← hn.out]; exact HLg
  have HTQ := Lib.hid HX4.out.pairs
  rw [hn.out] at hq1 c10
  clear HLg
  go_wp2_with fail
  all_goals
   go_loopw [3, 4] (fun vL v wr => ∃ (i : Nat) (L : Bool), i ≤ n ∧ v = .int .i64 i ∧ vL = .bool L ∧ Hid (Below b w wr) ∧ Hid (Box wr b m (.slice Ap m.peers.length cp) (.slice Aq m.pairs.length cq)) ∧ Hid (∀ j, j < i → ∀ (ha : j < m.pairs.length), bad1 m.pairs[j] = false) ∧ Hid (L = ((decide (512 < m.val.size) || decide (16 < m.peers.length) || decide (8 < n)) || (m.pairs.take i).any long1))) (fun _ v _ => n - (intOf v).toNat)
   case atStart => exact ⟨0, _, by omega, rfl, rfl, HB4, HX4, Lib.hid (fun j hj => by omega), Lib.hid (by rw [Bool.eq_iff_iff]; first | (simp; done) | (simp; omega) | (simp_all; done) | (simp_all; omega))⟩
   case round =>
     clear c0 c1 c2 c3 c4 c5 c6 c7 c8 c9 c10
     obtain ⟨i, L, hi, rfl, rfl, HBr, HXr, HI, HL⟩ := hrel
     have c10 : wr.cell? ⟨b, 10, none⟩ = some (.slice Aq n cq) := by have := HXr.out.bx.at_ 10; rw [← hn.out]; exact this
     by_cases hlt : i < n
     · have hia : i < m.pairs.length := by rw [hn.out]; exact hlt
       obtain ⟨Aq', cq', eq', TQ', _⟩ := HXr.out.pairs.ex
       obtain ⟨rfl, rfl⟩ : Aq = Aq' ∧ cq = cq' := by injection eq' with h1 h2 h3; exact ⟨h1, h3⟩
       obtain ⟨b1, o1, rfl, hlb, d0, d1⟩ := TQ'.at_ hia
       have HT2 : Hid (Two fPair wr b (some ⟨b1, o1, none⟩) m.pairs) := TQ'
       clear eq' TQ'
       have HN : Hid (bad1 m.pairs[i] = true → m.pairs.any bad1 = true) := Lib.hid (fun h => List.any_eq_true.2 ⟨_, List.getElem_mem hia, h⟩)
       have HS : Hid (bad1 m.pairs[i] = false → ∀ j, j < i + 1 → ∀ (ha : j < m.pairs.length), bad1 m.pairs[j] = false) := Lib.hid (fun h j hj ha => by
         by_cases e : j = i
         · subst e; exact h
         · exact HI.out j (by omega) ha)
       have HTk := Lib.hid (any_take (P := long1) hia)
       have OK1 := HPs.out _ (List.getElem_mem hia)
       obtain ⟨p, hp⟩ : ∃ p : ByteArray × ByteArray, Hid (m.pairs[i] = p) := ⟨m.pairs[i], Lib.hid rfl⟩
       have HT3 := Lib.hid (fun W (h : Below wr.heap.size wr W) => (HT2.out.all.below h).at_ hia)
       obtain ⟨p1, p2⟩ := p
       rw [hp.out] at d0 d1 HN HS OK1 HTk HT3
       simp only [fPair] at d0 d1 HT3
       simp only at OK1
       have C := Lib.hid (rkey_any p1 OK1.1)
       have OK2 := OK1.2
       unfold maxLen at OK2
       clear OK1 HI
       go_wp2_with fail
       refine (C.out _).mono ?_
       rintro e w5 ⟨rfl, hb5⟩
       have HB5 : Hid (Below b w w5) := Lib.hid (HBr.out.trans (hb5.mono (by have := HXr.out.lt; omega)))
       have HX5 := Lib.hid (HXr.out.kept hb5)
       obtain ⟨b2, o2, ee, _, d2, d3⟩ := HT3.out w5 hb5
       injection ee with ee
       injection ee with ee1 ee2 _
       subst ee1 ee2
       have c10' : w5.cell? ⟨b, 10, none⟩ = some (.slice (some ⟨b1, o1, none⟩) n cq) := by have := HX5.out.bx.at_ 10; rw [← hn.out]; exact this
       clear hb5 d0 d1 c10
       cases hd : isKey p1
       · have HN' := Lib.hid (HN.out (by unfold bad1; rw [hd]; rfl))
         have er : r = 7 := by rw [HR.out, HbK2.out, HN'.out]; rfl
         subst er
         clear HS HN
         go_wp2_with fail
         go_ret
         exact ⟨rfl, by first | exact HB5.out | (rw [hb]; exact HB5.out)⟩
       · have HS' := Lib.hid (HS.out (by unfold bad1; rw [hd]; rfl))
         clear HS HN
         by_cases h512 : 512 < p2.size
         · go_wp2_with fail
           go_roundw
           case rel => exact ⟨i + 1, true, by omega, by go_num, rfl, HB5, HX5, HS', Lib.hid (by rw [HTk.out]; unfold long1; rw [decide_eq_true h512]; simp)⟩
           case measure => simp [intOf]; omega
         · go_wp2_with fail
           go_roundw
           case rel => exact ⟨i + 1, L, by omega, by go_num, rfl, HB5, HX5, HS', Lib.hid (by rw [HTk.out, HL.out]; unfold long1; rw [decide_eq_false h512, Bool.or_false])⟩
           case measure => simp [intOf]; omega
     · have HE : Hid (m.pairs.any bad1 = false) := Lib.hid (by
         rw [List.any_eq_false]
         intro x hx
         obtain ⟨j, hj, rfl⟩ := List.getElem_of_mem hx
         rw [HI.out j (by have := hn.out; omega) hj]
         simp)
       have HLL : Hid (isLong m = L) := Lib.hid (by rw [HLg2.out, HL.out, List.take_of_length_le (by have := hn.out; omega)])
       have HR2 : Hid (r = bif L then 5 else bif isShort m then 2 else 0) := Lib.hid (by rw [HR.out, HbK2.out, HE.out, HLL.out]; rfl)
       have c0' : wr.cell? ⟨b, 0, none⟩ = some (.int .i64 m.kind) := HXr.out.bx.at_ 0
       have c2' : wr.cell? ⟨b, 2, none⟩ = some (.int .u8 (m.code : Int)) := HXr.out.bx.at_ 2
       have c9' : wr.cell? ⟨b, 9, none⟩ = some (.slice Ap m.peers.length cp) := HXr.out.bx.at_ 9
       cases L
       case true =>
         have er : r = 5 := by rw [HR2.out]; rfl
         subst er
         go_wp2_with fail
         go_ret
         exact ⟨rfl, by first | exact HBr.out | (rw [hb]; exact HBr.out)⟩
       have er : r = 0 := by rw [HR2.out, HSh.out]; rfl
       subst er
       go_wp2_with fail
       go_ret
       exact ⟨rfl, by first | exact HBr.out | (rw [hb]; exact HBr.out)⟩

set_option maxRecDepth 100000 in
set_option maxHeartbeats 1000000 in
theorem rright_k8 {w : World} {B : Nat} {m : Ms} {v : Value} (H : Mv w B m v) (hlp : m.peers.length ≤ 1000000000) (hlq : m.pairs.length ≤ 1000000000) (hkn : known m.kind = true)
    (e2 : (m.kind == 2) = false) (e7 : (m.kind == 7) = false) (e8 : (m.kind == 8) = true) (e10 : (m.kind == 10) = false) (e12 : (m.kind == 12) = false) :
    Calls Tryz.prog 22 #[v] w fun e w' => e = .returned (.int .i64 (right m : Int)) ∧ Below w.heap.size w w' := by
  obtain ⟨b, vp, vq, w0, rfl, hb, hal, hsz, hx, hb0⟩ := boxed H
  have HX := Lib.hid hx
  have HB := Lib.hid hb0
  obtain ⟨Ap, cp, rfl, _, hp1, hp2, _⟩ := hx.peers.ex
  obtain ⟨Aq, cq, rfl, hq0, hq1, hq2, _⟩ := hx.pairs.ex
  have hk := hx.ok.kind
  have HKey := Lib.hid hx.ok.key
  have HPs := Lib.hid hx.ok.pairs
  have hv := hx.ok.val
  unfold maxLen at hp2 hq2 hv
  have hnm := name_known m.kind
  rw [hkn] at hnm
  have R2 := Lib.hid (fun h2 => right_diff (m := m) hkn h2)
  have R3 := Lib.hid (fun h2 => right_same (m := m) hkn h2)
  have HLg : Hid (isLong m = ((decide (512 < m.val.size) || decide (16 < m.peers.length) || decide (8 < m.pairs.length)) || m.pairs.any long1)) := rfl
  have hoK : oKey m = true := by
    unfold oKey
    rw [decide_eq_true_iff]
    simp at e7 e8
    omega
  have HbK : Hid (badKey m = ((true && !isKey m.key) || m.pairs.any bad1)) := Lib.hid (by unfold badKey; rw [hoK]; rfl)
  have HSh : Hid (isShort m = false) := Lib.hid (by
    unfold isShort
    rw [show decide (m.kind = 2) = (m.kind == 2) by rw [Bool.eq_iff_iff]; simp, show decide (m.kind = 10) = (m.kind == 10) by rw [Bool.eq_iff_iff]; simp, show decide (m.kind = 12) = (m.kind == 12) by rw [Bool.eq_iff_iff]; simp, e2, e10, e12]
    simp)
  obtain ⟨r, hr⟩ : ∃ r, Hid (right m = r) := ⟨_, rfl⟩
  rw [hr.out] at R2 R3 ⊢
  obtain ⟨c0, c1, c2, c3, c4, c5, c6, c7, c8, c9, c10⟩ := hx.cells
  clear hb0 H hq0 hoK
  obtain ⟨n, hn⟩ : ∃ n, Hid (m.pairs.length = n) := ⟨_, rfl⟩
  go_enter Tryz.func22, Tryz.ntmps22
  go_wp2_with fail
  refine (rname_any m.kind hk _).mono ?_
  rintro e w1 ⟨rfl, hb1⟩
  have HB1 := Lib.hid hb1
  have hx1 := hx.kept hb1
  have HX1 := Lib.hid hx1
  clear hb1 hx c0 c1 c2 c3 c4 c5 c6 c7 c8 c9 c10
  obtain ⟨c0, c1, c2, c3, c4, c5, c6, c7, c8, c9, c10⟩ := hx1.cells
  clear hx1
  go_wp2_with fail
  clear c0 c1 c2 c3 c4 c5 c6 c7 c8 c9 c10
  refine wp_region_plan (S := fun W => Box W b m (.slice Ap m.peers.length cp) (.slice Aq m.pairs.length cq)) [(0, true), (1, true), (2, false), (3, false), (4, true)] (by kernel_rfl) (by kernel_rfl) rfl (by kernel_rfl) (fun _ _ _ _ _ h => h) HX1.out.drew ?_
  iterate 2
    refine along_take (v := ?_) rfl (by rfl) ?_ ?_
    rotate_left
    · intro W hW; have hW' : Box W b m (.slice Ap m.peers.length cp) (.slice Aq m.pairs.length cq) := hW; obtain ⟨c0, c1, c2, c3, c4, c5, c6, c7, c8, c9, c10⟩ := hW'.cells; clear hW hW'; go_simp; try with_reducible rfl
    simp only [Act.put, List.setIfInBounds_toArray, List.set_cons_zero, List.set_cons_succ]
  refine along_step rfl (fun K hK => ?_)
  go_simp
  refine (rbare_any HX1.out.drew.mv hlp hlq).mono ?_
  rintro e w2 ⟨vb, rfl, hmb, hb2⟩
  have HB2 : Hid (Below w1.heap.size w1 w2) := Lib.hid ((Below.refl _ _).drew.trans hb2)
  have HX2 := Lib.hid (HX1.out.kept HB2.out)
  have HMB := Lib.hid hmb
  clear hb2 hmb
  refine hK.out _ _ HX2.out ?_
  clear hK K
  try simp only [Act.put, List.setIfInBounds_toArray, List.set_cons_zero, List.set_cons_succ]
  refine along_step rfl (fun K hK => ?_)
  go_simp
  refine (rmsame_any HX2.out.mv HMB.out).mono ?_
  rintro e w3 ⟨rfl, hb3⟩
  have HB3 : Hid (Below b w w3) := Lib.hid (HB.out.trans ((HB1.out.trans ((HB2.out.trans (hb3.mono HB2.out.size)).mono HB1.out.size)).mono (by omega)))
  have HX3 := Lib.hid (HX2.out.kept hb3)
  refine hK.out _ _ HX3.out ?_
  clear hK K hb3
  try simp only [Act.put, List.setIfInBounds_toArray, List.set_cons_zero, List.set_cons_succ]
  refine along_take (v := ?_) rfl (by rfl) ?_ ?_
  rotate_left
  · intro W hW; clear hW; go_simp; try with_reducible rfl
  simp only [Act.put, List.setIfInBounds_toArray, List.set_cons_zero, List.set_cons_succ]
  refine along_done ?_
  obtain ⟨c0, c1, c2, c3, c4, c5, c6, c7, c8, c9, c10⟩ := HX3.out.cells
  clear HB1 HB2 HX1 HX2 HMB
  cases hsm : same m (bare m)
  case false =>
    have e := R2.out hsm
    subst e
    go_wp2_with fail
    go_ret
    exact ⟨rfl, by first | exact HB3.out | (rw [hb]; exact HB3.out)⟩
  have HR := Lib.hid (R3.out hsm)
  clear R2 R3
  go_wp2_with fail
  refine (rkey_any m.key HKey.out _).mono ?_
  rintro e w4 ⟨rfl, hb4⟩
  have HB4 : Hid (Below b w w4) := Lib.hid (HB3.out.trans (hb4.mono (by have := HX3.out.lt; omega)))
  have hx4 := HX3.out.kept hb4
  have HX4 := Lib.hid hx4
  clear hb4 c0 c1 c2 c3 c4 c5 c6 c7 c8 c9 c10
  obtain ⟨c0, c1, c2, c3, c4, c5, c6, c7, c8, c9, c10⟩ := hx4.cells
  clear hx4
  cases hik : isKey m.key
  case false =>
    have er : r = 7 := by rw [HR.out, HbK.out, hik]; rfl
    subst er
    go_wp2_with fail
    go_ret
    exact ⟨rfl, by first | exact HB4.out | (rw [hb]; exact HB4.out)⟩
  have HbK2 : Hid (badKey m = m.pairs.any bad1) := Lib.hid (by rw [HbK.out, hik]; rfl)
  have HLg2 : Hid (isLong m = ((decide (512 < m.val.size) || decide (16 < m.peers.length) || decide (8 < n)) || m.pairs.any long1)) := by rw [← hn.out]; exact HLg
  have HTQ := Lib.hid HX4.out.pairs
  rw [hn.out] at hq1 c10
  clear HLg
  go_wp2_with fail
  all_goals
   go_loopw [3, 4] (fun vL v wr => ∃ (i : Nat) (L : Bool), i ≤ n ∧ v = .int .i64 i ∧ vL = .bool L ∧ Hid (Below b w wr) ∧ Hid (Box wr b m (.slice Ap m.peers.length cp) (.slice Aq m.pairs.length cq)) ∧ Hid (∀ j, j < i → ∀ (ha : j < m.pairs.length), bad1 m.pairs[j] = false) ∧ Hid (L = ((decide (512 < m.val.size) || decide (16 < m.peers.length) || decide (8 < n)) || (m.pairs.take i).any long1))) (fun _ v _ => n - (intOf v).toNat)
   case atStart => exact ⟨0, _, by omega, rfl, rfl, HB4, HX4, Lib.hid (fun j hj => by omega), Lib.hid (by rw [Bool.eq_iff_iff]; first | (simp; done) | (simp; omega) | (simp_all; done) | (simp_all; omega))⟩
   case round =>
     clear c0 c1 c2 c3 c4 c5 c6 c7 c8 c9 c10
     obtain ⟨i, L, hi, rfl, rfl, HBr, HXr, HI, HL⟩ := hrel
     have c10 : wr.cell? ⟨b, 10, none⟩ = some (.slice Aq n cq) := by have := HXr.out.bx.at_ 10; rw [← hn.out]; exact this
     by_cases hlt : i < n
     · have hia : i < m.pairs.length := by rw [hn.out]; exact hlt
       obtain ⟨Aq', cq', eq', TQ', _⟩ := HXr.out.pairs.ex
       obtain ⟨rfl, rfl⟩ : Aq = Aq' ∧ cq = cq' := by injection eq' with h1 h2 h3; exact ⟨h1, h3⟩
       obtain ⟨b1, o1, rfl, hlb, d0, d1⟩ := TQ'.at_ hia
       have HT2 : Hid (Two fPair wr b (some ⟨b1, o1, none⟩) m.pairs) := TQ'
       clear eq' TQ'
       have HN : Hid (bad1 m.pairs[i] = true → m.pairs.any bad1 = true) := Lib.hid (fun h => List.any_eq_true.2 ⟨_, List.getElem_mem hia, h⟩)
       have HS : Hid (bad1 m.pairs[i] = false → ∀ j, j < i + 1 → ∀ (ha : j < m.pairs.length), bad1 m.pairs[j] = false) := Lib.hid (fun h j hj ha => by
         by_cases e : j = i
         · subst e; exact h
         · exact HI.out j (by omega) ha)
       have HTk := Lib.hid (any_take (P := long1) hia)
       have OK1 := HPs.out _ (List.getElem_mem hia)
       obtain ⟨p, hp⟩ : ∃ p : ByteArray × ByteArray, Hid (m.pairs[i] = p) := ⟨m.pairs[i], Lib.hid rfl⟩
       have HT3 := Lib.hid (fun W (h : Below wr.heap.size wr W) => (HT2.out.all.below h).at_ hia)
       obtain ⟨p1, p2⟩ := p
       rw [hp.out] at d0 d1 HN HS OK1 HTk HT3
       simp only [fPair] at d0 d1 HT3
       simp only at OK1
       have C := Lib.hid (rkey_any p1 OK1.1)
       have OK2 := OK1.2
       unfold maxLen at OK2
       clear OK1 HI
       go_wp2_with fail
       refine (C.out _).mono ?_
       rintro e w5 ⟨rfl, hb5⟩
       have HB5 : Hid (Below b w w5) := Lib.hid (HBr.out.trans (hb5.mono (by have := HXr.out.lt; omega)))
       have HX5 := Lib.hid (HXr.out.kept hb5)
       obtain ⟨b2, o2, ee, _, d2, d3⟩ := HT3.out w5 hb5
       injection ee with ee
       injection ee with ee1 ee2 _
       subst ee1 ee2
       have c10' : w5.cell? ⟨b, 10, none⟩ = some (.slice (some ⟨b1, o1, none⟩) n cq) := by have := HX5.out.bx.at_ 10; rw [← hn.out]; exact this
       clear hb5 d0 d1 c10
       cases hd : isKey p1
       · have HN' := Lib.hid (HN.out (by unfold bad1; rw [hd]; rfl))
         have er : r = 7 := by rw [HR.out, HbK2.out, HN'.out]; rfl
         subst er
         clear HS HN
         go_wp2_with fail
         go_ret
         exact ⟨rfl, by first | exact HB5.out | (rw [hb]; exact HB5.out)⟩
       · have HS' := Lib.hid (HS.out (by unfold bad1; rw [hd]; rfl))
         clear HS HN
         by_cases h512 : 512 < p2.size
         · go_wp2_with fail
           go_roundw
           case rel => exact ⟨i + 1, true, by omega, by go_num, rfl, HB5, HX5, HS', Lib.hid (by rw [HTk.out]; unfold long1; rw [decide_eq_true h512]; simp)⟩
           case measure => simp [intOf]; omega
         · go_wp2_with fail
           go_roundw
           case rel => exact ⟨i + 1, L, by omega, by go_num, rfl, HB5, HX5, HS', Lib.hid (by rw [HTk.out, HL.out]; unfold long1; rw [decide_eq_false h512, Bool.or_false])⟩
           case measure => simp [intOf]; omega
     · have HE : Hid (m.pairs.any bad1 = false) := Lib.hid (by
         rw [List.any_eq_false]
         intro x hx
         obtain ⟨j, hj, rfl⟩ := List.getElem_of_mem hx
         rw [HI.out j (by have := hn.out; omega) hj]
         simp)
       have HLL : Hid (isLong m = L) := Lib.hid (by rw [HLg2.out, HL.out, List.take_of_length_le (by have := hn.out; omega)])
       have HR2 : Hid (r = bif L then 5 else bif isShort m then 2 else 0) := Lib.hid (by rw [HR.out, HbK2.out, HE.out, HLL.out]; rfl)
       have c0' : wr.cell? ⟨b, 0, none⟩ = some (.int .i64 m.kind) := HXr.out.bx.at_ 0
       have c2' : wr.cell? ⟨b, 2, none⟩ = some (.int .u8 (m.code : Int)) := HXr.out.bx.at_ 2
       have c9' : wr.cell? ⟨b, 9, none⟩ = some (.slice Ap m.peers.length cp) := HXr.out.bx.at_ 9
       cases L
       case true =>
         have er : r = 5 := by rw [HR2.out]; rfl
         subst er
         go_wp2_with fail
         go_ret
         exact ⟨rfl, by first | exact HBr.out | (rw [hb]; exact HBr.out)⟩
       have er : r = 0 := by rw [HR2.out, HSh.out]; rfl
       subst er
       go_wp2_with fail
       go_ret
       exact ⟨rfl, by first | exact HBr.out | (rw [hb]; exact HBr.out)⟩

set_option maxRecDepth 100000 in
set_option maxHeartbeats 1000000 in
theorem rright_k2 {w : World} {B : Nat} {m : Ms} {v : Value} (H : Mv w B m v) (hlp : m.peers.length ≤ 1000000000) (hlq : m.pairs.length ≤ 1000000000) (hkn : known m.kind = true)
    (e2 : (m.kind == 2) = true) (e7 : (m.kind == 7) = false) (e8 : (m.kind == 8) = false) (e10 : (m.kind == 10) = false) (e12 : (m.kind == 12) = false) :
    Calls Tryz.prog 22 #[v] w fun e w' => e = .returned (.int .i64 (right m : Int)) ∧ Below w.heap.size w w' := by
  obtain ⟨b, vp, vq, w0, rfl, hb, hal, hsz, hx, hb0⟩ := boxed H
  have HX := Lib.hid hx
  have HB := Lib.hid hb0
  obtain ⟨Ap, cp, rfl, _, hp1, hp2, _⟩ := hx.peers.ex
  obtain ⟨Aq, cq, rfl, hq0, hq1, hq2, _⟩ := hx.pairs.ex
  have hk := hx.ok.kind
  have HKey := Lib.hid hx.ok.key
  have HPs := Lib.hid hx.ok.pairs
  have hv := hx.ok.val
  unfold maxLen at hp2 hq2 hv
  have hnm := name_known m.kind
  rw [hkn] at hnm
  have R2 := Lib.hid (fun h2 => right_diff (m := m) hkn h2)
  have R3 := Lib.hid (fun h2 => right_same (m := m) hkn h2)
  have HLg : Hid (isLong m = ((decide (512 < m.val.size) || decide (16 < m.peers.length) || decide (8 < m.pairs.length)) || m.pairs.any long1)) := rfl
  have hoK : oKey m = false := by
    unfold oKey
    rw [decide_eq_false_iff_not]
    simp at e7 e8
    omega
  have HbK : Hid (badKey m = ((false && !isKey m.key) || m.pairs.any bad1)) := Lib.hid (by unfold badKey; rw [hoK]; rfl)
  have HSh : Hid (isShort m = decide (m.peers.length = 0)) := Lib.hid (by
    unfold isShort
    rw [show decide (m.kind = 2) = (m.kind == 2) by rw [Bool.eq_iff_iff]; simp, show decide (m.kind = 10) = (m.kind == 10) by rw [Bool.eq_iff_iff]; simp, show decide (m.kind = 12) = (m.kind == 12) by rw [Bool.eq_iff_iff]; simp, e2, e10, e12]
    simp)
  obtain ⟨r, hr⟩ : ∃ r, Hid (right m = r) := ⟨_, rfl⟩
  rw [hr.out] at R2 R3 ⊢
  obtain ⟨c0, c1, c2, c3, c4, c5, c6, c7, c8, c9, c10⟩ := hx.cells
  clear hb0 H hq0 hoK
  obtain ⟨n, hn⟩ : ∃ n, Hid (m.pairs.length = n) := ⟨_, rfl⟩
  go_enter Tryz.func22, Tryz.ntmps22
  go_wp2_with fail
  refine (rname_any m.kind hk _).mono ?_
  rintro e w1 ⟨rfl, hb1⟩
  have HB1 := Lib.hid hb1
  have hx1 := hx.kept hb1
  have HX1 := Lib.hid hx1
  clear hb1 hx c0 c1 c2 c3 c4 c5 c6 c7 c8 c9 c10
  obtain ⟨c0, c1, c2, c3, c4, c5, c6, c7, c8, c9, c10⟩ := hx1.cells
  clear hx1
  go_wp2_with fail
  clear c0 c1 c2 c3 c4 c5 c6 c7 c8 c9 c10
  refine wp_region_plan (S := fun W => Box W b m (.slice Ap m.peers.length cp) (.slice Aq m.pairs.length cq)) [(0, true), (1, true), (2, false), (3, false), (4, true)] (by kernel_rfl) (by kernel_rfl) rfl (by kernel_rfl) (fun _ _ _ _ _ h => h) HX1.out.drew ?_
  iterate 2
    refine along_take (v := ?_) rfl (by rfl) ?_ ?_
    rotate_left
    · intro W hW; have hW' : Box W b m (.slice Ap m.peers.length cp) (.slice Aq m.pairs.length cq) := hW; obtain ⟨c0, c1, c2, c3, c4, c5, c6, c7, c8, c9, c10⟩ := hW'.cells; clear hW hW'; go_simp; try with_reducible rfl
    simp only [Act.put, List.setIfInBounds_toArray, List.set_cons_zero, List.set_cons_succ]
  refine along_step rfl (fun K hK => ?_)
  go_simp
  refine (rbare_any HX1.out.drew.mv hlp hlq).mono ?_
  rintro e w2 ⟨vb, rfl, hmb, hb2⟩
  have HB2 : Hid (Below w1.heap.size w1 w2) := Lib.hid ((Below.refl _ _).drew.trans hb2)
  have HX2 := Lib.hid (HX1.out.kept HB2.out)
  have HMB := Lib.hid hmb
  clear hb2 hmb
  refine hK.out _ _ HX2.out ?_
  clear hK K
  try simp only [Act.put, List.setIfInBounds_toArray, List.set_cons_zero, List.set_cons_succ]
  refine along_step rfl (fun K hK => ?_)
  go_simp
  refine (rmsame_any HX2.out.mv HMB.out).mono ?_
  rintro e w3 ⟨rfl, hb3⟩
  have HB3 : Hid (Below b w w3) := Lib.hid (HB.out.trans ((HB1.out.trans ((HB2.out.trans (hb3.mono HB2.out.size)).mono HB1.out.size)).mono (by omega)))
  have HX3 := Lib.hid (HX2.out.kept hb3)
  refine hK.out _ _ HX3.out ?_
  clear hK K hb3
  try simp only [Act.put, List.setIfInBounds_toArray, List.set_cons_zero, List.set_cons_succ]
  refine along_take (v := ?_) rfl (by rfl) ?_ ?_
  rotate_left
  · intro W hW; clear hW; go_simp; try with_reducible rfl
  simp only [Act.put, List.setIfInBounds_toArray, List.set_cons_zero, List.set_cons_succ]
  refine along_done ?_
  obtain ⟨c0, c1, c2, c3, c4, c5, c6, c7, c8, c9, c10⟩ := HX3.out.cells
  clear HB1 HB2 HX1 HX2 HMB
  cases hsm : same m (bare m)
  case false =>
    have e := R2.out hsm
    subst e
    go_wp2_with fail
    go_ret
    exact ⟨rfl, by first | exact HB3.out | (rw [hb]; exact HB3.out)⟩
  have HR := Lib.hid (R3.out hsm)
  clear R2 R3
  have HbK2 : Hid (badKey m = m.pairs.any bad1) := Lib.hid (by rw [HbK.out]; rfl)
  have HLg2 : Hid (isLong m = ((decide (512 < m.val.size) || decide (16 < m.peers.length) || decide (8 < n)) || m.pairs.any long1)) := by rw [← hn.out]; exact HLg
  have HTQ := Lib.hid HX3.out.pairs
  rw [hn.out] at hq1 c10
  clear HLg
  go_wp2_with fail
  all_goals
   go_loopw [3, 4] (fun vL v wr => ∃ (i : Nat) (L : Bool), i ≤ n ∧ v = .int .i64 i ∧ vL = .bool L ∧ Hid (Below b w wr) ∧ Hid (Box wr b m (.slice Ap m.peers.length cp) (.slice Aq m.pairs.length cq)) ∧ Hid (∀ j, j < i → ∀ (ha : j < m.pairs.length), bad1 m.pairs[j] = false) ∧ Hid (L = ((decide (512 < m.val.size) || decide (16 < m.peers.length) || decide (8 < n)) || (m.pairs.take i).any long1))) (fun _ v _ => n - (intOf v).toNat)
   case atStart => exact ⟨0, _, by omega, rfl, rfl, HB3, HX3, Lib.hid (fun j hj => by omega), Lib.hid (by rw [Bool.eq_iff_iff]; first | (simp; done) | (simp; omega) | (simp_all; done) | (simp_all; omega))⟩
   case round =>
     clear c0 c1 c2 c3 c4 c5 c6 c7 c8 c9 c10
     obtain ⟨i, L, hi, rfl, rfl, HBr, HXr, HI, HL⟩ := hrel
     have c10 : wr.cell? ⟨b, 10, none⟩ = some (.slice Aq n cq) := by have := HXr.out.bx.at_ 10; rw [← hn.out]; exact this
     by_cases hlt : i < n
     · have hia : i < m.pairs.length := by rw [hn.out]; exact hlt
       obtain ⟨Aq', cq', eq', TQ', _⟩ := HXr.out.pairs.ex
       obtain ⟨rfl, rfl⟩ : Aq = Aq' ∧ cq = cq' := by injection eq' with h1 h2 h3; exact ⟨h1, h3⟩
       obtain ⟨b1, o1, rfl, hlb, d0, d1⟩ := TQ'.at_ hia
       have HT2 : Hid (Two fPair wr b (some ⟨b1, o1, none⟩) m.pairs) := TQ'
       clear eq' TQ'
       have HN : Hid (bad1 m.pairs[i] = true → m.pairs.any bad1 = true) := Lib.hid (fun h => List.any_eq_true.2 ⟨_, List.getElem_mem hia, h⟩)
       have HS : Hid (bad1 m.pairs[i] = false → ∀ j, j < i + 1 → ∀ (ha : j < m.pairs.length), bad1 m.pairs[j] = false) := Lib.hid (fun h j hj ha => by
         by_cases e : j = i
         · subst e; exact h
         · exact HI.out j (by omega) ha)
       have HTk := Lib.hid (any_take (P := long1) hia)
       have OK1 := HPs.out _ (List.getElem_mem hia)
       obtain ⟨p, hp⟩ : ∃ p : ByteArray × ByteArray, Hid (m.pairs[i] = p) := ⟨m.pairs[i], Lib.hid rfl⟩
       have HT3 := Lib.hid (fun W (h : Below wr.heap.size wr W) => (HT2.out.all.below h).at_ hia)
       obtain ⟨p1, p2⟩ := p
       rw [hp.out] at d0 d1 HN HS OK1 HTk HT3
       simp only [fPair] at d0 d1 HT3
       simp only at OK1
       have C := Lib.hid (rkey_any p1 OK1.1)
       have OK2 := OK1.2
       unfold maxLen at OK2
       clear OK1 HI
       go_wp2_with fail
       refine (C.out _).mono ?_
       rintro e w5 ⟨rfl, hb5⟩
       have HB5 : Hid (Below b w w5) := Lib.hid (HBr.out.trans (hb5.mono (by have := HXr.out.lt; omega)))
       have HX5 := Lib.hid (HXr.out.kept hb5)
       obtain ⟨b2, o2, ee, _, d2, d3⟩ := HT3.out w5 hb5
       injection ee with ee
       injection ee with ee1 ee2 _
       subst ee1 ee2
       have c10' : w5.cell? ⟨b, 10, none⟩ = some (.slice (some ⟨b1, o1, none⟩) n cq) := by have := HX5.out.bx.at_ 10; rw [← hn.out]; exact this
       clear hb5 d0 d1 c10
       cases hd : isKey p1
       · have HN' := Lib.hid (HN.out (by unfold bad1; rw [hd]; rfl))
         have er : r = 7 := by rw [HR.out, HbK2.out, HN'.out]; rfl
         subst er
         clear HS HN
         go_wp2_with fail
         go_ret
         exact ⟨rfl, by first | exact HB5.out | (rw [hb]; exact HB5.out)⟩
       · have HS' := Lib.hid (HS.out (by unfold bad1; rw [hd]; rfl))
         clear HS HN
         by_cases h512 : 512 < p2.size
         · go_wp2_with fail
           go_roundw
           case rel => exact ⟨i + 1, true, by omega, by go_num, rfl, HB5, HX5, HS', Lib.hid (by rw [HTk.out]; unfold long1; rw [decide_eq_true h512]; simp)⟩
           case measure => simp [intOf]; omega
         · go_wp2_with fail
           go_roundw
           case rel => exact ⟨i + 1, L, by omega, by go_num, rfl, HB5, HX5, HS', Lib.hid (by rw [HTk.out, HL.out]; unfold long1; rw [decide_eq_false h512, Bool.or_false])⟩
           case measure => simp [intOf]; omega
     · have HE : Hid (m.pairs.any bad1 = false) := Lib.hid (by
         rw [List.any_eq_false]
         intro x hx
         obtain ⟨j, hj, rfl⟩ := List.getElem_of_mem hx
         rw [HI.out j (by have := hn.out; omega) hj]
         simp)
       have HLL : Hid (isLong m = L) := Lib.hid (by rw [HLg2.out, HL.out, List.take_of_length_le (by have := hn.out; omega)])
       have HR2 : Hid (r = bif L then 5 else bif isShort m then 2 else 0) := Lib.hid (by rw [HR.out, HbK2.out, HE.out, HLL.out]; rfl)
       have c0' : wr.cell? ⟨b, 0, none⟩ = some (.int .i64 m.kind) := HXr.out.bx.at_ 0
       have c2' : wr.cell? ⟨b, 2, none⟩ = some (.int .u8 (m.code : Int)) := HXr.out.bx.at_ 2
       have c9' : wr.cell? ⟨b, 9, none⟩ = some (.slice Ap m.peers.length cp) := HXr.out.bx.at_ 9
       cases L
       case true =>
         have er : r = 5 := by rw [HR2.out]; rfl
         subst er
         go_wp2_with fail
         go_ret
         exact ⟨rfl, by first | exact HBr.out | (rw [hb]; exact HBr.out)⟩
       by_cases hq0 : m.peers.length = 0
       · have hz : ((m.peers.length : Int) == 0) = true := beqt (by omega)
         have er : r = 2 := by rw [HR2.out, HSh.out, decide_eq_true hq0]; rfl
         subst er
         clear hq0
         go_wp2_with fail
         go_ret
         exact ⟨rfl, by first | exact HBr.out | (rw [hb]; exact HBr.out)⟩
       · have hz : ((m.peers.length : Int) == 0) = false := beqf (by omega)
         have er : r = 0 := by rw [HR2.out, HSh.out, decide_eq_false hq0]; rfl
         subst er
         clear hq0
         go_wp2_with fail
         go_ret
         exact ⟨rfl, by first | exact HBr.out | (rw [hb]; exact HBr.out)⟩

set_option maxRecDepth 100000 in
set_option maxHeartbeats 1000000 in
theorem rright_k10 {w : World} {B : Nat} {m : Ms} {v : Value} (H : Mv w B m v) (hlp : m.peers.length ≤ 1000000000) (hlq : m.pairs.length ≤ 1000000000) (hkn : known m.kind = true)
    (e2 : (m.kind == 2) = false) (e7 : (m.kind == 7) = false) (e8 : (m.kind == 8) = false) (e10 : (m.kind == 10) = true) (e12 : (m.kind == 12) = false) :
    Calls Tryz.prog 22 #[v] w fun e w' => e = .returned (.int .i64 (right m : Int)) ∧ Below w.heap.size w w' := by
  obtain ⟨b, vp, vq, w0, rfl, hb, hal, hsz, hx, hb0⟩ := boxed H
  have HX := Lib.hid hx
  have HB := Lib.hid hb0
  obtain ⟨Ap, cp, rfl, _, hp1, hp2, _⟩ := hx.peers.ex
  obtain ⟨Aq, cq, rfl, hq0, hq1, hq2, _⟩ := hx.pairs.ex
  have hk := hx.ok.kind
  have HKey := Lib.hid hx.ok.key
  have HPs := Lib.hid hx.ok.pairs
  have hv := hx.ok.val
  unfold maxLen at hp2 hq2 hv
  have hnm := name_known m.kind
  rw [hkn] at hnm
  have R2 := Lib.hid (fun h2 => right_diff (m := m) hkn h2)
  have R3 := Lib.hid (fun h2 => right_same (m := m) hkn h2)
  have HLg : Hid (isLong m = ((decide (512 < m.val.size) || decide (16 < m.peers.length) || decide (8 < m.pairs.length)) || m.pairs.any long1)) := rfl
  have hoK : oKey m = false := by
    unfold oKey
    rw [decide_eq_false_iff_not]
    simp at e7 e8
    omega
  have HbK : Hid (badKey m = ((false && !isKey m.key) || m.pairs.any bad1)) := Lib.hid (by unfold badKey; rw [hoK]; rfl)
  have HSh : Hid (isShort m = decide (m.pairs.length = 0)) := Lib.hid (by
    unfold isShort
    rw [show decide (m.kind = 2) = (m.kind == 2) by rw [Bool.eq_iff_iff]; simp, show decide (m.kind = 10) = (m.kind == 10) by rw [Bool.eq_iff_iff]; simp, show decide (m.kind = 12) = (m.kind == 12) by rw [Bool.eq_iff_iff]; simp, e2, e10, e12]
    simp)
  obtain ⟨r, hr⟩ : ∃ r, Hid (right m = r) := ⟨_, rfl⟩
  rw [hr.out] at R2 R3 ⊢
  obtain ⟨c0, c1, c2, c3, c4, c5, c6, c7, c8, c9, c10⟩ := hx.cells
  clear hb0 H hq0 hoK
  obtain ⟨n, hn⟩ : ∃ n, Hid (m.pairs.length = n) := ⟨_, rfl⟩
  go_enter Tryz.func22, Tryz.ntmps22
  go_wp2_with fail
  refine (rname_any m.kind hk _).mono ?_
  rintro e w1 ⟨rfl, hb1⟩
  have HB1 := Lib.hid hb1
  have hx1 := hx.kept hb1
  have HX1 := Lib.hid hx1
  clear hb1 hx c0 c1 c2 c3 c4 c5 c6 c7 c8 c9 c10
  obtain ⟨c0, c1, c2, c3, c4, c5, c6, c7, c8, c9, c10⟩ := hx1.cells
  clear hx1
  go_wp2_with fail
  clear c0 c1 c2 c3 c4 c5 c6 c7 c8 c9 c10
  refine wp_region_plan (S := fun W => Box W b m (.slice Ap m.peers.length cp) (.slice Aq m.pairs.length cq)) [(0, true), (1, true), (2, false), (3, false), (4, true)] (by kernel_rfl) (by kernel_rfl) rfl (by kernel_rfl) (fun _ _ _ _ _ h => h) HX1.out.drew ?_
  iterate 2
    refine along_take (v := ?_) rfl (by rfl) ?_ ?_
    rotate_left
    · intro W hW; have hW' : Box W b m (.slice Ap m.peers.length cp) (.slice Aq m.pairs.length cq) := hW; obtain ⟨c0, c1, c2, c3, c4, c5, c6, c7, c8, c9, c10⟩ := hW'.cells; clear hW hW'; go_simp; try with_reducible rfl
    simp only [Act.put, List.setIfInBounds_toArray, List.set_cons_zero, List.set_cons_succ]
  refine along_step rfl (fun K hK => ?_)
  go_simp
  refine (rbare_any HX1.out.drew.mv hlp hlq).mono ?_
  rintro e w2 ⟨vb, rfl, hmb, hb2⟩
  have HB2 : Hid (Below w1.heap.size w1 w2) := Lib.hid ((Below.refl _ _).drew.trans hb2)
  have HX2 := Lib.hid (HX1.out.kept HB2.out)
  have HMB := Lib.hid hmb
  clear hb2 hmb
  refine hK.out _ _ HX2.out ?_
  clear hK K
  try simp only [Act.put, List.setIfInBounds_toArray, List.set_cons_zero, List.set_cons_succ]
  refine along_step rfl (fun K hK => ?_)
  go_simp
  refine (rmsame_any HX2.out.mv HMB.out).mono ?_
  rintro e w3 ⟨rfl, hb3⟩
  have HB3 : Hid (Below b w w3) := Lib.hid (HB.out.trans ((HB1.out.trans ((HB2.out.trans (hb3.mono HB2.out.size)).mono HB1.out.size)).mono (by omega)))
  have HX3 := Lib.hid (HX2.out.kept hb3)
  refine hK.out _ _ HX3.out ?_
  clear hK K hb3
  try simp only [Act.put, List.setIfInBounds_toArray, List.set_cons_zero, List.set_cons_succ]
  refine along_take (v := ?_) rfl (by rfl) ?_ ?_
  rotate_left
  · intro W hW; clear hW; go_simp; try with_reducible rfl
  simp only [Act.put, List.setIfInBounds_toArray, List.set_cons_zero, List.set_cons_succ]
  refine along_done ?_
  obtain ⟨c0, c1, c2, c3, c4, c5, c6, c7, c8, c9, c10⟩ := HX3.out.cells
  clear HB1 HB2 HX1 HX2 HMB
  cases hsm : same m (bare m)
  case false =>
    have e := R2.out hsm
    subst e
    go_wp2_with fail
    go_ret
    exact ⟨rfl, by first | exact HB3.out | (rw [hb]; exact HB3.out)⟩
  have HR := Lib.hid (R3.out hsm)
  clear R2 R3
  have HbK2 : Hid (badKey m = m.pairs.any bad1) := Lib.hid (by rw [HbK.out]; rfl)
  have HLg2 : Hid (isLong m = ((decide (512 < m.val.size) || decide (16 < m.peers.length) || decide (8 < n)) || m.pairs.any long1)) := by rw [← hn.out]; exact HLg
  have HTQ := Lib.hid HX3.out.pairs
  rw [hn.out] at hq1 c10
  clear HLg
  go_wp2_with fail
  all_goals
   go_loopw [3, 4] (fun vL v wr => ∃ (i : Nat) (L : Bool), i ≤ n ∧ v = .int .i64 i ∧ vL = .bool L ∧ Hid (Below b w wr) ∧ Hid (Box wr b m (.slice Ap m.peers.length cp) (.slice Aq m.pairs.length cq)) ∧ Hid (∀ j, j < i → ∀ (ha : j < m.pairs.length), bad1 m.pairs[j] = false) ∧ Hid (L = ((decide (512 < m.val.size) || decide (16 < m.peers.length) || decide (8 < n)) || (m.pairs.take i).any long1))) (fun _ v _ => n - (intOf v).toNat)
   case atStart => exact ⟨0, _, by omega, rfl, rfl, HB3, HX3, Lib.hid (fun j hj => by omega), Lib.hid (by rw [Bool.eq_iff_iff]; first | (simp; done) | (simp; omega) | (simp_all; done) | (simp_all; omega))⟩
   case round =>
     clear c0 c1 c2 c3 c4 c5 c6 c7 c8 c9 c10
     obtain ⟨i, L, hi, rfl, rfl, HBr, HXr, HI, HL⟩ := hrel
     have c10 : wr.cell? ⟨b, 10, none⟩ = some (.slice Aq n cq) := by have := HXr.out.bx.at_ 10; rw [← hn.out]; exact this
     by_cases hlt : i < n
     · have hia : i < m.pairs.length := by rw [hn.out]; exact hlt
       obtain ⟨Aq', cq', eq', TQ', _⟩ := HXr.out.pairs.ex
       obtain ⟨rfl, rfl⟩ : Aq = Aq' ∧ cq = cq' := by injection eq' with h1 h2 h3; exact ⟨h1, h3⟩
       obtain ⟨b1, o1, rfl, hlb, d0, d1⟩ := TQ'.at_ hia
       have HT2 : Hid (Two fPair wr b (some ⟨b1, o1, none⟩) m.pairs) := TQ'
       clear eq' TQ'
       have HN : Hid (bad1 m.pairs[i] = true → m.pairs.any bad1 = true) := Lib.hid (fun h => List.any_eq_true.2 ⟨_, List.getElem_mem hia, h⟩)
       have HS : Hid (bad1 m.pairs[i] = false → ∀ j, j < i + 1 → ∀ (ha : j < m.pairs.length), bad1 m.pairs[j] = false) := Lib.hid (fun h j hj ha => by
         by_cases e : j = i
         · subst e; exact h
         · exact HI.out j (by omega) ha)
       have HTk := Lib.hid (any_take (P := long1) hia)
       have OK1 := HPs.out _ (List.getElem_mem hia)
       obtain ⟨p, hp⟩ : ∃ p : ByteArray × ByteArray, Hid (m.pairs[i] = p) := ⟨m.pairs[i], Lib.hid rfl⟩
       have HT3 := Lib.hid (fun W (h : Below wr.heap.size wr W) => (HT2.out.all.below h).at_ hia)
       obtain ⟨p1, p2⟩ := p
       rw [hp.out] at d0 d1 HN HS OK1 HTk HT3
       simp only [fPair] at d0 d1 HT3
       simp only at OK1
       have C := Lib.hid (rkey_any p1 OK1.1)
       have OK2 := OK1.2
       unfold maxLen at OK2
       clear OK1 HI
       go_wp2_with fail
       refine (C.out _).mono ?_
       rintro e w5 ⟨rfl, hb5⟩
       have HB5 : Hid (Below b w w5) := Lib.hid (HBr.out.trans (hb5.mono (by have := HXr.out.lt; omega)))
       have HX5 := Lib.hid (HXr.out.kept hb5)
       obtain ⟨b2, o2, ee, _, d2, d3⟩ := HT3.out w5 hb5
       injection ee with ee
       injection ee with ee1 ee2 _
       subst ee1 ee2
       have c10' : w5.cell? ⟨b, 10, none⟩ = some (.slice (some ⟨b1, o1, none⟩) n cq) := by have := HX5.out.bx.at_ 10; rw [← hn.out]; exact this
       clear hb5 d0 d1 c10
       cases hd : isKey p1
       · have HN' := Lib.hid (HN.out (by unfold bad1; rw [hd]; rfl))
         have er : r = 7 := by rw [HR.out, HbK2.out, HN'.out]; rfl
         subst er
         clear HS HN
         go_wp2_with fail
         go_ret
         exact ⟨rfl, by first | exact HB5.out | (rw [hb]; exact HB5.out)⟩
       · have HS' := Lib.hid (HS.out (by unfold bad1; rw [hd]; rfl))
         clear HS HN
         by_cases h512 : 512 < p2.size
         · go_wp2_with fail
           go_roundw
           case rel => exact ⟨i + 1, true, by omega, by go_num, rfl, HB5, HX5, HS', Lib.hid (by rw [HTk.out]; unfold long1; rw [decide_eq_true h512]; simp)⟩
           case measure => simp [intOf]; omega
         · go_wp2_with fail
           go_roundw
           case rel => exact ⟨i + 1, L, by omega, by go_num, rfl, HB5, HX5, HS', Lib.hid (by rw [HTk.out, HL.out]; unfold long1; rw [decide_eq_false h512, Bool.or_false])⟩
           case measure => simp [intOf]; omega
     · have HE : Hid (m.pairs.any bad1 = false) := Lib.hid (by
         rw [List.any_eq_false]
         intro x hx
         obtain ⟨j, hj, rfl⟩ := List.getElem_of_mem hx
         rw [HI.out j (by have := hn.out; omega) hj]
         simp)
       have HLL : Hid (isLong m = L) := Lib.hid (by rw [HLg2.out, HL.out, List.take_of_length_le (by have := hn.out; omega)])
       have HR2 : Hid (r = bif L then 5 else bif isShort m then 2 else 0) := Lib.hid (by rw [HR.out, HbK2.out, HE.out, HLL.out]; rfl)
       have c0' : wr.cell? ⟨b, 0, none⟩ = some (.int .i64 m.kind) := HXr.out.bx.at_ 0
       have c2' : wr.cell? ⟨b, 2, none⟩ = some (.int .u8 (m.code : Int)) := HXr.out.bx.at_ 2
       have c9' : wr.cell? ⟨b, 9, none⟩ = some (.slice Ap m.peers.length cp) := HXr.out.bx.at_ 9
       cases L
       case true =>
         have er : r = 5 := by rw [HR2.out]; rfl
         subst er
         go_wp2_with fail
         go_ret
         exact ⟨rfl, by first | exact HBr.out | (rw [hb]; exact HBr.out)⟩
       by_cases hq0 : n = 0
       · have hz : ((n : Int) == 0) = true := beqt (by omega)
         have er : r = 2 := by rw [HR2.out, HSh.out, hn.out, decide_eq_true hq0]; rfl
         subst er
         clear hq0
         go_wp2_with fail
         go_ret
         exact ⟨rfl, by first | exact HBr.out | (rw [hb]; exact HBr.out)⟩
       · have hz : ((n : Int) == 0) = false := beqf (by omega)
         have er : r = 0 := by rw [HR2.out, HSh.out, hn.out, decide_eq_false hq0]; rfl
         subst er
         clear hq0
         go_wp2_with fail
         go_ret
         exact ⟨rfl, by first | exact HBr.out | (rw [hb]; exact HBr.out)⟩

set_option maxRecDepth 100000 in
set_option maxHeartbeats 1000000 in
theorem rright_k12 {w : World} {B : Nat} {m : Ms} {v : Value} (H : Mv w B m v) (hlp : m.peers.length ≤ 1000000000) (hlq : m.pairs.length ≤ 1000000000) (hkn : known m.kind = true)
    (e2 : (m.kind == 2) = false) (e7 : (m.kind == 7) = false) (e8 : (m.kind == 8) = false) (e10 : (m.kind == 10) = false) (e12 : (m.kind == 12) = true) :
    Calls Tryz.prog 22 #[v] w fun e w' => e = .returned (.int .i64 (right m : Int)) ∧ Below w.heap.size w w' := by
  obtain ⟨b, vp, vq, w0, rfl, hb, hal, hsz, hx, hb0⟩ := boxed H
  have HX := Lib.hid hx
  have HB := Lib.hid hb0
  obtain ⟨Ap, cp, rfl, _, hp1, hp2, _⟩ := hx.peers.ex
  obtain ⟨Aq, cq, rfl, hq0, hq1, hq2, _⟩ := hx.pairs.ex
  have hk := hx.ok.kind
  have HKey := Lib.hid hx.ok.key
  have HPs := Lib.hid hx.ok.pairs
  have hv := hx.ok.val
  unfold maxLen at hp2 hq2 hv
  have hnm := name_known m.kind
  rw [hkn] at hnm
  have R2 := Lib.hid (fun h2 => right_diff (m := m) hkn h2)
  have R3 := Lib.hid (fun h2 => right_same (m := m) hkn h2)
  have HLg : Hid (isLong m = ((decide (512 < m.val.size) || decide (16 < m.peers.length) || decide (8 < m.pairs.length)) || m.pairs.any long1)) := rfl
  have hoK : oKey m = false := by
    unfold oKey
    rw [decide_eq_false_iff_not]
    simp at e7 e8
    omega
  have HbK : Hid (badKey m = ((false && !isKey m.key) || m.pairs.any bad1)) := Lib.hid (by unfold badKey; rw [hoK]; rfl)
  have HSh : Hid (isShort m = decide (m.code = 0)) := Lib.hid (by
    unfold isShort
    rw [show decide (m.kind = 2) = (m.kind == 2) by rw [Bool.eq_iff_iff]; simp, show decide (m.kind = 10) = (m.kind == 10) by rw [Bool.eq_iff_iff]; simp, show decide (m.kind = 12) = (m.kind == 12) by rw [Bool.eq_iff_iff]; simp, e2, e10, e12]
    simp)
  obtain ⟨r, hr⟩ : ∃ r, Hid (right m = r) := ⟨_, rfl⟩
  rw [hr.out] at R2 R3 ⊢
  obtain ⟨c0, c1, c2, c3, c4, c5, c6, c7, c8, c9, c10⟩ := hx.cells
  clear hb0 H hq0 hoK
  obtain ⟨n, hn⟩ : ∃ n, Hid (m.pairs.length = n) := ⟨_, rfl⟩
  go_enter Tryz.func22, Tryz.ntmps22
  go_wp2_with fail
  refine (rname_any m.kind hk _).mono ?_
  rintro e w1 ⟨rfl, hb1⟩
  have HB1 := Lib.hid hb1
  have hx1 := hx.kept hb1
  have HX1 := Lib.hid hx1
  clear hb1 hx c0 c1 c2 c3 c4 c5 c6 c7 c8 c9 c10
  obtain ⟨c0, c1, c2, c3, c4, c5, c6, c7, c8, c9, c10⟩ := hx1.cells
  clear hx1
  go_wp2_with fail
  clear c0 c1 c2 c3 c4 c5 c6 c7 c8 c9 c10
  refine wp_region_plan (S := fun W => Box W b m (.slice Ap m.peers.length cp) (.slice Aq m.pairs.length cq)) [(0, true), (1, true), (2, false), (3, false), (4, true)] (by kernel_rfl) (by kernel_rfl) rfl (by kernel_rfl) (fun _ _ _ _ _ h => h) HX1.out.drew ?_
  iterate 2
    refine along_take (v := ?_) rfl (by rfl) ?_ ?_
    rotate_left
    · intro W hW; have hW' : Box W b m (.slice Ap m.peers.length cp) (.slice Aq m.pairs.length cq) := hW; obtain ⟨c0, c1, c2, c3, c4, c5, c6, c7, c8, c9, c10⟩ := hW'.cells; clear hW hW'; go_simp; try with_reducible rfl
    simp only [Act.put, List.setIfInBounds_toArray, List.set_cons_zero, List.set_cons_succ]
  refine along_step rfl (fun K hK => ?_)
  go_simp
  refine (rbare_any HX1.out.drew.mv hlp hlq).mono ?_
  rintro e w2 ⟨vb, rfl, hmb, hb2⟩
  have HB2 : Hid (Below w1.heap.size w1 w2) := Lib.hid ((Below.refl _ _).drew.trans hb2)
  have HX2 := Lib.hid (HX1.out.kept HB2.out)
  have HMB := Lib.hid hmb
  clear hb2 hmb
  refine hK.out _ _ HX2.out ?_
  clear hK K
  try simp only [Act.put, List.setIfInBounds_toArray, List.set_cons_zero, List.set_cons_succ]
  refine along_step rfl (fun K hK => ?_)
  go_simp
  refine (rmsame_any HX2.out.mv HMB.out).mono ?_
  rintro e w3 ⟨rfl, hb3⟩
  have HB3 : Hid (Below b w w3) := Lib.hid (HB.out.trans ((HB1.out.trans ((HB2.out.trans (hb3.mono HB2.out.size)).mono HB1.out.size)).mono (by omega)))
  have HX3 := Lib.hid (HX2.out.kept hb3)
  refine hK.out _ _ HX3.out ?_
  clear hK K hb3
  try simp only [Act.put, List.setIfInBounds_toArray, List.set_cons_zero, List.set_cons_succ]
  refine along_take (v := ?_) rfl (by rfl) ?_ ?_
  rotate_left
  · intro W hW; clear hW; go_simp; try with_reducible rfl
  simp only [Act.put, List.setIfInBounds_toArray, List.set_cons_zero, List.set_cons_succ]
  refine along_done ?_
  obtain ⟨c0, c1, c2, c3, c4, c5, c6, c7, c8, c9, c10⟩ := HX3.out.cells
  clear HB1 HB2 HX1 HX2 HMB
  cases hsm : same m (bare m)
  case false =>
    have e := R2.out hsm
    subst e
    go_wp2_with fail
    go_ret
    exact ⟨rfl, by first | exact HB3.out | (rw [hb]; exact HB3.out)⟩
  have HR := Lib.hid (R3.out hsm)
  clear R2 R3
  have HbK2 : Hid (badKey m = m.pairs.any bad1) := Lib.hid (by rw [HbK.out]; rfl)
  have HLg2 : Hid (isLong m = ((decide (512 < m.val.size) || decide (16 < m.peers.length) || decide (8 < n)) || m.pairs.any long1)) := by rw [← hn.out]; exact HLg
  have HTQ := Lib.hid HX3.out.pairs
  rw [hn.out] at hq1 c10
  clear HLg
  go_wp2_with fail
  all_goals
   go_loopw [3, 4] (fun vL v wr => ∃ (i : Nat) (L : Bool), i ≤ n ∧ v = .int .i64 i ∧ vL = .bool L ∧ Hid (Below b w wr) ∧ Hid (Box wr b m (.slice Ap m.peers.length cp) (.slice Aq m.pairs.length cq)) ∧ Hid (∀ j, j < i → ∀ (ha : j < m.pairs.length), bad1 m.pairs[j] = false) ∧ Hid (L = ((decide (512 < m.val.size) || decide (16 < m.peers.length) || decide (8 < n)) || (m.pairs.take i).any long1))) (fun _ v _ => n - (intOf v).toNat)
   case atStart => exact ⟨0, _, by omega, rfl, rfl, HB3, HX3, Lib.hid (fun j hj => by omega), Lib.hid (by rw [Bool.eq_iff_iff]; first | (simp; done) | (simp; omega) | (simp_all; done) | (simp_all; omega))⟩
   case round =>
     clear c0 c1 c2 c3 c4 c5 c6 c7 c8 c9 c10
     obtain ⟨i, L, hi, rfl, rfl, HBr, HXr, HI, HL⟩ := hrel
     have c10 : wr.cell? ⟨b, 10, none⟩ = some (.slice Aq n cq) := by have := HXr.out.bx.at_ 10; rw [← hn.out]; exact this
     by_cases hlt : i < n
     · have hia : i < m.pairs.length := by rw [hn.out]; exact hlt
       obtain ⟨Aq', cq', eq', TQ', _⟩ := HXr.out.pairs.ex
       obtain ⟨rfl, rfl⟩ : Aq = Aq' ∧ cq = cq' := by injection eq' with h1 h2 h3; exact ⟨h1, h3⟩
       obtain ⟨b1, o1, rfl, hlb, d0, d1⟩ := TQ'.at_ hia
       have HT2 : Hid (Two fPair wr b (some ⟨b1, o1, none⟩) m.pairs) := TQ'
       clear eq' TQ'
       have HN : Hid (bad1 m.pairs[i] = true → m.pairs.any bad1 = true) := Lib.hid (fun h => List.any_eq_true.2 ⟨_, List.getElem_mem hia, h⟩)
       have HS : Hid (bad1 m.pairs[i] = false → ∀ j, j < i + 1 → ∀ (ha : j < m.pairs.length), bad1 m.pairs[j] = false) := Lib.hid (fun h j hj ha => by
         by_cases e : j = i
         · subst e; exact h
         · exact HI.out j (by omega) ha)
       have HTk := Lib.hid (any_take (P := long1) hia)
       have OK1 := HPs.out _ (List.getElem_mem hia)
       obtain ⟨p, hp⟩ : ∃ p : ByteArray × ByteArray, Hid (m.pairs[i] = p) := ⟨m.pairs[i], Lib.hid rfl⟩
       have HT3 := Lib.hid (fun W (h : Below wr.heap.size wr W) => (HT2.out.all.below h).at_ hia)
       obtain ⟨p1, p2⟩ := p
       rw [hp.out] at d0 d1 HN HS OK1 HTk HT3
       simp only [fPair] at d0 d1 HT3
       simp only at OK1
       have C := Lib.hid (rkey_any p1 OK1.1)
       have OK2 := OK1.2
       unfold maxLen at OK2
       clear OK1 HI
       go_wp2_with fail
       refine (C.out _).mono ?_
       rintro e w5 ⟨rfl, hb5⟩
       have HB5 : Hid (Below b w w5) := Lib.hid (HBr.out.trans (hb5.mono (by have := HXr.out.lt; omega)))
       have HX5 := Lib.hid (HXr.out.kept hb5)
       obtain ⟨b2, o2, ee, _, d2, d3⟩ := HT3.out w5 hb5
       injection ee with ee
       injection ee with ee1 ee2 _
       subst ee1 ee2
       have c10' : w5.cell? ⟨b, 10, none⟩ = some (.slice (some ⟨b1, o1, none⟩) n cq) := by have := HX5.out.bx.at_ 10; rw [← hn.out]; exact this
       clear hb5 d0 d1 c10
       cases hd : isKey p1
       · have HN' := Lib.hid (HN.out (by unfold bad1; rw [hd]; rfl))
         have er : r = 7 := by rw [HR.out, HbK2.out, HN'.out]; rfl
         subst er
         clear HS HN
         go_wp2_with fail
         go_ret
         exact ⟨rfl, by first | exact HB5.out | (rw [hb]; exact HB5.out)⟩
       · have HS' := Lib.hid (HS.out (by unfold bad1; rw [hd]; rfl))
         clear HS HN
         by_cases h512 : 512 < p2.size
         · go_wp2_with fail
           go_roundw
           case rel => exact ⟨i + 1, true, by omega, by go_num, rfl, HB5, HX5, HS', Lib.hid (by rw [HTk.out]; unfold long1; rw [decide_eq_true h512]; simp)⟩
           case measure => simp [intOf]; omega
         · go_wp2_with fail
           go_roundw
           case rel => exact ⟨i + 1, L, by omega, by go_num, rfl, HB5, HX5, HS', Lib.hid (by rw [HTk.out, HL.out]; unfold long1; rw [decide_eq_false h512, Bool.or_false])⟩
           case measure => simp [intOf]; omega
     · have HE : Hid (m.pairs.any bad1 = false) := Lib.hid (by
         rw [List.any_eq_false]
         intro x hx
         obtain ⟨j, hj, rfl⟩ := List.getElem_of_mem hx
         rw [HI.out j (by have := hn.out; omega) hj]
         simp)
       have HLL : Hid (isLong m = L) := Lib.hid (by rw [HLg2.out, HL.out, List.take_of_length_le (by have := hn.out; omega)])
       have HR2 : Hid (r = bif L then 5 else bif isShort m then 2 else 0) := Lib.hid (by rw [HR.out, HbK2.out, HE.out, HLL.out]; rfl)
       have c0' : wr.cell? ⟨b, 0, none⟩ = some (.int .i64 m.kind) := HXr.out.bx.at_ 0
       have c2' : wr.cell? ⟨b, 2, none⟩ = some (.int .u8 (m.code : Int)) := HXr.out.bx.at_ 2
       have c9' : wr.cell? ⟨b, 9, none⟩ = some (.slice Ap m.peers.length cp) := HXr.out.bx.at_ 9
       cases L
       case true =>
         have er : r = 5 := by rw [HR2.out]; rfl
         subst er
         go_wp2_with fail
         go_ret
         exact ⟨rfl, by first | exact HBr.out | (rw [hb]; exact HBr.out)⟩
       by_cases hq0 : m.code = 0
       · have hz : ((m.code : Int) == 0) = true := beqt (by omega)
         have er : r = 2 := by rw [HR2.out, HSh.out, decide_eq_true hq0]; rfl
         subst er
         clear hq0
         go_wp2_with fail
         go_ret
         exact ⟨rfl, by first | exact HBr.out | (rw [hb]; exact HBr.out)⟩
       · have hz : ((m.code : Int) == 0) = false := beqf (by omega)
         have er : r = 0 := by rw [HR2.out, HSh.out, decide_eq_false hq0]; rfl
         subst er
         clear hq0
         go_wp2_with fail
         go_ret
         exact ⟨rfl, by first | exact HBr.out | (rw [hb]; exact HBr.out)⟩

set_option maxRecDepth 100000 in
set_option maxHeartbeats 1000000 in
theorem rright_k0 {w : World} {B : Nat} {m : Ms} {v : Value} (H : Mv w B m v) (hlp : m.peers.length ≤ 1000000000) (hlq : m.pairs.length ≤ 1000000000) (hkn : known m.kind = true)
    (e2 : (m.kind == 2) = false) (e7 : (m.kind == 7) = false) (e8 : (m.kind == 8) = false) (e10 : (m.kind == 10) = false) (e12 : (m.kind == 12) = false) :
    Calls Tryz.prog 22 #[v] w fun e w' => e = .returned (.int .i64 (right m : Int)) ∧ Below w.heap.size w w' := by
  obtain ⟨b, vp, vq, w0, rfl, hb, hal, hsz, hx, hb0⟩ := boxed H
  have HX := Lib.hid hx
  have HB := Lib.hid hb0
  obtain ⟨Ap, cp, rfl, _, hp1, hp2, _⟩ := hx.peers.ex
  obtain ⟨Aq, cq, rfl, hq0, hq1, hq2, _⟩ := hx.pairs.ex
  have hk := hx.ok.kind
  have HKey := Lib.hid hx.ok.key
  have HPs := Lib.hid hx.ok.pairs
  have hv := hx.ok.val
  unfold maxLen at hp2 hq2 hv
  have hnm := name_known m.kind
  rw [hkn] at hnm
  have R2 := Lib.hid (fun h2 => right_diff (m := m) hkn h2)
  have R3 := Lib.hid (fun h2 => right_same (m := m) hkn h2)
  have HLg : Hid (isLong m = ((decide (512 < m.val.size) || decide (16 < m.peers.length) || decide (8 < m.pairs.length)) || m.pairs.any long1)) := rfl
  have hoK : oKey m = false := by
    unfold oKey
    rw [decide_eq_false_iff_not]
    simp at e7 e8
    omega
  have HbK : Hid (badKey m = ((false && !isKey m.key) || m.pairs.any bad1)) := Lib.hid (by unfold badKey; rw [hoK]; rfl)
  have HSh : Hid (isShort m = false) := Lib.hid (by
    unfold isShort
    rw [show decide (m.kind = 2) = (m.kind == 2) by rw [Bool.eq_iff_iff]; simp, show decide (m.kind = 10) = (m.kind == 10) by rw [Bool.eq_iff_iff]; simp, show decide (m.kind = 12) = (m.kind == 12) by rw [Bool.eq_iff_iff]; simp, e2, e10, e12]
    simp)
  obtain ⟨r, hr⟩ : ∃ r, Hid (right m = r) := ⟨_, rfl⟩
  rw [hr.out] at R2 R3 ⊢
  obtain ⟨c0, c1, c2, c3, c4, c5, c6, c7, c8, c9, c10⟩ := hx.cells
  clear hb0 H hq0 hoK
  obtain ⟨n, hn⟩ : ∃ n, Hid (m.pairs.length = n) := ⟨_, rfl⟩
  go_enter Tryz.func22, Tryz.ntmps22
  go_wp2_with fail
  refine (rname_any m.kind hk _).mono ?_
  rintro e w1 ⟨rfl, hb1⟩
  have HB1 := Lib.hid hb1
  have hx1 := hx.kept hb1
  have HX1 := Lib.hid hx1
  clear hb1 hx c0 c1 c2 c3 c4 c5 c6 c7 c8 c9 c10
  obtain ⟨c0, c1, c2, c3, c4, c5, c6, c7, c8, c9, c10⟩ := hx1.cells
  clear hx1
  go_wp2_with fail
  clear c0 c1 c2 c3 c4 c5 c6 c7 c8 c9 c10
  refine wp_region_plan (S := fun W => Box W b m (.slice Ap m.peers.length cp) (.slice Aq m.pairs.length cq)) [(0, true), (1, true), (2, false), (3, false), (4, true)] (by kernel_rfl) (by kernel_rfl) rfl (by kernel_rfl) (fun _ _ _ _ _ h => h) HX1.out.drew ?_
  iterate 2
    refine along_take (v := ?_) rfl (by rfl) ?_ ?_
    rotate_left
    · intro W hW; have hW' : Box W b m (.slice Ap m.peers.length cp) (.slice Aq m.pairs.length cq) := hW; obtain ⟨c0, c1, c2, c3, c4, c5, c6, c7, c8, c9, c10⟩ := hW'.cells; clear hW hW'; go_simp; try with_reducible rfl
    simp only [Act.put, List.setIfInBounds_toArray, List.set_cons_zero, List.set_cons_succ]
  refine along_step rfl (fun K hK => ?_)
  go_simp
  refine (rbare_any HX1.out.drew.mv hlp hlq).mono ?_
  rintro e w2 ⟨vb, rfl, hmb, hb2⟩
  have HB2 : Hid (Below w1.heap.size w1 w2) := Lib.hid ((Below.refl _ _).drew.trans hb2)
  have HX2 := Lib.hid (HX1.out.kept HB2.out)
  have HMB := Lib.hid hmb
  clear hb2 hmb
  refine hK.out _ _ HX2.out ?_
  clear hK K
  try simp only [Act.put, List.setIfInBounds_toArray, List.set_cons_zero, List.set_cons_succ]
  refine along_step rfl (fun K hK => ?_)
  go_simp
  refine (rmsame_any HX2.out.mv HMB.out).mono ?_
  rintro e w3 ⟨rfl, hb3⟩
  have HB3 : Hid (Below b w w3) := Lib.hid (HB.out.trans ((HB1.out.trans ((HB2.out.trans (hb3.mono HB2.out.size)).mono HB1.out.size)).mono (by omega)))
  have HX3 := Lib.hid (HX2.out.kept hb3)
  refine hK.out _ _ HX3.out ?_
  clear hK K hb3
  try simp only [Act.put, List.setIfInBounds_toArray, List.set_cons_zero, List.set_cons_succ]
  refine along_take (v := ?_) rfl (by rfl) ?_ ?_
  rotate_left
  · intro W hW; clear hW; go_simp; try with_reducible rfl
  simp only [Act.put, List.setIfInBounds_toArray, List.set_cons_zero, List.set_cons_succ]
  refine along_done ?_
  obtain ⟨c0, c1, c2, c3, c4, c5, c6, c7, c8, c9, c10⟩ := HX3.out.cells
  clear HB1 HB2 HX1 HX2 HMB
  cases hsm : same m (bare m)
  case false =>
    have e := R2.out hsm
    subst e
    go_wp2_with fail
    go_ret
    exact ⟨rfl, by first | exact HB3.out | (rw [hb]; exact HB3.out)⟩
  have HR := Lib.hid (R3.out hsm)
  clear R2 R3
  have HbK2 : Hid (badKey m = m.pairs.any bad1) := Lib.hid (by rw [HbK.out]; rfl)
  have HLg2 : Hid (isLong m = ((decide (512 < m.val.size) || decide (16 < m.peers.length) || decide (8 < n)) || m.pairs.any long1)) := by rw [← hn.out]; exact HLg
  have HTQ := Lib.hid HX3.out.pairs
  rw [hn.out] at hq1 c10
  clear HLg
  go_wp2_with fail
  all_goals
   go_loopw [3, 4] (fun vL v wr => ∃ (i : Nat) (L : Bool), i ≤ n ∧ v = .int .i64 i ∧ vL = .bool L ∧ Hid (Below b w wr) ∧ Hid (Box wr b m (.slice Ap m.peers.length cp) (.slice Aq m.pairs.length cq)) ∧ Hid (∀ j, j < i → ∀ (ha : j < m.pairs.length), bad1 m.pairs[j] = false) ∧ Hid (L = ((decide (512 < m.val.size) || decide (16 < m.peers.length) || decide (8 < n)) || (m.pairs.take i).any long1))) (fun _ v _ => n - (intOf v).toNat)
   case atStart => exact ⟨0, _, by omega, rfl, rfl, HB3, HX3, Lib.hid (fun j hj => by omega), Lib.hid (by rw [Bool.eq_iff_iff]; first | (simp; done) | (simp; omega) | (simp_all; done) | (simp_all; omega))⟩
   case round =>
     clear c0 c1 c2 c3 c4 c5 c6 c7 c8 c9 c10
     obtain ⟨i, L, hi, rfl, rfl, HBr, HXr, HI, HL⟩ := hrel
     have c10 : wr.cell? ⟨b, 10, none⟩ = some (.slice Aq n cq) := by have := HXr.out.bx.at_ 10; rw [← hn.out]; exact this
     by_cases hlt : i < n
     · have hia : i < m.pairs.length := by rw [hn.out]; exact hlt
       obtain ⟨Aq', cq', eq', TQ', _⟩ := HXr.out.pairs.ex
       obtain ⟨rfl, rfl⟩ : Aq = Aq' ∧ cq = cq' := by injection eq' with h1 h2 h3; exact ⟨h1, h3⟩
       obtain ⟨b1, o1, rfl, hlb, d0, d1⟩ := TQ'.at_ hia
       have HT2 : Hid (Two fPair wr b (some ⟨b1, o1, none⟩) m.pairs) := TQ'
       clear eq' TQ'
       have HN : Hid (bad1 m.pairs[i] = true → m.pairs.any bad1 = true) := Lib.hid (fun h => List.any_eq_true.2 ⟨_, List.getElem_mem hia, h⟩)
       have HS : Hid (bad1 m.pairs[i] = false → ∀ j, j < i + 1 → ∀ (ha : j < m.pairs.length), bad1 m.pairs[j] = false) := Lib.hid (fun h j hj ha => by
         by_cases e : j = i
         · subst e; exact h
         · exact HI.out j (by omega) ha)
       have HTk := Lib.hid (any_take (P := long1) hia)
       have OK1 := HPs.out _ (List.getElem_mem hia)
       obtain ⟨p, hp⟩ : ∃ p : ByteArray × ByteArray, Hid (m.pairs[i] = p) := ⟨m.pairs[i], Lib.hid rfl⟩
       have HT3 := Lib.hid (fun W (h : Below wr.heap.size wr W) => (HT2.out.all.below h).at_ hia)
       obtain ⟨p1, p2⟩ := p
       rw [hp.out] at d0 d1 HN HS OK1 HTk HT3
       simp only [fPair] at d0 d1 HT3
       simp only at OK1
       have C := Lib.hid (rkey_any p1 OK1.1)
       have OK2 := OK1.2
       unfold maxLen at OK2
       clear OK1 HI
       go_wp2_with fail
       refine (C.out _).mono ?_
       rintro e w5 ⟨rfl, hb5⟩
       have HB5 : Hid (Below b w w5) := Lib.hid (HBr.out.trans (hb5.mono (by have := HXr.out.lt; omega)))
       have HX5 := Lib.hid (HXr.out.kept hb5)
       obtain ⟨b2, o2, ee, _, d2, d3⟩ := HT3.out w5 hb5
       injection ee with ee
       injection ee with ee1 ee2 _
       subst ee1 ee2
       have c10' : w5.cell? ⟨b, 10, none⟩ = some (.slice (some ⟨b1, o1, none⟩) n cq) := by have := HX5.out.bx.at_ 10; rw [← hn.out]; exact this
       clear hb5 d0 d1 c10
       cases hd : isKey p1
       · have HN' := Lib.hid (HN.out (by unfold bad1; rw [hd]; rfl))
         have er : r = 7 := by rw [HR.out, HbK2.out, HN'.out]; rfl
         subst er
         clear HS HN
         go_wp2_with fail
         go_ret
         exact ⟨rfl, by first | exact HB5.out | (rw [hb]; exact HB5.out)⟩
       · have HS' := Lib.hid (HS.out (by unfold bad1; rw [hd]; rfl))
         clear HS HN
         by_cases h512 : 512 < p2.size
         · go_wp2_with fail
           go_roundw
           case rel => exact ⟨i + 1, true, by omega, by go_num, rfl, HB5, HX5, HS', Lib.hid (by rw [HTk.out]; unfold long1; rw [decide_eq_true h512]; simp)⟩
           case measure => simp [intOf]; omega
         · go_wp2_with fail
           go_roundw
           case rel => exact ⟨i + 1, L, by omega, by go_num, rfl, HB5, HX5, HS', Lib.hid (by rw [HTk.out, HL.out]; unfold long1; rw [decide_eq_false h512, Bool.or_false])⟩
           case measure => simp [intOf]; omega
     · have HE : Hid (m.pairs.any bad1 = false) := Lib.hid (by
         rw [List.any_eq_false]
         intro x hx
         obtain ⟨j, hj, rfl⟩ := List.getElem_of_mem hx
         rw [HI.out j (by have := hn.out; omega) hj]
         simp)
       have HLL : Hid (isLong m = L) := Lib.hid (by rw [HLg2.out, HL.out, List.take_of_length_le (by have := hn.out; omega)])
       have HR2 : Hid (r = bif L then 5 else bif isShort m then 2 else 0) := Lib.hid (by rw [HR.out, HbK2.out, HE.out, HLL.out]; rfl)
       have c0' : wr.cell? ⟨b, 0, none⟩ = some (.int .i64 m.kind) := HXr.out.bx.at_ 0
       have c2' : wr.cell? ⟨b, 2, none⟩ = some (.int .u8 (m.code : Int)) := HXr.out.bx.at_ 2
       have c9' : wr.cell? ⟨b, 9, none⟩ = some (.slice Ap m.peers.length cp) := HXr.out.bx.at_ 9
       cases L
       case true =>
         have er : r = 5 := by rw [HR2.out]; rfl
         subst er
         go_wp2_with fail
         go_ret
         exact ⟨rfl, by first | exact HBr.out | (rw [hb]; exact HBr.out)⟩
       have er : r = 0 := by rw [HR2.out, HSh.out]; rfl
       subst er
       go_wp2_with fail
       go_ret
       exact ⟨rfl, by first | exact HBr.out | (rw [hb]; exact HBr.out)⟩

theorem rright_any {w : World} {B : Nat} {m : Ms} {v : Value} (H : Mv w B m v) (hlp : m.peers.length ≤ 1000000000) (hlq : m.pairs.length ≤ 1000000000) :
    Calls Tryz.prog 22 #[v] w fun e w' => e = .returned (.int .i64 (right m : Int)) ∧ Below w.heap.size w w' := by
  cases hkn : known m.kind
  · have hnm := name_known m.kind
    rw [hkn] at hnm
    obtain ⟨b, vp, vq, w0, rfl, hb, hal, hsz, hx, hb0⟩ := boxed H
    have c0 := hx.cells.1
    have hk := hx.ok.kind
    have HB := Lib.hid hb0
    rw [right_kind hkn]
    clear hx hb0 H
    go_enter Tryz.func22, Tryz.ntmps22
    go_wp2_with fail
    refine (rname_any m.kind hk _).mono ?_
    rintro e w1 ⟨rfl, hb1⟩
    have HB1 := Lib.hid (HB.out.trans (hb1.mono (by omega)))
    clear hb1
    go_wp2_with fail
    go_ret
    exact ⟨rfl, by first | exact HB1.out | (rw [hb]; exact HB1.out)⟩
  · by_cases h7 : m.kind = 7
    · exact rright_k7 H hlp hlq hkn (beqf (by omega)) (beqt h7) (beqf (by omega)) (beqf (by omega)) (beqf (by omega))
    by_cases h8 : m.kind = 8
    · exact rright_k8 H hlp hlq hkn (beqf (by omega)) (beqf h7) (beqt h8) (beqf (by omega)) (beqf (by omega))
    by_cases h2 : m.kind = 2
    · exact rright_k2 H hlp hlq hkn (beqt h2) (beqf h7) (beqf h8) (beqf (by omega)) (beqf (by omega))
    by_cases h10 : m.kind = 10
    · exact rright_k10 H hlp hlq hkn (beqf h2) (beqf h7) (beqf h8) (beqt h10) (beqf (by omega))
    by_cases h12 : m.kind = 12
    · exact rright_k12 H hlp hlq hkn (beqf h2) (beqf h7) (beqf h8) (beqf h10) (beqt h12)
    · exact rright_k0 H hlp hlq hkn (beqf h2) (beqf h7) (beqf h8) (beqf h10) (beqf h12)
end Go.Proofs.YtldjdoebappkoaaGreatDoor
