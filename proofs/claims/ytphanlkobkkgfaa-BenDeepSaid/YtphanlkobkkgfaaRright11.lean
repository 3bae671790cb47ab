/- Contract of the reference's right of layer 11. -/
import Derived.Test.YtphanlkobkkgfaaRfields11
import Derived.Test.YtphanlkobkkgfaaPA
namespace Go.Proofs.Ytphanlkobkkgfaa
open Go.RowKit
set_option linter.unusedVariables false
set_option maxRecDepth 100000
set_option linter.unusedSimpArgs false
namespace Tn
theorem rises_snoc {l : List ByteArray} {k : Nat} (h : k + 1 < l.length) : rises (l.take (k + 2)) = (rises (l.take (k + 1)) && less l[k] l[k + 1]) := by
  rw [Bool.eq_iff_iff, Bool.and_eq_true, rises_iff, rises_iff]
  constructor
  · intro H
    refine ⟨fun j hj => ?_, ?_⟩
    · have hj' : j + 1 < k + 1 := by simp at hj; omega
      have := H j (by simp; omega)
      simpa using this
    · have := H k (by simp; omega)
      simpa using this
  · intro H j hj
    have hj' : j + 1 < k + 2 := by simp at hj; omega
    by_cases e : j = k
    · subst e; simpa using H.2
    · have := H.1 j (by simp; omega)
      simpa using this
theorem rises_one (l : List ByteArray) : rises (l.take 1) = true := by
  rw [rises_iff]
  intro i h
  simp at h
  omega
/-- is one of the first texts, or the own one, too long? -/
def longs (t : Tn) (i : Nat) : Bool := decide (1048576 < t.s.size) || (t.keys.take i).any (fun k => decide (1048576 < k.size))
theorem longs_all (t : Tn) : t.longs t.keys.length = t.isLong := by unfold longs isLong; rw [List.take_length]
theorem longs_zero (t : Tn) : t.longs 0 = decide (1048576 < t.s.size) := by simp [longs]
theorem longs_snoc {t : Tn} {i : Nat} (h : i < t.keys.length) : t.longs (i + 1) = (t.longs i || decide (1048576 < t.keys[i].size)) := by
  unfold longs
  rw [List.take_succ_eq_append_getElem h, List.any_append, ← Bool.or_assoc]
  simp
variable {t : Tn} {a : Nat}
theorem right_deep (h : 7 < a) : t.right a = 6 := by rw [right_eq, if_pos h]
theorem right_kind (h : ¬ 7 < a) (hk : t.kind < 1 ∨ 4 < t.kind) : t.right a = 9 := by
  have : t.own = 9 := by unfold own; rw [if_pos hk]
  rw [right_eq, if_neg h, this]; rfl
theorem right_odd (h : ¬ 7 < a) (hk : ¬ (t.kind < 1 ∨ 4 < t.kind)) (h1 : t.odd = true) : t.right a = 1 := by
  have : t.own = 1 := by unfold own; rw [if_neg hk, if_pos h1]
  rw [right_eq, if_neg h, this]; rfl
theorem right_long (h : ¬ 7 < a) (hk : ¬ (t.kind < 1 ∨ 4 < t.kind)) (h1 : t.odd = false) (h2 : t.isLong = true) : t.right a = 5 := by
  have : t.own = 5 := by unfold own; rw [if_neg hk, h1, if_neg (by simp), if_pos h2]
  rw [right_eq, if_neg h, this]; rfl
theorem right_falls (h : ¬ 7 < a) (hk : ¬ (t.kind < 1 ∨ 4 < t.kind)) (h1 : t.odd = false) (h2 : t.isLong = false) (h3 : rises t.keys = false) : t.right a = 3 := by
  have : t.own = 3 := by unfold own; rw [if_neg hk, h1, if_neg (by simp), h2, if_neg (by simp), if_pos h3]
  rw [right_eq, if_neg h, this]; rfl
theorem right_kids (h : ¬ 7 < a) (hk : ¬ (t.kind < 1 ∨ 4 < t.kind)) (h1 : t.odd = false) (h2 : t.isLong = false) (h3 : rises t.keys = true) : t.right a = rights t.kids (a + 1) := by
  have : t.own = 0 := by unfold own; rw [if_neg hk, h1, if_neg (by simp), h2, if_neg (by simp), h3, if_neg (by simp)]
  rw [right_eq, if_neg h, this]; rfl
theorem rights_drop {l : List Tn} {i : Nat} (h : i < l.length) : rights (l.drop i) a = if l[i].right a ≠ 0 then l[i].right a else rights (l.drop (i + 1)) a := by
  rw [List.drop_eq_getElem_cons h, rights]
end Tn
theorem falls_more {l : List ByteArray} {i : Nat} (h : true = !Tn.rises (l.take i)) (hi : i < l.length) : true = !Tn.rises (l.take (i + 1)) := by
  cases i with
  | zero => simp [Tn.rises] at h
  | succ k =>
    have h' : Tn.rises (l.take (k + 1)) = false := by simpa using h
    rw [Tn.rises_snoc hi, h']; rfl
theorem step_not {b : Bool} {l : List ByteArray} {k : Nat} (h : k + 1 < l.length) (hb : b = Tn.less l[k] l[k + 1]) (h0 : false = !Tn.rises (l.take (k + 1))) : (!b) = !Tn.rises (l.take (k + 2)) := by
  have h1 : Tn.rises (l.take (k + 1)) = true := by simpa using h0.symm
  rw [Tn.rises_snoc h, hb, h1]; simp

set_option maxHeartbeats 4000000 in
theorem rright11_any (k : Nat) : ∀ (t : Tn), SizeOf.sizeOf t < k → ∀ (a : Nat), a ≤ 8 → ∀ {w : World} {B : Nat} {vk vq : Value}, Tv w B t vk vq →
    Calls Try.prog 28 #[tval t vk vq, .int .i64 (a : Int)] w fun e w' => e = .returned (.int .i64 (t.right a : Int)) ∧ Below w.heap.size w w' := by
  induction k with
  | zero => intro t h; omega
  | succ k ih =>
    intro t hk a ha w B vk vq H
    obtain ⟨b, w1, hs, hal, hT, hb1⟩ := boxedT H
    have HT := Lib.hid hT
    have HB1 := Lib.hid hb1
    have hbw := hT.lt
    obtain ⟨c0, c1, c2, c3, c4⟩ := hT.cells
    have HF := Lib.hid (fun h => rfields11_any (w := w1) hT.tv.all h)
    obtain ⟨A, c, rfl, h1, h2, _, K, Q, hK⟩ := hT.tv.kids
    have HK := Lib.hid hK
    obtain ⟨Ak, ck, rfl, hSk⟩ := hT.tv.keys
    have HSk := Lib.hid hSk.1
    have hsk := hSk.2
    unfold maxLen at h2 hsk
    obtain ⟨hsk1, hsk2, _, hsk4⟩ := hsk
    have HSZ := Lib.hid hsk4
    have IH := Lib.hid (fun i (hi : i < t.kids.length) {w : World} {B : Nat} {vk vq : Value} (ha : a + 1 ≤ 8) (h : Tv w B t.kids[i] vk vq) => ih t.kids[i] (by have := Tn.kid_lt hi; omega) (a + 1) ha h)
    have R1 := Lib.hid (fun h => Tn.right_deep (t := t) (a := a) h)
    have R2 := Lib.hid (fun h hk => Tn.right_kind (t := t) (a := a) h hk)
    have R3 := Lib.hid (fun h hk h1 => Tn.right_odd (t := t) (a := a) h hk h1)
    have R4 := Lib.hid (fun h hk h1 h2 => Tn.right_long (t := t) (a := a) h hk h1 h2)
    have R5 := Lib.hid (fun h hk h1 h2 h3 => Tn.right_falls (t := t) (a := a) h hk h1 h2 h3)
    have R6 := Lib.hid (fun h hk h1 h2 h3 => Tn.right_kids (t := t) (a := a) h hk h1 h2 h3)
    have HCt := Lib.hid (fun W (h : Below w1.heap.size w1 W) => (HT.out.keep h).cells)
    obtain ⟨r, hr⟩ : ∃ r, Hid (t.right a = r) := ⟨_, rfl⟩
    rw [hr.out] at R1 R2 R3 R4 R5 R6 ⊢
    obtain ⟨nk, hnk⟩ : ∃ n, Hid (t.keys.length = n) := ⟨_, rfl⟩
    obtain ⟨n, hn⟩ : ∃ n, Hid (t.kids.length = n) := ⟨_, rfl⟩
    rw [hnk.out] at c3 hsk1 hal HF HCt ⊢
    rw [hn.out] at h1 c4 hal HF HCt ⊢
    unfold tcells at hal
    unfold tval at HF
    unfold tval
    clear hT H hK hSk hb1 ih hsk4
    have hTn := (HT.out.tv.str : t.s.size ≤ maxLen)
    unfold maxLen at hTn
    by_cases e0 : 7 < a
    case pos =>
      have HR := Lib.hid (R1.out e0)
      go_enter Try.func28, Try.ntmps28
      go_wp2_with fail
      go_ret
      exact ⟨ret_int (by rw [HR.out]; rfl), by first | (rw [hs]; exact HB1.out) | exact HB1.out⟩
    by_cases e1 : t.kind < 1
    case pos =>
      have HR := Lib.hid (R2.out e0 (.inl e1))
      go_enter Try.func28, Try.ntmps28
      go_wp2_with fail
      go_ret
      exact ⟨ret_int (by rw [HR.out]; rfl), by first | (rw [hs]; exact HB1.out) | exact HB1.out⟩
    by_cases e2 : 4 < t.kind
    case pos =>
      have HR := Lib.hid (R2.out e0 (.inr e2))
      go_enter Try.func28, Try.ntmps28
      go_wp2_with fail
      go_ret
      exact ⟨ret_int (by rw [HR.out]; rfl), by first | (rw [hs]; exact HB1.out) | exact HB1.out⟩
    have C := HF.out (by omega)
    by_cases e3 : t.odd = true
    case pos =>
      have HR := Lib.hid (R3.out e0 (by omega) e3)
      rw [e3] at C
      have HCo := Lib.hid C
      clear C
      go_enter Try.func28, Try.ntmps28
      go_wp2_with fail
      refine (HCo.out).mono ?_
      rintro e w3 ⟨rfl, hb3⟩
      have HB3 := Lib.hid (HB1.out.trans (hb3.mono (by omega)))
      clear hb3
      go_wp2_with fail
      go_ret
      exact ⟨ret_int (by rw [HR.out]; rfl), by first | (rw [hs]; exact HB3.out) | exact HB3.out⟩
    have e3' : t.odd = false := by simpa using e3
    have R4' := Lib.hid (fun h2 => R4.out e0 (by omega) e3' h2)
    have R5' := Lib.hid (fun h2 h3 => R5.out e0 (by omega) e3' h2 h3)
    have R6' := Lib.hid (fun h2 h3 => R6.out e0 (by omega) e3' h2 h3)
    rw [e3'] at C
    have HCo := Lib.hid C
    clear C e3 e3' R1 R2 R3 R4 R5 R6
    have HL0 : Hid (t.longs 0 = decide (1048576 < t.s.size)) := Lib.hid t.longs_zero
    obtain ⟨sz, hsz⟩ : ∃ sz, Hid (t.s.size = sz) := ⟨_, rfl⟩
    go_enter Try.func28, Try.ntmps28
    go_wp2_with fail
    refine (HCo.out).mono ?_
    rintro e w3 ⟨rfl, hb3⟩
    have HB3 := Lib.hid (HB1.out.trans (hb3.mono (by omega)))
    have HC3 := Lib.hid hb3
    obtain ⟨d0, d1, d2, d3, d4⟩ := HCt.out w3 hb3
    clear hb3
    go_wp2_with fail
    have HLd : Hid (t.longs 0 = decide (1048576 < sz)) := by rw [← hsz.out]; exact HL0
    go_loopw [5, 6, 7] (fun v5 v6 v7 wr => ∃ (i : Nat) (lg fl : Bool), i ≤ nk ∧ v5 = .bool lg ∧ v6 = .bool fl ∧ v7 = .int .i64 i ∧ Hid (lg = t.longs i) ∧ Hid (fl = !Tn.rises (t.keys.take i)) ∧ Hid (Below b w wr) ∧ Hid (Below w1.heap.size w1 wr)) (fun _ _ vi _ => nk - (intOf vi).toNat)
    case atStart => exact ⟨0, _, false, by omega, rfl, rfl, rfl, Lib.hid (by rw [HL0.out] <;> simp <;> omega), Lib.hid (by simp [Tn.rises]), HB3, HC3⟩
    case round =>
      obtain ⟨i, lg, fl, hi, rfl, rfl, rfl, HL, HX, HB, HC⟩ := hrel
      have d3 := (HCt.out wr HC.out).2.2.2.1
      by_cases hlt : i < nk
      · have hia : i < t.keys.length := by rw [hnk.out]; exact hlt
        obtain ⟨x1, o1, rfl, _, g1⟩ := Sc.below HSk.out (HC.out.mono (Nat.le_of_lt hbw)) i hia
        have HLS := Lib.hid (Tn.longs_snoc hia)
        cases lg with
        | true =>
          have HLn : Hid (true = t.longs (i + 1)) := Lib.hid (by rw [HLS.out, ← HL.out]; rfl)
          cases fl with
          | true =>
            have HFt := Lib.hid (falls_more HX.out hia)
            go_wp2_with fail
            refine wp_region_plan (S := fun W => Below wr.heap.size wr W) [(0, true), (1, true), (2, true), (3, true), (4, true), (5, true), (6, true), (7, true), (8, true), (9, true), (10, true), (11, true), (12, true), (13, true), (14, true), (15, true), (16, true), (17, true), (18, true), (19, true), (20, true)] (by kernel_rfl) (by kernel_rfl) rfl (by kernel_rfl) (fun _ _ _ _ _ h => h) (Below.refl _ _).drew ?_
            iterate 2
              refine along_take (v := ?_) rfl (by rfl) ?_ ?_
              rotate_left
              · intro W hW
                go_simp; try with_reducible rfl
              simp only [Act.put, List.setIfInBounds_toArray, List.set_cons_zero, List.set_cons_succ]
            iterate 17
              refine along_skip rfl (by rfl) ?_
              simp only [Act.put, List.setIfInBounds_toArray, List.set_cons_zero, List.set_cons_succ]
            iterate 2
              refine along_take (v := ?_) rfl (by rfl) ?_ ?_
              rotate_left
              · intro W hW
                go_simp; try with_reducible rfl
              simp only [Act.put, List.setIfInBounds_toArray, List.set_cons_zero, List.set_cons_succ]
            refine along_done ?_
            have WB := Lib.hid (HB.out.drew)
            have WC := Lib.hid (HC.out.drew)
            go_wp2_with fail
            go_roundw
            case rel => exact ⟨i + 1, true, true, by omega, rfl, rfl, by go_num, HLn, HFt, WB, WC⟩
            case measure => simp [intOf]; omega

          | false =>
            by_cases e5 : i = 0
            · subst e5
              have HF1 : Hid (false = !Tn.rises (t.keys.take (0 + 1))) := Lib.hid (by rw [Tn.rises_one]; rfl)
              go_wp2_with fail
              refine wp_region_plan (S := fun W => Below wr.heap.size wr W) [(0, true), (1, true), (2, true), (3, true), (4, true), (5, true), (6, true), (7, true), (8, true), (9, true), (10, true), (11, true), (12, true), (13, true), (14, true), (15, true), (16, true), (17, true), (18, true), (19, true), (20, true)] (by kernel_rfl) (by kernel_rfl) rfl (by kernel_rfl) (fun _ _ _ _ _ h => h) (Below.refl _ _).drew ?_
              iterate 5
                refine along_take (v := ?_) rfl (by rfl) ?_ ?_
                rotate_left
                · intro W hW
                  go_simp; try with_reducible rfl
                simp only [Act.put, List.setIfInBounds_toArray, List.set_cons_zero, List.set_cons_succ]
              iterate 13
                refine along_skip rfl (by rfl) ?_
                simp only [Act.put, List.setIfInBounds_toArray, List.set_cons_zero, List.set_cons_succ]
              iterate 3
                refine along_take (v := ?_) rfl (by rfl) ?_ ?_
                rotate_left
                · intro W hW
                  go_simp; try with_reducible rfl
                simp only [Act.put, List.setIfInBounds_toArray, List.set_cons_zero, List.set_cons_succ]
              refine along_done ?_
              have WB := Lib.hid (HB.out.drew)
              have WC := Lib.hid (HC.out.drew)
              go_wp2_with fail
              go_roundw
              case rel => exact ⟨0 + 1, true, false, by omega, rfl, rfl, by go_num, HLn, HF1, WB, WC⟩
              case measure => simp [intOf]; omega

            · obtain ⟨j, HJ⟩ : ∃ j, Hid (i = j + 1) := ⟨i - 1, Lib.hid (by omega)⟩
              have hj1 : j + 1 < t.keys.length := by rw [← HJ.out]; exact hia
              have hj0 : j < t.keys.length := by omega
              have hjn : j < nk := by have := HJ.out; omega
              obtain ⟨x2, o2, ee, _, g2⟩ := Sc.below HSk.out (HC.out.mono (Nat.le_of_lt hbw)) j hj0
              cases ee
              have HP : Hid (∀ W, Below wr.heap.size wr W → W.cell? ⟨b, 3, none⟩ = some (.slice (some ⟨x1, o1, none⟩) nk ck) ∧ W.cell? ⟨x1, o1 + j, none⟩ = some (.string t.keys[j]) ∧ W.cell? ⟨x1, o1 + i, none⟩ = some (.string t.keys[i])) := Lib.hid (fun W hW => by
                have hW' := HC.out.trans (hW.mono HC.out.size)
                exact ⟨(HCt.out W hW').2.2.2.1, (hW.cell (lt_of_cell g2)).trans g2, (hW.cell (lt_of_cell g1)).trans g1⟩)
              have HLs := Lib.hid (rless_any t.keys[j] t.keys[i] (by have := HSZ.out _ (List.getElem_mem hj0); omega) (by have := HSZ.out _ (List.getElem_mem hia); omega))
              have HSN : Hid (∀ b, b = Tn.less t.keys[j] t.keys[i] → (!b) = !Tn.rises (t.keys.take (i + 1))) := Lib.hid (fun b hb => by
                have h0 := HX.out
                have := HJ.out
                subst this
                exact step_not hj1 hb h0)
              obtain ⟨pj, hpj⟩ : ∃ p, Hid (t.keys[j] = p) := ⟨t.keys[j], Lib.hid rfl⟩
              obtain ⟨pi, hpi⟩ : ∃ p, Hid (t.keys[i] = p) := ⟨t.keys[i], Lib.hid rfl⟩
              rw [hpj.out, hpi.out] at HP HLs HSN
              rw [hpi.out] at g1
              clear g2
              have hgt1 : decide ((0 : Int) < (i : Int)) = true := by simp; omega
              have hgt2 : decide ((i : Int) > 0) = true := by simp; omega
              have hgt3 : decide (0 < i) = true := by simp; omega
              have hsb : IntKind.i64.wrap ((i : Int) - 1) = (j : Int) := by have := HJ.out; rw [IntKind.wrap_i64]; omega
              have hij : (i : Int) < (nk : Int) := by omega
              have hjj : (j : Int) < (nk : Int) := by omega
              clear e5
              go_wp2_with fail

              refine wp_region_plan (S := fun W => Below wr.heap.size wr W) [(0, true), (1, true), (2, true), (3, true), (4, true), (5, true), (6, true), (7, true), (8, true), (9, true), (10, true), (11, true), (12, true), (13, true), (14, true), (15, true), (16, false), (17, true), (18, true), (19, true), (20, true)] (by kernel_rfl) (by kernel_rfl) rfl (by kernel_rfl) (fun _ _ _ _ _ h => h) (Below.refl _ _).drew ?_
              iterate 16
                refine along_take (v := ?_) rfl (by rfl) ?_ ?_
                rotate_left
                · intro W hW
                  obtain ⟨k1, k2, k3⟩ := HP.out W hW
                  go_simp; try with_reducible rfl
                simp only [Act.put, List.setIfInBounds_toArray, List.set_cons_zero, List.set_cons_succ]
              have HD : Hid (∀ W, Below wr.heap.size wr W → Below b w W ∧ Below w1.heap.size w1 W) := Lib.hid (fun W hW => ⟨HB.out.trans (hW.mono (by have := HB.out.size; omega)), HC.out.trans (hW.mono HC.out.size)⟩)
              refine along_step rfl (fun K hK => ?_)
              go_simp
              refine (HLs.out _).mono ?_
              rintro e w4 ⟨rfl, hb4⟩
              have hb4' : Below wr.heap.size wr w4 := (Below.refl _ _).drew.trans hb4
              refine hK.out _ _ hb4' ?_
              clear hK K HP hb4
              have WB := Lib.hid (HD.out w4 hb4').1
              have WC := Lib.hid (HD.out w4 hb4').2
              clear HD hb4'
              obtain ⟨y, hy⟩ : ∃ y, Hid (Tn.less pj pi = y) := ⟨_, rfl⟩
              rw [hy.out]
              have HZ := Lib.hid (HSN.out y hy.out.symm)
              iterate 4
                refine along_take (v := ?_) rfl (by rfl) ?_ ?_
                rotate_left
                · intro W hW
                  go_simp; try with_reducible rfl
                simp only [Act.put, List.setIfInBounds_toArray, List.set_cons_zero, List.set_cons_succ]
              refine along_done ?_
              clear hgt1 hgt2 hgt3 hsb hij hjj
              go_wp2_with fail
              go_roundw
              case rel => exact ⟨i + 1, true, !y, by omega, rfl, rfl, by go_num, HLn, HZ, WB, WC⟩
              case measure => simp [intOf]; omega

        | false =>
          have HLn : Hid (t.longs (i + 1) = decide (1048576 < t.keys[i].size)) := Lib.hid (by rw [HLS.out, ← HL.out]; simp)
          cases fl with
          | true =>
            have HFt := Lib.hid (falls_more HX.out hia)
            go_wp2_with fail
            refine wp_region_plan (S := fun W => Below wr.heap.size wr W) [(0, true), (1, true), (2, true), (3, true), (4, true), (5, true), (6, true), (7, true), (8, true), (9, true), (10, true), (11, true), (12, true), (13, true), (14, true), (15, true), (16, true), (17, true), (18, true), (19, true), (20, true)] (by kernel_rfl) (by kernel_rfl) rfl (by kernel_rfl) (fun _ _ _ _ _ h => h) (Below.refl _ _).drew ?_
            iterate 2
              refine along_take (v := ?_) rfl (by rfl) ?_ ?_
              rotate_left
              · intro W hW
                go_simp; try with_reducible rfl
              simp only [Act.put, List.setIfInBounds_toArray, List.set_cons_zero, List.set_cons_succ]
            iterate 17
              refine along_skip rfl (by rfl) ?_
              simp only [Act.put, List.setIfInBounds_toArray, List.set_cons_zero, List.set_cons_succ]
            iterate 2
              refine along_take (v := ?_) rfl (by rfl) ?_ ?_
              rotate_left
              · intro W hW
                go_simp; try with_reducible rfl
              simp only [Act.put, List.setIfInBounds_toArray, List.set_cons_zero, List.set_cons_succ]
            refine along_done ?_
            have WB := Lib.hid (HB.out.drew)
            have WC := Lib.hid (HC.out.drew)
            go_wp2_with fail
            go_roundw
            case rel => exact ⟨i + 1, _, true, by omega, rfl, rfl, by go_num, Lib.hid (by rw [HLn.out] <;> simp <;> omega), HFt, WB, WC⟩
            case measure => simp [intOf]; omega

          | false =>
            by_cases e5 : i = 0
            · subst e5
              have g3 : wr.cell? ⟨x1, o1, none⟩ = some (.string t.keys[0]) := g1
              have HF1 : Hid (false = !Tn.rises (t.keys.take (0 + 1))) := Lib.hid (by rw [Tn.rises_one]; rfl)
              go_wp2_with fail
              refine wp_region_plan (S := fun W => Below wr.heap.size wr W) [(0, true), (1, true), (2, true), (3, true), (4, true), (5, true), (6, true), (7, true), (8, true), (9, true), (10, true), (11, true), (12, true), (13, true), (14, true), (15, true), (16, true), (17, true), (18, true), (19, true), (20, true)] (by kernel_rfl) (by kernel_rfl) rfl (by kernel_rfl) (fun _ _ _ _ _ h => h) (Below.refl _ _).drew ?_
              iterate 5
                refine along_take (v := ?_) rfl (by rfl) ?_ ?_
                rotate_left
                · intro W hW
                  go_simp; try with_reducible rfl
                simp only [Act.put, List.setIfInBounds_toArray, List.set_cons_zero, List.set_cons_succ]
              iterate 13
                refine along_skip rfl (by rfl) ?_
                simp only [Act.put, List.setIfInBounds_toArray, List.set_cons_zero, List.set_cons_succ]
              iterate 3
                refine along_take (v := ?_) rfl (by rfl) ?_ ?_
                rotate_left
                · intro W hW
                  go_simp; try with_reducible rfl
                simp only [Act.put, List.setIfInBounds_toArray, List.set_cons_zero, List.set_cons_succ]
              refine along_done ?_
              have WB := Lib.hid (HB.out.drew)
              have WC := Lib.hid (HC.out.drew)
              go_wp2_with fail
              go_roundw
              case rel => exact ⟨0 + 1, _, false, by omega, rfl, rfl, by go_num, Lib.hid (by rw [HLn.out] <;> simp <;> omega), HF1, WB, WC⟩
              case measure => simp [intOf]; omega

            · obtain ⟨j, HJ⟩ : ∃ j, Hid (i = j + 1) := ⟨i - 1, Lib.hid (by omega)⟩
              have hj1 : j + 1 < t.keys.length := by rw [← HJ.out]; exact hia
              have hj0 : j < t.keys.length := by omega
              have hjn : j < nk := by have := HJ.out; omega
              obtain ⟨x2, o2, ee, _, g2⟩ := Sc.below HSk.out (HC.out.mono (Nat.le_of_lt hbw)) j hj0
              cases ee
              have HP : Hid (∀ W, Below wr.heap.size wr W → W.cell? ⟨b, 3, none⟩ = some (.slice (some ⟨x1, o1, none⟩) nk ck) ∧ W.cell? ⟨x1, o1 + j, none⟩ = some (.string t.keys[j]) ∧ W.cell? ⟨x1, o1 + i, none⟩ = some (.string t.keys[i])) := Lib.hid (fun W hW => by
                have hW' := HC.out.trans (hW.mono HC.out.size)
                exact ⟨(HCt.out W hW').2.2.2.1, (hW.cell (lt_of_cell g2)).trans g2, (hW.cell (lt_of_cell g1)).trans g1⟩)
              have HLs := Lib.hid (rless_any t.keys[j] t.keys[i] (by have := HSZ.out _ (List.getElem_mem hj0); omega) (by have := HSZ.out _ (List.getElem_mem hia); omega))
              have HSN : Hid (∀ b, b = Tn.less t.keys[j] t.keys[i] → (!b) = !Tn.rises (t.keys.take (i + 1))) := Lib.hid (fun b hb => by
                have h0 := HX.out
                have := HJ.out
                subst this
                exact step_not hj1 hb h0)
              obtain ⟨pj, hpj⟩ : ∃ p, Hid (t.keys[j] = p) := ⟨t.keys[j], Lib.hid rfl⟩
              obtain ⟨pi, hpi⟩ : ∃ p, Hid (t.keys[i] = p) := ⟨t.keys[i], Lib.hid rfl⟩
              rw [hpj.out, hpi.out] at HP HLs HSN
              rw [hpi.out] at g1 HLn
              clear g2
              have hgt1 : decide ((0 : Int) < (i : Int)) = true := by simp; omega
              have hgt2 : decide ((i : Int) > 0) = true := by simp; omega
              have hgt3 : decide (0 < i) = true := by simp; omega
              have hsb : IntKind.i64.wrap ((i : Int) - 1) = (j : Int) := by have := HJ.out; rw [IntKind.wrap_i64]; omega
              have hij : (i : Int) < (nk : Int) := by omega
              have hjj : (j : Int) < (nk : Int) := by omega
              clear e5
              go_wp2_with fail

              refine wp_region_plan (S := fun W => Below wr.heap.size wr W) [(0, true), (1, true), (2, true), (3, true), (4, true), (5, true), (6, true), (7, true), (8, true), (9, true), (10, true), (11, true), (12, true), (13, true), (14, true), (15, true), (16, false), (17, true), (18, true), (19, true), (20, true)] (by kernel_rfl) (by kernel_rfl) rfl (by kernel_rfl) (fun _ _ _ _ _ h => h) (Below.refl _ _).drew ?_
              iterate 16
                refine along_take (v := ?_) rfl (by rfl) ?_ ?_
                rotate_left
                · intro W hW
                  obtain ⟨k1, k2, k3⟩ := HP.out W hW
                  go_simp; try with_reducible rfl
                simp only [Act.put, List.setIfInBounds_toArray, List.set_cons_zero, List.set_cons_succ]
              have HD : Hid (∀ W, Below wr.heap.size wr W → Below b w W ∧ Below w1.heap.size w1 W) := Lib.hid (fun W hW => ⟨HB.out.trans (hW.mono (by have := HB.out.size; omega)), HC.out.trans (hW.mono HC.out.size)⟩)
              refine along_step rfl (fun K hK => ?_)
              go_simp
              refine (HLs.out _).mono ?_
              rintro e w4 ⟨rfl, hb4⟩
              have hb4' : Below wr.heap.size wr w4 := (Below.refl _ _).drew.trans hb4
              refine hK.out _ _ hb4' ?_
              clear hK K HP hb4
              have WB := Lib.hid (HD.out w4 hb4').1
              have WC := Lib.hid (HD.out w4 hb4').2
              clear HD hb4'
              obtain ⟨y, hy⟩ : ∃ y, Hid (Tn.less pj pi = y) := ⟨_, rfl⟩
              rw [hy.out]
              have HZ := Lib.hid (HSN.out y hy.out.symm)
              iterate 4
                refine along_take (v := ?_) rfl (by rfl) ?_ ?_
                rotate_left
                · intro W hW
                  go_simp; try with_reducible rfl
                simp only [Act.put, List.setIfInBounds_toArray, List.set_cons_zero, List.set_cons_succ]
              refine along_done ?_
              clear hgt1 hgt2 hgt3 hsb hij hjj
              go_wp2_with fail
              go_roundw
              case rel => exact ⟨i + 1, _, !y, by omega, rfl, rfl, by go_num, Lib.hid (by rw [HLn.out] <;> simp <;> omega), HZ, WB, WC⟩
              case measure => simp [intOf]; omega

      · have hin : i = t.keys.length := by rw [hnk.out]; omega
        have HLo : Hid (lg = t.isLong) := Lib.hid (by rw [HL.out, hin, Tn.longs_all])
        have HXo : Hid (fl = !Tn.rises t.keys) := Lib.hid (by rw [HX.out, hin, List.take_length])
        clear HL HX hin
        cases lg with
        | true =>
          have HR := Lib.hid (R4'.out HLo.out.symm)
          go_wp2_with fail
          go_ret
          exact ⟨ret_int (by rw [HR.out]; rfl), by first | (rw [hs]; exact HB.out) | exact HB.out⟩
        | false =>
          cases fl with
          | true =>
            have HR := Lib.hid (R5'.out HLo.out.symm (by have := HXo.out; simpa using this.symm))
            go_wp2_with fail
            go_ret
            exact ⟨ret_int (by rw [HR.out]; rfl), by first | (rw [hs]; exact HB.out) | exact HB.out⟩
          | false =>
            have HR := Lib.hid (R6'.out HLo.out.symm (by have := HXo.out; simpa using this.symm))
            clear R4' R5' R6' HLo HXo
            have d4 := (HCt.out wr HC.out).2.2.2.2
            go_wp2_with fail
            go_loopw [8, 9] (fun v8 v9 wr => ∃ (i : Nat), i ≤ n ∧ v8 = .int .i64 i ∧ Hid (r = Tn.rights (t.kids.drop i) (a + 1)) ∧ Hid (Below b w wr) ∧ Hid (Below w1.heap.size w1 wr)) (fun vi _ _ => n - (intOf vi).toNat)
            case atStart => exact ⟨0, by omega, rfl, Lib.hid (by rw [HR.out]; simp), HB, HC⟩
            case round =>
              clear d3 d4 HR HB HC
              obtain ⟨j, hj, rfl, HR, HB, HC⟩ := hrel
              have d4 := (HCt.out wr HC.out).2.2.2.2
              by_cases hlt2 : j < n
              · have hja : j < t.kids.length := by rw [hn.out]; exact hlt2
                obtain ⟨x1, o1, rfl, hx1, h5, hv⟩ := HK.out j hja
                have HW : Below b w1 wr := HC.out.mono (Nat.le_of_lt hbw)
                obtain ⟨g0, g1, g2, g3, g4⟩ := h5.below HW hx1
                have HD := Lib.hid (Tn.rights_drop (a := a + 1) hja)
                have CR := Lib.hid (IH.out j hja (by omega) (hv.keep HW))
                obtain ⟨u, hu⟩ : ∃ u, Hid (t.kids[j] = u) := ⟨t.kids[j], Lib.hid rfl⟩
                rw [hu.out] at g0 g1 g2 HD CR
                obtain ⟨x, hx⟩ : ∃ x, Hid (u.right (a + 1) = x) := ⟨_, rfl⟩
                rw [hx.out] at HD CR
                clear h5 hv HW
                go_wp2_with fail
                refine (CR.out).mono ?_
                rintro e w4 ⟨rfl, hb4⟩
                have HB4 := Lib.hid (HB.out.trans (hb4.mono (by have := HB.out.size; omega)))
                have HC4 := Lib.hid (HC.out.trans (hb4.mono HC.out.size))
                clear hb4
                by_cases hx0 : x = 0
                · subst hx0
                  have HR2 : Hid (r = Tn.rights (t.kids.drop (j + 1)) (a + 1)) := Lib.hid (by rw [HR.out, HD.out, if_neg (by simp)])
                  clear HD HR
                  go_wp2_with fail
                  go_roundw
                  case rel => exact ⟨j + 1, by omega, by go_num, HR2, HB4, HC4⟩
                  case measure => simp [intOf]; omega
                · have HR2 : Hid (r = x) := Lib.hid (by rw [HR.out, HD.out, if_pos (by simpa using hx0)])
                  have hx1 : ((x : Int) != 0) = true := by simp; omega
                  have hx2 : ((x : Int) == 0) = false := by simp; omega
                  clear HD HR
                  go_wp2_with fail
                  go_ret
                  exact ⟨ret_int (by rw [HR2.out]), by first | (rw [hs]; exact HB4.out) | exact HB4.out⟩
              · have hin2 : j = t.kids.length := by rw [hn.out]; omega
                have HR2 : Hid (r = 0) := Lib.hid (by rw [HR.out, hin2, List.drop_length]; rfl)
                go_wp2_with fail
                go_ret
                exact ⟨ret_int (by rw [HR2.out]; rfl), by first | (rw [hs]; exact HB.out) | exact HB.out⟩

theorem rRight11_any {t : Tn} {w : World} {B : Nat} {vk vq : Value} (H : Tv w B t vk vq) :
    Calls Try.prog 17 #[tval t vk vq] w fun e w' => e = .returned (.int .i64 (t.right 0 : Int)) ∧ Below w.heap.size w w' := by
  obtain ⟨b, w1, hs, hal, hT, hb1⟩ := boxedT H
  have HB1 := Lib.hid hb1
  have hbw := hT.lt
  obtain ⟨c0, c1, c2, c3, c4⟩ := hT.cells
  have HC := Lib.hid (rright11_any (SizeOf.sizeOf t + 1) t (by omega) 0 (by omega) hT.tv)
  unfold tcells at hal
  unfold tval at HC
  unfold tval
  clear hT H hb1
  obtain ⟨r, hr⟩ : ∃ r, Hid (t.right 0 = r) := ⟨_, rfl⟩
  rw [hr.out] at HC ⊢
  go_enter Try.func17, Try.ntmps17
  go_wp2_with fail
  refine (HC.out).mono ?_
  rintro e w3 ⟨rfl, hb3⟩
  have HB3 := Lib.hid (HB1.out.trans (hb3.mono (by omega)))
  clear hb3
  go_wp2_with fail
  go_ret
  exact ⟨rfl, by first | (rw [hs]; exact HB3.out) | exact HB3.out⟩
end Go.Proofs.Ytphanlkobkkgfaa
