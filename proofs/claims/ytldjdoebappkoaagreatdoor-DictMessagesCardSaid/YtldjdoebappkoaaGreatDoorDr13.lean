/- Contracts of dict's small readers: slices.Index, valueOf, getKind, getPeer, getPair. -/
import Derived.Test.YtldjdoebappkoaaGreatDoorDb13
import Derived.Test.YtldjdoebappkoaaGreatDoorPE
import Derived.Test.YtldjdoebappkoaaGreatDoorPC
import Derived.Lib.ConvBytes
namespace Go.Proofs.YtldjdoebappkoaaGreatDoor
open Go.RowKit
set_option linter.unusedVariables false
set_option maxRecDepth 100000
set_option linter.unusedSimpArgs false
open Gm

/-- not too many keys and kids, and no long text, on all levels -/
inductive Tn.Fw : Tn → Prop
  | mk {t : Tn} (hs : t.s.size ≤ 1000000) (hk : t.keys.length ≤ 1000000) (hq : t.kids.length ≤ 100000) (hl : ∀ u ∈ t.kids, Fw u) : Fw t
theorem Tn.Fw.few {t : Tn} (h : t.Fw) : t.Few := by
  induction h with
  | mk hs hk hq hl ih => exact .mk hk (by omega) ih
theorem Tn.Fw.str {t : Tn} (h : t.Fw) : t.s.size ≤ 1000000 := by cases h; assumption
theorem Tn.Fw.kids {t : Tn} (h : t.Fw) : t.kids.length ≤ 100000 := by cases h; assumption
theorem Tn.Fw.kid {t : Tn} (h : t.Fw) : ∀ u ∈ t.kids, u.Fw := by cases h; assumption
theorem Tn.Fw.none : Dm.none_.Fw := .mk (by simp [Dm.none_, Tn.s, ByteArray.size]) (by simp [Dm.none_, Tn.keys]) (by simp [Dm.none_, Tn.kids]) (fun u hu => by cases hu)
theorem Tn.Fw.field {t : Tn} (h : t.Fw) (k : ByteArray) : (Dm.field t k).Fw := by
  unfold Dm.field Tn.get
  split
  · cases hg : t.kids[Tn.place t.keys k]? with
    | none => exact Tn.Fw.none
    | some u => exact h.kid u (List.mem_of_getElem? hg)
  · exact Tn.Fw.none

def ixOf (l : List ByteArray) (key : ByteArray) : Int := if Tn.place l key < l.length then (Tn.place l key : Int) else -1
theorem index13_any {w : World} {B : Nat} {va : Value} {la : List ByteArray} (Ha : Sk w B va la) (key : ByteArray) :
    Calls Tryz.prog 26 #[va, .string key] w fun e w' => e = .returned (.int .i64 (ixOf la key)) ∧ w' = w := by
  obtain ⟨Aa, ca, rfl, Ta, h1, h2, _, _⟩ := Ha
  have TA := Lib.hid Ta
  unfold maxLen at h2
  have HF : Hid (∀ i (hi : i < la.length), la[i] = key → (∀ j (h : j < i), la[j]'(by omega) ≠ key) → ixOf la key = (i : Int)) := Lib.hid (fun i hi e h => by
    unfold ixOf
    rw [Tn.place_first hi e h, if_pos hi])
  have HN : Hid ((∀ k ∈ la, k ≠ key) → ixOf la key = -1) := Lib.hid (fun h => by
    unfold ixOf
    rw [Tn.place_none h, if_neg (Nat.lt_irrefl _)])
  obtain ⟨n, hn⟩ : ∃ n, Hid (la.length = n) := ⟨_, rfl⟩
  rw [hn.out] at h1 ⊢
  obtain ⟨r, hr⟩ : ∃ r, Hid (ixOf la key = r) := ⟨_, Lib.hid rfl⟩
  rw [hr.out] at HF HN ⊢
  clear Ta
  go_enter Tryz.func26, Tryz.ntmps26
  go_wp2_with fail
  go_loopw [8] (fun v wr => ∃ (i : Nat), i ≤ n ∧ v = .int .i64 i ∧ wr = w ∧ Hid (∀ j, j < i → ∀ (ha : j < la.length), la[j] ≠ key)) (fun v _ => n - (intOf v).toNat)
  case atStart => exact ⟨0, by omega, rfl, rfl, Lib.hid (fun j hj => by omega)⟩
  case round =>
    obtain ⟨i, hi, rfl, rfl, HI⟩ := hrel
    by_cases hlt : i < n
    · have hia : i < la.length := by rw [hn.out]; exact hlt
      obtain ⟨b1, o1, rfl, _, d0⟩ := TA.out i hia
      have HS : Hid (la[i] ≠ key → ∀ j, j < i + 1 → ∀ (ha : j < la.length), la[j] ≠ key) := Lib.hid (fun h j hj ha => by
        by_cases e : j = i
        · subst e; exact h
        · exact HI.out j (by omega) ha)
      have HFi : Hid (la[i] = key → r = (i : Int)) := Lib.hid (fun e => HF.out i hia e (fun j hj => HI.out j hj (by omega)))
      obtain ⟨p, hp⟩ : ∃ p, Hid (la[i] = p) := ⟨la[i], Lib.hid rfl⟩
      rw [hp.out] at d0 HS HFi
      have hs := txt_eq key p
      by_cases hpq : p = key
      · rw [decide_eq_true hpq.symm] at hs
        have HE := Lib.hid (HFi.out hpq)
        clear HS HFi HI hpq
        go_wp2_with fail
        go_ret
        exact ⟨ret_int HE.out.symm, rfl⟩
      · rw [decide_eq_false (fun e => hpq e.symm)] at hs
        have HS' := Lib.hid (HS.out hpq)
        clear HS HFi HI hpq
        go_wp2_with fail
        go_roundw
        case rel => exact ⟨i + 1, by omega, by go_num, by first | rfl | trivial, HS'⟩
        case measure => simp [intOf]; omega
    · have HE := Lib.hid (HN.out (fun k hk => by
        obtain ⟨j, hj, rfl⟩ := List.mem_iff_getElem.1 hk
        exact HI.out j (by have := hn.out; omega) hj))
      go_wp2_with fail
      go_ret
      exact ⟨ret_int HE.out.symm, rfl⟩

set_option maxHeartbeats 1000000 in
theorem valueof13_any {t : Tn} (hk4 : t.kind = 4) (hkl : t.keys.length = t.kids.length) {w : World} {B : Nat} {vk vq : Value} (H : Tv w B t vk vq) (key : ByteArray) :
    Calls Tryz.prog 12 #[tval t vk vq, .string key] w fun e w' => ∃ xk xq, e = .returned (tval (Dm.field t key) xk xq) ∧ Tv w' w.heap.size (Dm.field t key) xk xq ∧ Below w.heap.size w w' := by
  obtain ⟨b, w1, hs, hal, hT1, hb1⟩ := boxedT H
  obtain ⟨g, w2, hg, hal2, hY, hb2, hs2⟩ := var_tree w1
  have hbg : b < g := by rw [← hg]; exact hT1.lt
  have hT := hT1.below hb2 hbg
  have HT := Lib.hid hT
  have HY := Lib.hid hY
  have HB2 : Hid (Below b w w2) := Lib.hid (hb1.trans (hb2.mono (by omega)))
  obtain ⟨c0, c1, c2, c3, c4⟩ := hT.cells
  have HC := Lib.hid (index13_any hT.tv.keys key)
  have HIx : Hid (ixOf t.keys key = if Tn.place t.keys key < t.keys.length then (Tn.place t.keys key : Int) else -1) := Lib.hid rfl
  have HE1 : Hid (¬ Tn.place t.keys key < t.keys.length → Dm.field t key = Dm.none_) := Lib.hid (fun h => by unfold Dm.field; rw [Tn.get_place h]; rfl)
  have HE2 : Hid (∀ i, Tn.place t.keys key = i → ∀ (hi : i < t.kids.length), i < t.keys.length → Dm.field t key = t.kids[i]) := Lib.hid (fun i e hi h => by subst e; unfold Dm.field; rw [Tn.get_some hk4 h hi]; rfl)
  obtain ⟨A, c, rfl, h1, h2, h3, K, Q, hK⟩ := hT.tv.kids
  have HK := Lib.hid hK
  obtain ⟨Ak, ck, rfl, _⟩ := hT.tv.keys
  have hpl := Tn.place_le t.keys key
  obtain ⟨p, hp⟩ : ∃ p, Tn.place t.keys key = p := ⟨_, rfl⟩
  have HE3 := Lib.hid (HE2.out p hp)
  rw [hp] at HIx hpl HE1
  obtain ⟨X, hX⟩ : ∃ X, Hid (Dm.field t key = X) := ⟨_, Lib.hid rfl⟩
  rw [hX.out] at HE1 HE3 ⊢
  obtain ⟨r, hr⟩ : ∃ r, Hid (ixOf t.keys key = r) := ⟨_, Lib.hid rfl⟩
  rw [hr.out] at HC HIx
  unfold tcells at hal
  unfold tval
  unfold maxLen at h2
  clear hT1 hT hb1 hb2 hY hK H hp HE2 hk4
  obtain ⟨n, hn⟩ : ∃ n, Hid (t.kids.length = n) := ⟨_, Lib.hid rfl⟩
  rw [hkl, hn.out] at HIx hpl HE1
  have hKL := Lib.hid hkl
  rw [hn.out] at h1 c4 hal ⊢
  rw [hkl, hn.out] at c3 hal HC ⊢
  by_cases hlt : p < n
  · rw [if_pos hlt] at HIx
    have hpk : p < t.kids.length := by rw [hn.out]; exact hlt
    have HXe : Hid (X = t.kids[p]) := Lib.hid (HE3.out hpk (by have := hKL.out; omega))
    obtain ⟨bq, oq, rfl, hbq, h5, hv⟩ := HK.out p hpk
    rw [← HXe.out] at h5 hv
    obtain ⟨A1, e1, ek, _⟩ := hv.keys
    obtain ⟨A2, e2, eq, _⟩ := hv.kids
    rw [ek, eq] at h5 hv
    obtain ⟨m0, m1, m2, m3, m4⟩ := h5
    obtain ⟨_, er⟩ : ∃ r', r' = r := ⟨_, rfl⟩
    have hrp : r = (p : Int) := HIx.out
    subst hrp
    have hpi : ¬ ((p : Int) < 0) := by omega
    have HV : Hid (∀ cs, Tv (w2.setRow g cs) w.heap.size X (.slice A1 X.keys.length e1) (.slice A2 X.kids.length e2)) := Lib.hid (fun cs => by rw [hs]; exact hv.keep (below_row (B := b) (Below.refl _ w2) (by omega) _))
    clear hv ek eq HE1 HE3 HIx
    go_enter Tryz.func12, Tryz.ntmps12
    go_wp2_with fail
    refine (HC.out).mono ?_
    rintro e w3 ⟨rfl, rfl⟩
    go_wp2_with (refine wpList_store_whole rfl rfl rfl rfl rfl HY.out (treeI rfl) rfl (by simp [Value.oneCell']) ?_)
    refine bodyPost_ret (v := tval X (.slice A1 X.keys.length e1) (.slice A2 X.kids.length e2)) ?_ rfl ⟨_, _, rfl, HV.out _, by rw [hs]; exact below_row HB2.out (by omega) _⟩
    exact results_tree rfl rfl (HY.out.row _) rfl
  · rw [if_neg hlt] at HIx
    have hrp : r = -1 := HIx.out
    subst hrp
    have HXe : Hid (X = Dm.none_) := Lib.hid (HE1.out hlt)
    clear HE1 HE3 HIx
    rw [HXe.out]
    go_enter Tryz.func12, Tryz.ntmps12
    go_wp2_with fail
    refine (HC.out).mono ?_
    rintro e w3 ⟨rfl, rfl⟩
    go_wp2_with (refine wpList_store_whole rfl rfl rfl rfl rfl HY.out (treeI rfl) rfl (by simp [Value.oneCell']) ?_)
    refine bodyPost_ret (v := tval Dm.none_ (.slice none 0 0) (.slice none 0 0)) ?_ rfl ⟨_, _, rfl, Tv.zero _ _, by rw [hs]; exact below_row HB2.out (by omega) _⟩
    exact results_tree rfl rfl (HY.out.row _) rfl

theorem getkind13_any {t : Tn} {w : World} {B : Nat} {vk vq : Value} (H : Tv w B t vk vq) (T : Tab w) :
    Calls Tryz.prog 11 #[tval t vk vq] w fun e w' => e = .returned (.int .i64 ((if t.kind ≠ 2 then 0 else kindOf t.s : Nat) : Int)) ∧ Below w.heap.size w w' := by
  obtain ⟨Ak, ck, rfl, _⟩ := H.keys
  obtain ⟨Aq, cq, rfl, _⟩ := H.kids
  obtain ⟨b, w1, hs, hal, hT1, hb1⟩ := boxedT H
  have HT := Lib.hid hT1
  have HB1 := Lib.hid hb1
  have CK := Lib.hid (kind_any t.s w1 (T.below (by rw [hs]; exact hb1) T.lt))
  obtain ⟨c0, c1, c2, c3, c4⟩ := hT1.cells
  unfold tcells at hal
  unfold tval
  clear hT1 hb1 H T
  by_cases hk : t.kind = 2
  · rw [if_neg (by simpa using hk)]
    have q : (t.kind == 2) = true := by simpa using hk
    have q1 : (t.kind != 2) = false := by simpa using hk
    clear hk
    go_enter Tryz.func11, Tryz.ntmps11
    go_wp2_with fail
    refine (CK.out).mono ?_
    rintro e w3 ⟨rfl, hb3⟩
    have HB3 := Lib.hid (HB1.out.trans (hb3.mono (by have := HT.out.lt; omega)))
    clear hb3
    go_wp2_with fail
    go_ret
    exact ⟨rfl, by rw [hs]; exact HB3.out⟩
  · rw [if_pos hk]
    have q : (t.kind == 2) = false := by simpa using hk
    have q1 : (t.kind != 2) = true := by simpa using hk
    clear hk
    go_enter Tryz.func11, Tryz.ntmps11
    go_wp2_with fail
    go_ret
    exact ⟨rfl, by rw [hs]; exact HB1.out⟩
end Go.Proofs.YtldjdoebappkoaaGreatDoor
