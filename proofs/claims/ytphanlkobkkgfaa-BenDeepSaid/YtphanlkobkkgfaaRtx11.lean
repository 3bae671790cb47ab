/- Contracts of the reference's functions of layer 11 over strings: texts, Less, place. -/
import Derived.Test.YtphanlkobkkgfaaTv
import Derived.BigQuiet
import Derived.Deep.QuietTactic
namespace Go.Proofs.Ytphanlkobkkgfaa
open Go.RowKit
set_option linter.unusedVariables false
set_option maxRecDepth 100000

theorem txt_eq (a b : ByteArray) : (a.toList == b.toList) = decide (a = b) := by
  rw [Bool.eq_iff_iff, beq_iff_eq, decide_eq_true_iff]
  exact ⟨fun h => toList_inj h, fun h => by rw [h]⟩
theorem any_eq {α : Type} {a b : List α} (hl : a.length = b.length) (h : ∀ j (ha : j < a.length) (hb : j < b.length), a[j] = b[j]) : a = b := List.ext_getElem hl fun i h1 h2 => h i h1 h2
theorem any_neq {α : Type} {a b : List α} {i : Nat} (ha : i < a.length) (hb : i < b.length) (h : ¬ a[i] = b[i]) : ¬ a = b := by
  intro e
  subst e
  exact h rfl
theorem drewn_below {B : Nat} {a w : World} (h : Below B a w) (n : Nat) : Below B a (w.drewN n) := ⟨h.os, h.tape, h.output, h.size, h.block⟩
theorem lt_of_cell {w : World} {b o : Nat} {v : Value} (h : w.cell? ⟨b, o, none⟩ = some v) : b < w.heap.size := by
  obtain ⟨_, _, e, hb⟩ := spot_of h
  injection e with e _ _
  omega
theorem Sc.all {w : World} {B : Nat} {A : Option Addr} {l : List ByteArray} (h : Sc w B A l) : Sc w w.heap.size A l := fun i hi => by
  obtain ⟨b, off, e, _, hc⟩ := h i hi
  exact ⟨b, off, e, lt_of_cell hc, hc⟩
theorem Sk.all {w : World} {B : Nat} {v : Value} {l : List ByteArray} (h : Sk w B v l) : Sk w w.heap.size v l := by obtain ⟨A, c, h1, h2, h3⟩ := h; exact ⟨A, c, h1, h2.all, h3⟩
theorem Tv.all {w : World} {B : Nat} {t : Tn} {vk vq : Value} (h : Tv w B t vk vq) : Tv w w.heap.size t vk vq := by
  induction h with
  | mk K Q rk rn rs hk hl hm hn hc ht ih =>
    refine .mk K Q rk rn rs hk.all hl hm hn (fun i hi => ?_) ih
    obtain ⟨b, off, e, _, h5⟩ := hc i hi
    exact ⟨b, off, e, lt_of_cell h5.c0, h5⟩

theorem rtexts11_any {w : World} {B C : Nat} {va vb : Value} {la lb : List ByteArray} (Ha : Sk w B va la) (Hb : Sk w C vb lb) :
    Calls Try.prog 22 #[va, vb] w fun e w' => e = .returned (.bool (decide (la = lb))) ∧ Below w.heap.size w w' := by
  obtain ⟨Aa, ca, rfl, Ta, h1, h2, _, _⟩ := Ha
  obtain ⟨Ab, cb, rfl, Tb, h3, h4, _, _⟩ := Hb
  have TA := Lib.hid Ta.all
  have TB := Lib.hid Tb.all
  unfold maxLen at h2 h4
  obtain ⟨n, hn⟩ : ∃ n, Hid (la.length = n) := ⟨_, rfl⟩
  obtain ⟨k, hk⟩ : ∃ k, Hid (lb.length = k) := ⟨_, rfl⟩
  rw [hn.out] at h1 ⊢
  rw [hk.out] at h3 ⊢
  clear Ta Tb
  by_cases hnk : n = k
  · subst hnk
    go_enter Try.func22, Try.ntmps22
    go_wp2_with fail
    go_loopw [5] (fun v wr => ∃ (i : Nat), i ≤ n ∧ v = .int .i64 i ∧ Hid (Below w.heap.size w wr) ∧ Hid (∀ j, j < i → ∀ (ha : j < la.length) (hb : j < lb.length), la[j] = lb[j])) (fun v _ => n - (intOf v).toNat)
    case atStart => exact ⟨0, by omega, rfl, Lib.hid (Below.refl _ _), Lib.hid (fun j hj => by omega)⟩
    case round =>
      obtain ⟨i, hi, rfl, HB, HI⟩ := hrel
      by_cases hlt : i < n
      · have hia : i < la.length := by rw [hn.out]; exact hlt
        have hib : i < lb.length := by rw [hk.out]; exact hlt
        obtain ⟨b1, o1, rfl, _, d0⟩ := TA.out.below HB.out i hia
        obtain ⟨b2, o2, rfl, _, d2⟩ := TB.out.below HB.out i hib
        have HN := Lib.hid (fun (h : ¬ la[i] = lb[i]) => any_neq hia hib h)
        have HS : Hid (la[i] = lb[i] → ∀ j, j < i + 1 → ∀ (ha : j < la.length) (hb : j < lb.length), la[j] = lb[j]) := Lib.hid (fun h j hj ha hb => by
          by_cases e : j = i
          · subst e; exact h
          · exact HI.out j (by omega) ha hb)
        obtain ⟨p, hp⟩ : ∃ p, Hid (la[i] = p) := ⟨la[i], Lib.hid rfl⟩
        obtain ⟨q, hq⟩ : ∃ q, Hid (lb[i] = q) := ⟨lb[i], Lib.hid rfl⟩
        rw [hp.out] at d0 HN HS
        rw [hq.out] at d2 HN HS
        have hs := txt_eq p q
        by_cases hpq : p = q
        · rw [decide_eq_true hpq] at hs
          have HS' := Lib.hid (HS.out hpq)
          clear HS HN HI hpq
          go_wp2_with fail
          go_quiet (fail)
          go_wp2_with fail
          go_roundw
          case rel => exact ⟨i + 1, by omega, by go_num, Lib.hid (drewn_below HB.out _), HS'⟩
          case measure => simp [intOf]; omega
        · rw [decide_eq_false hpq] at hs
          have HN' := Lib.hid (HN.out hpq)
          clear HS HN HI hpq
          go_wp2_with fail
          go_quiet (fail)
          go_wp2_with fail
          go_ret
          exact ⟨ret_bool (by rw [decide_eq_false HN'.out]), drewn_below HB.out _⟩
      · have HE : Hid (la = lb) := Lib.hid (any_eq (by rw [hn.out, hk.out]) fun j ha hb => HI.out j (by have := hn.out; omega) ha hb)
        go_wp2_with fail
        go_ret
        exact ⟨ret_bool (by rw [decide_eq_true HE.out]), HB.out⟩
  · have HE : Hid (¬ la = lb) := Lib.hid (fun e => hnk (by rw [← hn.out, ← hk.out, e]))
    go_enter Try.func22, Try.ntmps22
    go_wp2_with fail
    go_ret
    exact ⟨ret_bool (by rw [decide_eq_false HE.out]), Below.refl _ _⟩

/-! ### byte by byte -/
theorem Tn.lessL_drop : ∀ {a b : List Nat} {j : Nat}, j ≤ a.length → j ≤ b.length → (∀ i, i < j → a.getD i 0 = b.getD i 0) → Tn.lessL a b = Tn.lessL (a.drop j) (b.drop j)
  | a, b, 0, _, _, _ => rfl
  | [], _, j + 1, h, _, _ => by simp at h
  | _ :: _, [], j + 1, _, h, _ => by simp at h
  | x :: a, y :: b, j + 1, h1, h2, h => by
    have h0 : x = y := h 0 (by omega)
    subst h0
    show (if x = x then Tn.lessL a b else decide (x < x)) = Tn.lessL (a.drop j) (b.drop j)
    rw [if_pos rfl]
    exact Tn.lessL_drop (by simpa using h1) (by simpa using h2) (fun i hi => h (i + 1) (by omega))
theorem Tn.lessL_at {a b : List Nat} {j : Nat} (h1 : j < a.length) (h2 : j < b.length) (h : ∀ i, i < j → a.getD i 0 = b.getD i 0) (hne : a.getD j 0 ≠ b.getD j 0) : Tn.lessL a b = decide (a.getD j 0 < b.getD j 0) := by
  rw [Tn.lessL_drop (by omega) (by omega) h, List.drop_eq_getElem_cons h1, List.drop_eq_getElem_cons h2]
  have e1 : a.getD j 0 = a[j] := by simp [List.getD, List.getElem?_eq_getElem h1]
  have e2 : b.getD j 0 = b[j] := by simp [List.getD, List.getElem?_eq_getElem h2]
  rw [e1, e2] at hne ⊢
  show (if a[j] = b[j] then _ else _) = _
  rw [if_neg hne]
theorem Tn.lessL_end {a b : List Nat} {j : Nat} (h1 : j ≤ a.length) (h2 : j ≤ b.length) (h3 : j = a.length ∨ j = b.length) (h : ∀ i, i < j → a.getD i 0 = b.getD i 0) : Tn.lessL a b = decide (a.length < b.length) := by
  rw [Tn.lessL_drop h1 h2 h]
  by_cases hb : b.length ≤ j
  · rw [List.drop_eq_nil_of_le hb]
    have : Tn.lessL (a.drop j) [] = false := by cases a.drop j <;> rfl
    rw [this]
    exact (decide_eq_false (by omega)).symm
  · rw [List.drop_eq_nil_of_le (show a.length ≤ j by omega), List.drop_eq_getElem_cons (show j < b.length by omega)]
    exact (decide_eq_true (by omega)).symm

theorem rless_any (a b : ByteArray) (ha : a.size ≤ 9223372036854775807) (hb : b.size ≤ 9223372036854775807) (w : World) :
    Calls Try.prog 46 #[.string a, .string b] w fun e w' => e = .returned (.bool (Tn.less a b)) ∧ Below w.heap.size w w' := by
  have TA := Txt.nums a
  have TB := Txt.nums b
  have HL : Hid (Tn.less a b = Tn.lessL (nums a) (nums b)) := rfl
  have HbA := Lib.hid TA.byte
  have HbB := Lib.hid TB.byte
  have HatA := Lib.hid TA.at_
  have HatB := Lib.hid TB.at_
  have hza := TA.size
  have hzb := TB.size
  obtain ⟨la, hla⟩ : ∃ la, Hid (nums a = la) := ⟨_, rfl⟩
  obtain ⟨lb, hlb⟩ : ∃ lb, Hid (nums b = lb) := ⟨_, rfl⟩
  rw [hla.out] at HL HbA HatA hza
  rw [hlb.out] at HL HbB HatB hzb
  rw [HL.out]
  obtain ⟨n, hn⟩ : ∃ n, Hid (la.length = n) := ⟨_, rfl⟩
  obtain ⟨k, hk⟩ : ∃ k, Hid (lb.length = k) := ⟨_, rfl⟩
  rw [hn.out] at hza
  rw [hk.out] at hzb
  rw [hza] at ha
  rw [hzb] at hb
  clear TA TB
  go_enter Try.func46, Try.ntmps46
  go_wp2_with fail
  go_loopw [5] (fun v wr => ∃ (j : Nat), j ≤ n ∧ j ≤ k ∧ v = .int .i64 j ∧ Hid (Below w.heap.size w wr) ∧ Hid (∀ i, i < j → la.getD i 0 = lb.getD i 0)) (fun v _ => n - (intOf v).toNat)
  case atStart => exact ⟨0, by omega, by omega, rfl, Lib.hid (Below.refl _ _), Lib.hid (fun i hi => by omega)⟩
  case round =>
    obtain ⟨j, hj, hjk, rfl, HB, HI⟩ := hrel
    by_cases hlt : j < n ∧ j < k
    · obtain ⟨h1, h2⟩ := hlt
      have hatA := HatA.out j (by rw [hza]; exact h1)
      have hatB := HatB.out j (by rw [hzb]; exact h2)
      have HAt := Lib.hid (fun hne => Tn.lessL_at (a := la) (b := lb) (j := j) (by rw [hn.out]; exact h1) (by rw [hk.out]; exact h2) HI.out hne)
      have HNx : Hid (la.getD j 0 = lb.getD j 0 → ∀ i, i < j + 1 → la.getD i 0 = lb.getD i 0) := Lib.hid (fun h i hi => by
        by_cases e : i = j
        · subst e; exact h
        · exact HI.out i (by omega))
      obtain ⟨x, hx⟩ : ∃ x, Hid (la.getD j 0 = x) := ⟨_, rfl⟩
      obtain ⟨y, hy⟩ : ∃ y, Hid (lb.getD j 0 = y) := ⟨_, rfl⟩
      rw [hx.out] at hatA HAt HNx
      rw [hy.out] at hatB HAt HNx
      by_cases hxy : x = y
      · have HNx' := Lib.hid (HNx.out hxy)
        subst hxy
        clear HAt HNx HI
        go_wp2_with fail
        go_quiet (fail)
        go_wp2_with fail
        go_roundw
        case rel => exact ⟨j + 1, by omega, by omega, by go_num, Lib.hid (drewn_below HB.out _), HNx'⟩
        case measure => simp [intOf]; omega
      · have hA := Lib.hid (HAt.out hxy)
        have hne : ((x : Int) == (y : Int)) = false := by simp; omega
        have hne2 : ((x : Int) != (y : Int)) = true := by simp; omega
        clear HAt HNx HI hxy
        go_wp2_with fail
        go_quiet (fail)
        go_wp2_with fail
        go_quiet (fail)
        go_wp2_with fail
        go_ret
        exact ⟨ret_bool (by rw [hA.out] <;> simp), by first | exact drewn_below HB.out _ | exact drewn_below (drewn_below HB.out _) _⟩
    · have HE := Lib.hid (Tn.lessL_end (a := la) (b := lb) (j := j) (by rw [hn.out]; exact hj) (by rw [hk.out]; exact hjk) (by rw [hn.out, hk.out]; omega) HI.out)
      rw [hn.out, hk.out] at HE
      by_cases h1 : j < n
      · have h2 : ¬ j < k := fun h => hlt ⟨h1, h⟩
        clear hlt
        go_wp2_with fail
        go_ret
        exact ⟨ret_bool (by rw [HE.out] <;> simp), HB.out⟩
      · clear hlt
        go_wp2_with fail
        go_ret
        exact ⟨ret_bool (by rw [HE.out] <;> simp), HB.out⟩

end Go.Proofs.Ytphanlkobkkgfaa
