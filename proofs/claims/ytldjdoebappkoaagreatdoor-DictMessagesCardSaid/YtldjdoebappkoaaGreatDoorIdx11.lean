/- Contracts of the closures that find keys, of slices.IndexFunc and slices.ContainsFunc with them, of tree.indexOf, placeOf, isLong, isRising. -/
import Derived.Test.YtldjdoebappkoaaGreatDoorCopy11
namespace Go.Proofs.YtldjdoebappkoaaGreatDoor
open Go.RowKit
set_option linter.unusedVariables false
set_option maxRecDepth 100000
set_option linter.unusedSimpArgs false

theorem lessL_is : ∀ a b : List UInt8, Op.bytesLess a b = Tn.lessL (a.map UInt8.toNat) (b.map UInt8.toNat)
  | [], [] => rfl
  | _ :: _, [] => rfl
  | [], _ :: _ => rfl
  | x :: a, y :: b => by
    have ih := lessL_is a b
    show (decide (x < y) || (x == y && Op.bytesLess a b)) = if x.toNat = y.toNat then Tn.lessL (a.map UInt8.toNat) (b.map UInt8.toNat) else decide (x.toNat < y.toNat)
    rw [ih]
    by_cases h : x = y
    · subst h
      rw [if_pos rfl]
      have : ¬ x < x := by rw [UInt8.lt_iff_toNat_lt]; omega
      simp [this]
    · have h2 : ¬ x.toNat = y.toNat := fun e => h (UInt8.toNat_inj.1 e)
      rw [if_neg h2]
      have h3 : (x == y) = false := by simpa using h
      rw [h3]
      simp [UInt8.lt_iff_toNat_lt]
theorem less_is (a b : ByteArray) : Op.bytesLess a.toList b.toList = Tn.less a b := by
  rw [lessL_is, ByteArray.toList_eq, ByteArray.toList_eq]
  rfl
theorem more_is (a b : ByteArray) : (!Op.bytesLess a.toList b.toList && !(a.toList == b.toList)) = Tn.less b a := by
  rw [less_is, txt_eq]
  by_cases h : a = b
  · subst h
    simp [Tn.less_irrefl]
  · rw [decide_eq_false h]
    cases h1 : Tn.less a b <;> cases h2 : Tn.less b a <;> simp
    · exact h (Tn.less_total h1 h2)
    · have := Tn.less_trans h1 h2
      rw [Tn.less_irrefl] at this
      cases this
namespace Tn
/-- the first place at which p holds; -1 -/
def spot (p : ByteArray → Bool) (l : List ByteArray) : Int := if l.findIdx p < l.length then (l.findIdx p : Int) else -1
theorem spot_hit {p : ByteArray → Bool} {l : List ByteArray} {i : Nat} (h : i < l.length) (h1 : p l[i] = true) (h2 : ∀ j, j < i → ∀ (ha : j < l.length), p l[j] = false) : spot p l = i := by
  have : l.findIdx p = i := (List.findIdx_eq h).2 ⟨h1, fun j hj => by simpa using h2 j hj (by omega)⟩
  unfold spot
  rw [this, if_pos h]
theorem spot_none {p : ByteArray → Bool} {l : List ByteArray} (h : ∀ j (ha : j < l.length), p l[j] = false) : spot p l = -1 := by
  have : l.findIdx p = l.length := List.findIdx_eq_length.2 (fun x hx => by
    obtain ⟨j, hj, rfl⟩ := List.mem_iff_getElem.1 hx
    exact h j hj)
  unfold spot
  rw [this, if_neg (by omega)]
theorem spot_any (p : ByteArray → Bool) (l : List ByteArray) : decide (0 ≤ spot p l) = l.any p := by
  unfold spot
  rw [Bool.eq_iff_iff, decide_eq_true_iff, List.any_eq_true]
  constructor
  · intro h
    split at h
    · rename_i h1
      exact ⟨_, List.getElem_mem h1, List.findIdx_getElem (w := h1)⟩
    · omega
  · rintro ⟨x, hx, hp⟩
    have := List.findIdx_lt_length_of_exists ⟨x, hx, hp⟩
    rw [if_pos this]
    omega
theorem spot_bounds (p : ByteArray → Bool) (l : List ByteArray) : -1 ≤ spot p l ∧ spot p l < (l.length : Int) + 1 := by
  unfold spot
  have := List.findIdx_le_length (p := p) (xs := l)
  split <;> omega
theorem spot_place (l : List ByteArray) (key : ByteArray) : spot (fun k => decide (k = key)) l = if place l key < l.length then (place l key : Int) else -1 := rfl
theorem spot_gap (l : List ByteArray) (key : ByteArray) : spot (fun k => less key k) l = if gap l key < l.length then (gap l key : Int) else -1 := rfl
end Tn

theorem clo_is (k key : ByteArray) (h : Nat) (w : World) (hc : w.cell? ⟨h, 0, none⟩ = some (.string key)) :
    Calls Tryz.prog 91 #[.string k, .pointer (some ⟨h, 0, none⟩)] w fun e w' => e = .returned (.bool (decide (k = key))) ∧ w' = w := by
  have hs := txt_eq k key
  obtain ⟨y, hy⟩ : ∃ y, Hid (decide (k = key) = y) := ⟨_, rfl⟩
  rw [hy.out] at hs ⊢
  go_enter Tryz.func91, Tryz.ntmps91
  go_wp2_with fail
  go_ret
  exact ⟨rfl, rfl⟩
theorem clo_more (k key : ByteArray) (h : Nat) (w : World) (hc : w.cell? ⟨h, 0, none⟩ = some (.string key)) :
    Calls Tryz.prog 92 #[.string k, .pointer (some ⟨h, 0, none⟩)] w fun e w' => e = .returned (.bool (Tn.less key k)) ∧ w' = w := by
  have hm := Lib.hid (more_is k key)
  go_enter Tryz.func92, Tryz.ntmps92
  go_wp2_with fail
  go_ret
  exact ⟨ret_bool hm.out, rfl⟩
theorem idx_is {w : World} {B : Nat} {v : Value} {l : List ByteArray} (H : Sk w B v l) (key : ByteArray) (h : Nat) (hc : w.cell? ⟨h, 0, none⟩ = some (.string key)) :
    Calls Tryz.prog 90 #[v, .func (.func 91) #[] #[.pointer (some ⟨h, 0, none⟩)]] w fun e w' => e = .returned (.int .i64 (Tn.spot (fun k => decide (k = key)) l)) ∧ w' = w := by
  obtain ⟨A, c, rfl, Ta, h1, h2, _, hsz⟩ := H
  have TA := Lib.hid Ta
  have HSZ := Lib.hid hsz
  unfold maxLen at h2
  have HH := Lib.hid (fun i h h1 h2 => Tn.spot_hit (p := fun k => decide (k = key)) (l := l) (i := i) h h1 h2)
  have HE := Lib.hid (fun h => Tn.spot_none (p := fun k => decide (k = key)) (l := l) h)
  obtain ⟨r, hr⟩ : ∃ r, Hid (Tn.spot (fun k => decide (k = key)) l = r) := ⟨_, rfl⟩
  rw [hr.out] at HH HE ⊢
  obtain ⟨n, hn⟩ : ∃ n, Hid (l.length = n) := ⟨_, rfl⟩
  rw [hn.out] at h1 ⊢
  clear Ta hsz
  go_enter Tryz.func90, Tryz.ntmps90
  go_wp2_with fail
  go_loop [8] (fun v => ∃ (i : Nat), i ≤ n ∧ v = .int .i64 i ∧ Hid (∀ j, j < i → ∀ (ha : j < l.length), (fun k => decide (k = key)) l[j] = false)) (fun v => n - (intOf v).toNat)
  case atStart => exact ⟨0, by omega, rfl, Lib.hid (fun j hj => by omega)⟩
  case round =>
    obtain ⟨i, hi, rfl, HI⟩ := hrel
    by_cases hlt : i < n
    · have hia : i < l.length := by rw [hn.out]; exact hlt
      obtain ⟨b1, o1, rfl, _, d0⟩ := TA.out i hia
      have HN : Hid ((fun k => decide (k = key)) l[i] = true → r = i) := Lib.hid (fun h => HH.out i hia h HI.out)
      have HS : Hid ((fun k => decide (k = key)) l[i] = false → ∀ j, j < i + 1 → ∀ (ha : j < l.length), (fun k => decide (k = key)) l[j] = false) := Lib.hid (fun h j hj ha => by
        by_cases e : j = i
        · subst e; exact h
        · exact HI.out j (by omega) ha)
      have HZ := Lib.hid (HSZ.out _ (List.getElem_mem hia))
      obtain ⟨p, hp⟩ : ∃ p : ByteArray, Hid (l[i] = p) := ⟨l[i], Lib.hid rfl⟩
      rw [hp.out] at d0 HN HS HZ
      have C := Lib.hid (clo_is p key h w hc)
      simp only [] at HN HS
      obtain ⟨y, hy⟩ : ∃ y, Hid ((fun k => decide (k = key)) p = y) := ⟨_, rfl⟩
      have hy2 : decide (p = key) = y := hy.out
      rw [hy2] at C HN HS
      clear HI hy2 HZ
      go_wp2_with fail
      refine (C.out).mono ?_
      rintro e w1 ⟨rfl, rfl⟩
      cases y
      · have HS' := Lib.hid (HS.out rfl)
        clear HS HN
        go_wp2_with fail
        go_round
        case rel => exact ⟨i + 1, by omega, by go_num, HS'⟩
        case measure => simp [intOf]; omega
      · have HN' := Lib.hid (HN.out rfl)
        clear HS HN
        go_wp2_with fail
        go_ret
        exact ⟨ret_int (by rw [HN'.out]), rfl⟩
    · have HX := Lib.hid (HE.out (fun j hj => HI.out j (by have := hn.out; omega) hj))
      go_wp2_with fail
      go_ret
      exact ⟨ret_int (by rw [HX.out]), rfl⟩

theorem idx_more {w : World} {B : Nat} {v : Value} {l : List ByteArray} (H : Sk w B v l) (key : ByteArray) (h : Nat) (hc : w.cell? ⟨h, 0, none⟩ = some (.string key)) :
    Calls Tryz.prog 90 #[v, .func (.func 92) #[] #[.pointer (some ⟨h, 0, none⟩)]] w fun e w' => e = .returned (.int .i64 (Tn.spot (fun k => Tn.less key k) l)) ∧ w' = w := by
  obtain ⟨A, c, rfl, Ta, h1, h2, _, hsz⟩ := H
  have TA := Lib.hid Ta
  have HSZ := Lib.hid hsz
  unfold maxLen at h2
  have HH := Lib.hid (fun i h h1 h2 => Tn.spot_hit (p := fun k => Tn.less key k) (l := l) (i := i) h h1 h2)
  have HE := Lib.hid (fun h => Tn.spot_none (p := fun k => Tn.less key k) (l := l) h)
  obtain ⟨r, hr⟩ : ∃ r, Hid (Tn.spot (fun k => Tn.less key k) l = r) := ⟨_, rfl⟩
  rw [hr.out] at HH HE ⊢
  obtain ⟨n, hn⟩ : ∃ n, Hid (l.length = n) := ⟨_, rfl⟩
  rw [hn.out] at h1 ⊢
  clear Ta hsz
  go_enter Tryz.func90, Tryz.ntmps90
  go_wp2_with fail
  go_loop [8] (fun v => ∃ (i : Nat), i ≤ n ∧ v = .int .i64 i ∧ Hid (∀ j, j < i → ∀ (ha : j < l.length), (fun k => Tn.less key k) l[j] = false)) (fun v => n - (intOf v).toNat)
  case atStart => exact ⟨0, by omega, rfl, Lib.hid (fun j hj => by omega)⟩
  case round =>
    obtain ⟨i, hi, rfl, HI⟩ := hrel
    by_cases hlt : i < n
    · have hia : i < l.length := by rw [hn.out]; exact hlt
      obtain ⟨b1, o1, rfl, _, d0⟩ := TA.out i hia
      have HN : Hid ((fun k => Tn.less key k) l[i] = true → r = i) := Lib.hid (fun h => HH.out i hia h HI.out)
      have HS : Hid ((fun k => Tn.less key k) l[i] = false → ∀ j, j < i + 1 → ∀ (ha : j < l.length), (fun k => Tn.less key k) l[j] = false) := Lib.hid (fun h j hj ha => by
        by_cases e : j = i
        · subst e; exact h
        · exact HI.out j (by omega) ha)
      have HZ := Lib.hid (HSZ.out _ (List.getElem_mem hia))
      obtain ⟨p, hp⟩ : ∃ p : ByteArray, Hid (l[i] = p) := ⟨l[i], Lib.hid rfl⟩
      rw [hp.out] at d0 HN HS HZ
      have C := Lib.hid (clo_more p key h w hc)
      simp only [] at HN HS
      obtain ⟨y, hy⟩ : ∃ y, Hid ((fun k => Tn.less key k) p = y) := ⟨_, rfl⟩
      have hy2 : Tn.less key p = y := hy.out
      rw [hy2] at C HN HS
      clear HI hy2 HZ
      go_wp2_with fail
      refine (C.out).mono ?_
      rintro e w1 ⟨rfl, rfl⟩
      cases y
      · have HS' := Lib.hid (HS.out rfl)
        clear HS HN
        go_wp2_with fail
        go_round
        case rel => exact ⟨i + 1, by omega, by go_num, HS'⟩
        case measure => simp [intOf]; omega
      · have HN' := Lib.hid (HN.out rfl)
        clear HS HN
        go_wp2_with fail
        go_ret
        exact ⟨ret_int (by rw [HN'.out]), rfl⟩
    · have HX := Lib.hid (HE.out (fun j hj => HI.out j (by have := hn.out; omega) hj))
      go_wp2_with fail
      go_ret
      exact ⟨ret_int (by rw [HX.out]), rfl⟩

theorem indexof_any {w : World} {B : Nat} {v : Value} {l : List ByteArray} (H : Sk w B v l) (key : ByteArray) :
    Calls Tryz.prog 71 #[v, .string key] w fun e w' => e = .returned (.int .i64 (Tn.spot (fun k => decide (k = key)) l)) ∧ Below w.heap.size w w' := by
  have hb0 : Below w.heap.size w (w.alloc (.cells #[.string key] 9)) := (Below.refl _ _).alloc (Nat.le_refl _) _
  have hw0 := Whole.made w 9 #[.string key]
  obtain ⟨b, hb⟩ : ∃ b, w.heap.size = b := ⟨_, rfl⟩
  rw [hb] at hw0 hb0
  obtain ⟨w0, hal⟩ : ∃ w0, w.alloc (.cells #[.string key] 9) = w0 := ⟨_, rfl⟩
  rw [hal] at hb0 hw0
  have HB := Lib.hid hb0
  have C := Lib.hid (idx_is (H.all.below (by rw [hb]; exact hb0)) key b (hw0.at_ 0))
  obtain ⟨A, c, rfl, _⟩ := H
  obtain ⟨r, hr⟩ : ∃ r, Hid (Tn.spot (fun k => decide (k = key)) l = r) := ⟨_, rfl⟩
  rw [hr.out] at C ⊢
  clear hb0 hw0
  go_enter Tryz.func71, Tryz.ntmps71
  go_wp2_with fail
  refine (C.out).mono ?_
  rintro e w1 ⟨rfl, rfl⟩
  go_wp2_with fail
  go_ret
  exact ⟨rfl, by first | (rw [hb]; exact HB.out) | exact HB.out⟩
theorem placeof_any {w : World} {B : Nat} {v : Value} {l : List ByteArray} (H : Sk w B v l) (key : ByteArray) :
    Calls Tryz.prog 72 #[v, .string key] w fun e w' => e = .returned (.int .i64 (Tn.gap l key : Int)) ∧ Below w.heap.size w w' := by
  have hb0 : Below w.heap.size w (w.alloc (.cells #[.string key] 9)) := (Below.refl _ _).alloc (Nat.le_refl _) _
  have hw0 := Whole.made w 9 #[.string key]
  obtain ⟨b, hb⟩ : ∃ b, w.heap.size = b := ⟨_, rfl⟩
  rw [hb] at hw0 hb0
  obtain ⟨w0, hal⟩ : ∃ w0, w.alloc (.cells #[.string key] 9) = w0 := ⟨_, rfl⟩
  rw [hal] at hb0 hw0
  have HB := Lib.hid hb0
  have C := Lib.hid (idx_more (H.all.below (by rw [hb]; exact hb0)) key b (hw0.at_ 0))
  obtain ⟨A, c, rfl, _, h1, h2, _⟩ := H
  unfold maxLen at h2
  have HG := Lib.hid (Tn.spot_gap l key)
  have hgl := Tn.gap_le l key
  obtain ⟨r, hr⟩ : ∃ r, Hid (Tn.spot (fun k => Tn.less key k) l = r) := ⟨_, rfl⟩
  obtain ⟨g, hg⟩ : ∃ g, Hid (Tn.gap l key = g) := ⟨_, rfl⟩
  rw [hr.out] at C HG
  rw [hg.out] at HG hgl ⊢
  obtain ⟨n, hn⟩ : ∃ n, Hid (l.length = n) := ⟨_, rfl⟩
  rw [hn.out] at C HG hgl h1 ⊢
  clear hb0 hw0
  by_cases hlt : g < n
  · have hrg : r = (g : Int) := by rw [HG.out, if_pos hlt]
    subst hrg
    go_enter Tryz.func72, Tryz.ntmps72
    go_wp2_with fail
    refine (C.out).mono ?_
    rintro e w1 ⟨rfl, rfl⟩
    go_wp2_with fail
    go_ret
    exact ⟨rfl, by first | (rw [hb]; exact HB.out) | exact HB.out⟩
  · have hrg : r = -1 := by rw [HG.out, if_neg hlt]
    have hgn : g = n := by omega
    subst hrg hgn
    go_enter Tryz.func72, Tryz.ntmps72
    go_wp2_with fail
    refine (C.out).mono ?_
    rintro e w1 ⟨rfl, rfl⟩
    go_wp2_with fail
    go_ret
    exact ⟨rfl, by first | (rw [hb]; exact HB.out) | exact HB.out⟩
end Go.Proofs.YtldjdoebappkoaaGreatDoor
