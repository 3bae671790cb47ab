/- Contracts of the reference of layer 8: names, Name, Kind, Answers, Asks. -/
import Derived.Test.YtdnnlifcgoegkaaDoorKinds
namespace Go.Proofs.YtdnnlifcgoegkaaDoor
open Go.RowKit
set_option linter.unusedVariables false
open Gm

/-- the row of names -/
def nameV : Array Value := (List.range 13).map (fun i => Value.string (ent i).name) |>.toArray
theorem nameV_eq : nameV = #[.string ⟨#[63]⟩, .string ⟨#[102, 105, 110, 100]⟩, .string ⟨#[104, 111, 112]⟩, .string ⟨#[97, 115, 107]⟩, .string ⟨#[116, 101, 108, 108]⟩, .string ⟨#[110, 111, 116, 101]⟩, .string ⟨#[111, 107, 97, 121]⟩, .string ⟨#[112, 117, 116]⟩, .string ⟨#[103, 101, 116]⟩, .string ⟨#[103, 111, 116]⟩, .string ⟨#[109, 111, 118, 101]⟩, .string ⟨#[112, 105, 110, 103]⟩, .string ⟨#[110, 97, 121]⟩] := rfl

theorem names_any (w : World) :
    Calls Tryd.prog 50 #[] w fun e w' => ∃ g, e = .returned (.slice (some ⟨g, 0, none⟩) 13 13) ∧ (∀ i, i < 13 → w'.cell? ⟨g, i, none⟩ = some (.string (ent i).name)) ∧ Below w.heap.size w w' := by
  go_enter Tryd.func50, Tryd.ntmps50
  go_wp2_with fail
  go_ret
  refine ⟨_, rfl, fun i hi => ?_, (Below.refl _ _).alloc (Nat.le_refl _) _⟩
  rw [← nameV_eq, (Whole.made w _ nameV).at_ i]
  simp [nameV, hi]

set_option maxRecDepth 100000 in
theorem rname_any (k : Int) (hk : -9223372036854775808 ≤ k ∧ k ≤ 9223372036854775807) (w : World) :
    Calls Tryd.prog 19 #[.int .i64 k] w fun e w' => e = .returned (.string (at_ k).name) ∧ Below w.heap.size w w' := by
  cases hkn : known k
  · rw [at_none hkn]
    have h : k < 1 ∨ 12 < k := by unfold known at hkn; simp at hkn; omega
    go_enter Tryd.func19, Tryd.ntmps19
    rcases h with h | h
    · go_wp2_with fail
      go_ret
      exact ⟨rfl, Below.refl _ _⟩
    · have h' : ¬ k < 1 := by omega
      go_wp2_with fail
      go_ret
      exact ⟨rfl, Below.refl _ _⟩
  · obtain ⟨i, rfl⟩ : ∃ i : Nat, k = (i : Int) := ⟨k.toNat, by unfold known at hkn; simp at hkn; omega⟩
    have hi : 0 < i ∧ i < 13 := by unfold known at hkn; simp at hkn; omega
    rw [at_nat hi.2]
    go_enter Tryd.func19, Tryd.ntmps19
    go_wp2_with fail
    refine (names_any w).mono ?_
    rintro e w1 ⟨g, rfl, hc, hb1⟩
    have hci := hc i hi.2
    have HB := Lib.hid hb1
    clear hb1 hc
    go_wp2_with fail
    go_ret
    exact ⟨rfl, HB.out⟩

set_option maxRecDepth 100000 in
theorem rkind_any (s : ByteArray) (w : World) :
    Calls Tryd.prog 21 #[.string s] w fun e w' => e = .returned (.int .i64 (kindOf s : Int)) ∧ Below w.heap.size w w' := by
  have HK : Hid (kindOf s = kindFrom s 12 1) := rfl
  obtain ⟨K, hK⟩ : ∃ K, Hid (kindOf s = K) := ⟨_, rfl⟩
  rw [hK.out] at HK ⊢
  go_enter Tryd.func21, Tryd.ntmps21
  go_wp2_with fail
  go_loopw [3] (fun v wr => ∃ (i : Nat), 1 ≤ i ∧ i ≤ 13 ∧ v = .int .i64 i ∧ Hid (Below w.heap.size w wr) ∧ Hid (K = kindFrom s (13 - i) i)) (fun v _ => 13 - (intOf v).toNat)
  case atStart => exact ⟨1, by omega, by omega, rfl, Lib.hid (Below.refl _ _), HK⟩
  case round =>
    obtain ⟨i, hi0, hi, rfl, HB, HI⟩ := hrel
    by_cases hlt : i < 13
    · have C := Lib.hid (names_any wr)
      have hst := str_eq (ent i).name s
      obtain ⟨n, hn⟩ : ∃ n, Hid (13 - i = n + 1) := ⟨12 - i, by show 13 - i = 12 - i + 1; omega⟩
      rw [hn.out] at HI
      have HI2 : Hid (K = if (ent i).name = s then i else kindFrom s n (i + 1)) := HI
      clear HI
      cases hd : decide ((ent i).name = s)
      · rw [hd] at hst
        rw [decide_eq_false_iff_not] at hd
        rw [if_neg hd] at HI2
        go_wp2_with fail
        refine C.out.mono ?_
        rintro e w1 ⟨g, rfl, hc, hb1⟩
        have hci := hc i hlt
        have HB3 := Lib.hid (HB.out.trans (hb1.mono HB.out.size))
        clear hb1 hc
        obtain ⟨E, hE⟩ : ∃ E, Hid (ent i = E) := ⟨_, rfl⟩
        rw [hE.out] at hst hci hd
        go_wp2_with fail
        go_roundw
        case rel => exact ⟨i + 1, by omega, by omega, by go_num, HB3, by rw [show 13 - (i + 1) = n by have := hn.out; omega]; exact HI2⟩
        case measure => simp [intOf]; omega
      · rw [hd] at hst
        rw [decide_eq_true_iff] at hd
        rw [if_pos hd] at HI2
        go_wp2_with fail
        refine C.out.mono ?_
        rintro e w1 ⟨g, rfl, hc, hb1⟩
        have hci := hc i hlt
        have HB3 := Lib.hid (HB.out.trans (hb1.mono HB.out.size))
        clear hb1 hc
        obtain ⟨E, hE⟩ : ∃ E, Hid (ent i = E) := ⟨_, rfl⟩
        rw [hE.out] at hst hci hd
        clear hd
        go_wp2_with fail
        go_ret
        exact ⟨ret_int (by rw [HI2.out]), HB3.out⟩
    · have h13 : i = 13 := by omega
      subst h13
      have HI2 : Hid (K = 0) := HI
      go_wp2_with fail
      go_ret
      exact ⟨ret_int (by rw [HI2.out]; rfl), HB.out⟩

set_option maxRecDepth 100000 in
theorem ranswers_any (k : Int) (hk : -9223372036854775808 ≤ k ∧ k ≤ 9223372036854775807) (r : Int) (hr : -9223372036854775808 ≤ r ∧ r ≤ 9223372036854775807) (w : World) :
    Calls Tryd.prog 25 #[.int .i64 k, .int .i64 r] w fun e w' => e = .returned (.bool (Gm.answers k r)) ∧ w' = w := by
  go_enter Tryd.func25, Tryd.ntmps25
  go_wp2_with fail
  all_goals
    go_ret
    refine ⟨ret_bool ?_, rfl⟩
    unfold Gm.answers
    rw [Bool.eq_iff_iff]
    simp_all

/-- is it answered by any kind from i on? -/
def asksFrom (k : Int) : Nat → Nat → Bool
  | 0, _ => false
  | n + 1, i => Gm.answers k (i : Int) || asksFrom k n (i + 1)
theorem asks_from (k : Int) : asks k = asksFrom k 12 1 := by
  rcases kinds k with rfl | rfl | rfl | rfl | rfl | rfl | rfl | rfl | rfl | rfl | rfl | rfl | ⟨h1, h⟩
  iterate 12 decide +kernel
  have a1 : ¬ k = 1 := by omega
  have a2 : ¬ k = 3 := by omega
  have a3 : ¬ k = 5 := by omega
  have a4 : ¬ k = 10 := by omega
  have a5 : ¬ k = 11 := by omega
  have a6 : ¬ k = 7 := by omega
  have a7 : ¬ k = 8 := by omega
  have e : ∀ r, Gm.answers k r = false := fun r => by unfold Gm.answers; simp [a1, a2, a3, a4, a5, a6, a7]
  simp only [asksFrom, e]
  unfold asks
  simp [a1, a2, a3, a4, a5, a6, a7]
set_option maxRecDepth 100000 in
theorem rasks_any (k : Int) (hk : -9223372036854775808 ≤ k ∧ k ≤ 9223372036854775807) (w : World) :
    Calls Tryd.prog 23 #[.int .i64 k] w fun e w' => e = .returned (.bool (asks k)) ∧ w' = w := by
  have HK := Lib.hid (asks_from k)
  obtain ⟨K, hK⟩ : ∃ K, Hid (asks k = K) := ⟨_, rfl⟩
  rw [hK.out] at HK ⊢
  go_enter Tryd.func23, Tryd.ntmps23
  go_wp2_with fail
  go_loopw [3] (fun v wr => ∃ (i : Nat), 1 ≤ i ∧ i ≤ 13 ∧ v = .int .i64 i ∧ wr = w ∧ Hid (K = asksFrom k (13 - i) i)) (fun v _ => 13 - (intOf v).toNat)
  case atStart => exact ⟨1, by omega, by omega, rfl, rfl, HK⟩
  case round =>
    obtain ⟨i, hi0, hi, rfl, rfl, HI⟩ := hrel
    by_cases hlt : i < 13
    · have C := Lib.hid (ranswers_any k hk i (by omega) wr)
      obtain ⟨n, hn⟩ : ∃ n, Hid (13 - i = n + 1) := ⟨12 - i, by show 13 - i = 12 - i + 1; omega⟩
      rw [hn.out] at HI
      have HI2 : Hid (K = (Gm.answers k (i : Int) || asksFrom k n (i + 1))) := HI
      clear HI
      cases hd : Gm.answers k (i : Int)
      · rw [hd] at C HI2
        go_wp2_with fail
        refine C.out.mono ?_
        rintro e w1 ⟨rfl, rfl⟩
        go_wp2_with fail
        go_roundw
        case rel => exact ⟨i + 1, by omega, by omega, by go_num, trivial, by rw [show 13 - (i + 1) = n by have := hn.out; omega]; exact HI2⟩
        case measure => simp [intOf]; omega
      · rw [hd] at C HI2
        go_wp2_with fail
        refine C.out.mono ?_
        rintro e w1 ⟨rfl, rfl⟩
        go_wp2_with fail
        go_ret
        exact ⟨ret_bool (by rw [HI2.out]; rfl), rfl⟩
    · have h13 : i = 13 := by omega
      subst h13
      have HI2 : Hid (K = false) := HI
      go_wp2_with fail
      go_ret
      exact ⟨ret_bool (by rw [HI2.out]), rfl⟩
end Go.Proofs.YtdnnlifcgoegkaaDoor
