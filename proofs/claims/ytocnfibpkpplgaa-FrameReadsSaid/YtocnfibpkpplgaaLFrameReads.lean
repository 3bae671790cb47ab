/- The walk of the law FrameReads. -/
import Derived.Test.YtocnfibpkpplgaaAwake15
namespace Go.Proofs.Ytocnfibpkpplgaa
open Go.RowKit
set_option linter.unusedVariables false
set_option maxRecDepth 100000
set_option linter.unusedSimpArgs false

theorem Fr.all_byte (most : Int) : ∀ (f : Nat) (l : List Nat) (k : Nat) (acc : List (List Nat)), (∀ x ∈ l, x < 256) → (∀ b ∈ acc, ∀ x ∈ b, x < 256) → ∀ b ∈ (Fr.all f l most k acc).1, ∀ x ∈ b, x < 256
  | 0, l, k, acc, _, ha => by rw [Fr.all]; exact ha
  | f + 1, l, k, acc, hb, ha => by
    by_cases h : l.length = 0
    · rw [Fr.all_end _ _ _ _ h]; exact ha
    · rw [Fr.all, if_neg h]
      by_cases he : (Fr.next l most).2.2 = 0
      · rw [if_pos he]
        refine Fr.all_byte most f _ _ _ (fun x hx => hb x (List.mem_of_mem_drop hx)) (fun b hb2 => ?_)
        rcases List.mem_append.1 hb2 with h1 | h1
        · exact ha b h1
        · obtain rfl : b = _ := by simpa using h1
          exact Fr.next_byte hb
      · rw [if_neg he]; exact ha
set_option maxHeartbeats 2000000 in
theorem frameReads_walk (a : Option Addr) (len cap : Nat) (l : List Nat) (most : Int) (w : World) (R : Row .u8 w a len cap l) (wm : (Lit.int .i64 most).wf = true) :
    Calls Try.prog 4 #[.slice a len cap, .int .i64 most] w fun e w' => e = .returned (.bool true) ∧ Below w.heap.size w w' := by
  obtain ⟨hP, hlen, hby⟩ := row_piece R
  have hcap := R.le
  have hmx := R.max
  unfold maxLen at hmx
  obtain ⟨m0, m1⟩ := bounds_i64 wm
  clear R wm
  by_cases h600 : 600 < len
  · clear hP
    go_enter Try.func4, Try.ntmps4
    go_wp2_with fail
    refine (awake15 _).mono ?_
    rintro e w1 ⟨rfl, hb⟩
    have HB := Lib.hid hb
    clear hb
    go_wp2_with fail
    go_ret
    exact ⟨rfl, HB.out⟩
  · have HP := Lib.hid (fun W (h : Below w.heap.size w W) => (hP.kept h : Piece W W.heap.size (.slice a len cap) l))
    have C1 := Lib.hid (fun W (h : Below w.heap.size w W) => cnext15_any (HP.out W h) (Nat.le_refl _) hby (by omega) most m0 m1)
    have C2 := Lib.hid (fun W (h : Below w.heap.size w W) => rnext15_any (HP.out W h) (Nat.le_refl _) hby (by omega) most m0 m1)
    have C3 := Lib.hid (fun W (h : Below w.heap.size w W) => call15_any (HP.out W h) (Nat.le_refl _) hby (by omega) most m0 m1)
    have C4 := Lib.hid (fun W (h : Below w.heap.size w W) => rall15_any (HP.out W h) (Nat.le_refl _) hby (by omega) most m0 m1)
    have HAB := Lib.hid (Fr.all_byte most l.length l 0 [] hby (fun b hb => by cases hb))
    have HNB := Lib.hid (Fr.next_byte (most := most) hby)
    obtain ⟨b, s, x, hN⟩ : ∃ b s x, Hid (Fr.next l most = (b, s, x)) := ⟨_, _, _, Lib.hid rfl⟩
    obtain ⟨ls, p, y, hA⟩ : ∃ ls p y, Hid (Fr.all l.length l most 0 [] = (ls, p, y)) := ⟨_, _, _, Lib.hid rfl⟩
    rw [hN.out] at C1 C2 HNB
    rw [hA.out] at C3 C4 HAB
    clear hP hby hlen m0 m1 hN hA
    go_enter Try.func4, Try.ntmps4
    go_wp2_with fail
    refine (C1.out w (Below.refl _ _)).mono ?_
    rintro e w1 ⟨u1, rfl, ho1, hb1⟩
    have HB1 := Lib.hid hb1
    have O1 := Lib.hid (fun W (h : Below w1.heap.size w1 W) => (own_piece ho1).kept h)
    obtain ⟨A1, c1, rfl, _⟩ := own_look ho1
    clear hb1 ho1
    go_wp2_with fail
    refine (C2.out w1 HB1.out).mono ?_
    rintro e w2 ⟨u2, rfl, ho2, hb2⟩
    have HB12 := Lib.hid hb2
    have HB2 := Lib.hid (HB1.out.trans (hb2.mono HB1.out.size))
    have O2 := Lib.hid (fun W (h : Below w2.heap.size w2 W) => (own_piece ho2).kept h)
    obtain ⟨A2, c2, rfl, _⟩ := own_look ho2
    clear hb2 ho2
    go_wp2_with fail
    refine (C3.out w2 HB2.out).mono ?_
    rintro e w3 ⟨u3, rfl, ho3, hb3⟩
    have HB23 := Lib.hid hb3
    have HB3 := Lib.hid (HB2.out.trans (hb3.mono HB2.out.size))
    have O3 := Lib.hid (fun W (h : Below w3.heap.size w3 W) => ho3.bl.kept h)
    obtain ⟨A3, c3, rfl, _⟩ := ho3.bl.shape
    clear hb3 ho3
    go_wp2_with fail
    refine (C4.out w3 HB3.out).mono ?_
    rintro e w4 ⟨u4, rfl, ho4, hb4⟩
    have HB34 := Lib.hid hb4
    have HB4 := Lib.hid (HB3.out.trans (hb4.mono HB3.out.size))
    have O4 := Lib.hid (fun W (h : Below w4.heap.size w4 W) => ho4.bl.kept h)
    obtain ⟨A4, c4, rfl, _⟩ := ho4.bl.shape
    clear hb4 ho4
    have hz4 := HB34.out.size
    have hz3 := HB23.out.size
    have hb24 := HB23.out.trans (HB34.out.mono HB23.out.size)
    have hb14 := HB12.out.trans (hb24.mono HB12.out.size)
    have hcv1 := (O1.out w4 hb14).conv
    have hcv2 := (O2.out w4 hb24).conv
    have SM := Lib.hid (rsame15_any (O3.out w4 HB34.out) (O4.out w4 (Below.refl _ _)) (Nat.le_refl _) (Nat.le_refl _) HAB.out HAB.out)
    rw [show (decide (ls = ls)) = true from by simp] at SM
    clear hz3 hz4 hb24 hb14
    go_wp2_with fail
    refine (SM.out).mono ?_
    rintro e w5 ⟨rfl, hb5⟩
    have HB5 := Lib.hid (HB4.out.trans (hb5.mono HB4.out.size))
    clear hb5 hcv1 hcv2
    go_wp2_with fail
    refine (awake15 _).mono ?_
    rintro e w6 ⟨rfl, hb6⟩
    have HB6 := Lib.hid (HB5.out.trans (hb6.mono HB5.out.size))
    clear hb6
    go_wp2_with fail
    go_ret
    exact ⟨rfl, HB6.out⟩
end Go.Proofs.Ytocnfibpkpplgaa
