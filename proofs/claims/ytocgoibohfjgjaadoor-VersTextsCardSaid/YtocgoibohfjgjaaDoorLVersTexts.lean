/- The walk of the law VersTexts. -/
import Derived.Test.YtocgoibohfjgjaaDoorAwake24
namespace Go.Proofs.YtocgoibohfjgjaaDoor
open Go.RowKit
set_option linter.unusedVariables false
set_option maxRecDepth 100000
set_option linter.unusedSimpArgs false

set_option maxHeartbeats 2000000 in
theorem versTexts_walk (a0 : Int) (s : ByteArray) (w : World) (w0 : (Lit.int .u16 a0).wf = true) (ws : s.size ≤ maxLen) :
    Calls Tryd.prog 5 #[.int .u16 a0, .string s] w fun e w' => e = .returned (.bool true) ∧ Below w.heap.size w w' := by
  obtain ⟨p0, q0⟩ := bounds_u16 w0
  obtain ⟨a, rfl⟩ := Int.eq_ofNat_of_zero_le p0
  have ha : a < 65536 := by omega
  have T := Txt.nums s
  obtain ⟨S, hS⟩ : ∃ S, Hid (nums s = S) := ⟨_, Lib.hid rfl⟩
  rw [hS.out] at T
  have hsz := T.size
  unfold maxLen at ws
  clear w0 p0 q0
  by_cases hbig : 100 < s.size
  · have hb2 : 100 < (s.size : Int) := by omega
    clear hsz
    go_enter Tryd.func5, Tryd.ntmps5
    go_wp2_with fail
    refine (awake24 _).mono ?_
    rintro e w6 ⟨rfl, hb⟩
    have H6 := Lib.hid hb
    clear hb
    go_wp2_with fail
    go_ret
    exact ⟨rfl, H6.out⟩
  · have hb2 : ¬ 100 < (s.size : Int) := by omega
    have C1 := Lib.hid (fun W => cread24_any (w := W) T (by omega))
    have R1 := Lib.hid (fun W => rread24_any (w := W) T (by omega))
    have CT := Lib.hid (fun W => ctext24_any (w := W) ha)
    have RT := Lib.hid (fun W => rtext24_any (w := W) ha)
    have C2 := Lib.hid (fun W => cread24_any (w := W) (Txt.of (Vs.text_byte a)) (by have := Vs.text_len a; omega))
    rw [Vs.read_text ha] at C2
    have hself : ((strOf (Vs.text a)).toList == (strOf (Vs.text a)).toList) = true := by simp
    obtain ⟨u, hu⟩ : ∃ u, Hid (strOf (Vs.text a) = u) := ⟨_, Lib.hid rfl⟩
    rw [hu.out] at CT RT C2 hself
    obtain ⟨R, hR⟩ : ∃ R, Hid (Vs.read S = R) := ⟨_, Lib.hid rfl⟩
    rw [hR.out] at C1 R1
    obtain ⟨r, x⟩ := R
    simp only at C1 R1 C2
    have e1 : ((r : Int) == (r : Int)) = true := by simp
    have e2 : ((x : Int) == (x : Int)) = true := by simp
    have e3 : ((a : Int) == (a : Int)) = true := by simp
    clear T hsz hbig
    go_enter Tryd.func5, Tryd.ntmps5
    go_wp2_with fail
    refine (C1.out _).mono ?_
    rintro e w1 ⟨rfl, hb⟩
    have H1 := Lib.hid hb
    clear hb
    go_wp2_with fail
    refine (R1.out _).mono ?_
    rintro e w2 ⟨rfl, hb⟩
    have H2 := Lib.hid (H1.out.trans (hb.mono H1.out.size))
    clear hb
    go_wp2_with fail
    refine (CT.out _).mono ?_
    rintro e w3 ⟨rfl, hb⟩
    have H3 := Lib.hid (H2.out.trans (hb.mono H2.out.size))
    clear hb
    go_wp2_with fail
    refine (C2.out _).mono ?_
    rintro e w4 ⟨rfl, hb⟩
    have H4 := Lib.hid (H3.out.trans (hb.mono H3.out.size))
    clear hb
    go_wp2_with fail
    refine (CT.out _).mono ?_
    rintro e w5 ⟨rfl, hb⟩
    have H5 := Lib.hid (H4.out.trans (hb.mono H4.out.size))
    clear hb
    go_wp2_with fail
    refine (RT.out _).mono ?_
    rintro e w6 ⟨rfl, hb⟩
    have H6 := Lib.hid (H5.out.trans (hb.mono H5.out.size))
    clear hb
    go_wp2_with fail
    refine (awake24 _).mono ?_
    rintro e w7 ⟨rfl, hb⟩
    have H7 := Lib.hid (H6.out.trans (hb.mono H6.out.size))
    clear hb
    go_wp2_with fail
    go_ret
    exact ⟨rfl, H7.out⟩
end Go.Proofs.YtocgoibohfjgjaaDoor
