/- The walk of the law HashSums: it answers true, and nothing that was there has turned. -/
import Derived.Test.YtjcbkpliljbjpaaAwake5
import Derived.Test.YtjcbkpliljbjpaaRef5
import Derived.Test.YtjcbkpliljbjpaaFrame
namespace Go.Proofs.Ytjcbkpliljbjpaa
open Go.RowKit
set_option linter.unusedVariables false

theorem hashSums_walk (s : ByteArray) (w : World) (ws : s.size ≤ 9223372036854775807) :
    Calls Try.prog 3 #[.string s] w fun e w' => e = .returned (.bool true) ∧ Below w.heap.size w w' := by
  have T := Txt.nums s
  have hsz := T.size
  by_cases h600 : 600 < s.size
  · clear T hsz
    go_enter Try.func3, Try.ntmps3
    go_wp2_with fail
    refine (awake5_any _).mono ?_
    rintro e w1 ⟨rfl, hb⟩
    have HB := Lib.hid hb
    clear hb
    go_wp2_with fail
    go_ret
    exact ⟨rfl, HB.out⟩
  · obtain ⟨l, Hl⟩ : ∃ l, Hid (nums s = l) := ⟨_, rfl⟩
    rw [Hl.out] at T hsz
    have C1 := Lib.hid (fun W => hsum_any T (by omega) W)
    have C2 := Lib.hid (fun W => hsumr_any T (by omega) W)
    have C3 := Lib.hid (fun W => place_any T (by omega) W)
    have C4 := Lib.hid (fun W => placer_any T (by omega) W)
    clear hsz T
    obtain ⟨a, Ha⟩ : ∃ a, Hid (Hm.sum l = a) := ⟨_, rfl⟩
    obtain ⟨b, Hb⟩ : ∃ b, Hid (Hm.place l = b) := ⟨_, rfl⟩
    rw [Ha.out] at C1 C2
    rw [Hb.out] at C3 C4
    go_enter Try.func3, Try.ntmps3
    go_wp2_with fail
    refine (C1.out _).mono ?_
    rintro e w1 ⟨rfl, rfl⟩
    go_wp2_with fail
    refine (C2.out _).mono ?_
    rintro e w1 ⟨rfl, rfl⟩
    go_wp2_with fail
    refine (C3.out _).mono ?_
    rintro e w1 ⟨rfl, rfl⟩
    go_wp2_with fail
    refine (C4.out _).mono ?_
    rintro e w1 ⟨rfl, rfl⟩
    go_wp2_with fail
    refine (awake5_any _).mono ?_
    rintro e w1 ⟨rfl, hb⟩
    have HB := Lib.hid hb
    clear hb
    go_wp2_with fail
    go_ret
    exact ⟨rfl, HB.out⟩
end Go.Proofs.Ytjcbkpliljbjpaa
