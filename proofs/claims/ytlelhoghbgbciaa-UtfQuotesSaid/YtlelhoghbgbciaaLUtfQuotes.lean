/- The walk of the law UtfQuotes: it answers true, and nothing that was there has turned. -/
import Derived.Test.YtlelhoghbgbciaaAwake4
import Derived.Test.YtlelhoghbgbciaaUnq4
import Derived.Test.YtlelhoghbgbciaaFrame
namespace Go.Proofs.Ytlelhoghbgbciaa
open Go.RowKit
set_option linter.unusedVariables false

set_option maxRecDepth 100000 in
set_option maxHeartbeats 1600000 in
theorem utfQuotes_walk (s r : ByteArray) (w : World) (ws : s.size ≤ 9223372036854775807) (wr0 : r.size ≤ 9223372036854775807) :
    Calls Try.prog 5 #[.string s, .string r] w fun e w' => e = .returned (.bool true) ∧ Below w.heap.size w w' := by
  have T := Txt.nums s
  have hsz := T.size
  have U := Txt.nums r
  have husz := U.size
  by_cases h300 : 300 < s.size
  · clear T hsz U husz
    go_enter Try.func5, Try.ntmps5
    go_wp2_with fail
    refine (awake4_any _).mono ?_
    rintro e w1 ⟨rfl, hb⟩
    have HB := Lib.hid hb
    clear hb
    go_wp2_with fail
    go_ret
    exact ⟨rfl, HB.out⟩
  by_cases h301 : 300 < r.size
  · clear T hsz U husz
    go_enter Try.func5, Try.ntmps5
    go_wp2_with fail
    refine (awake4_any _).mono ?_
    rintro e w1 ⟨rfl, hb⟩
    have HB := Lib.hid hb
    clear hb
    go_wp2_with fail
    go_ret
    exact ⟨rfl, HB.out⟩
  obtain ⟨l, Hl⟩ : ∃ l, Hid (nums s = l) := ⟨_, rfl⟩
  rw [Hl.out] at T hsz
  obtain ⟨m, Hm⟩ : ∃ m, Hid (nums r = m) := ⟨_, rfl⟩
  rw [Hm.out] at U husz
  have C1 := Lib.hid (fun W => unquote_any U (by omega) W)
  have C2 := Lib.hid (fun W => unquoter_any U (by omega) W)
  have C3 := Lib.hid (fun W => quote_any T (by omega) W)
  have C4 := Lib.hid (fun W => quoter_any T (by omega) W)
  obtain ⟨p, er, Hpe⟩ : ∃ p er, Hid (Tm.unquote m = (p, er)) := ⟨_, _, rfl⟩
  rw [Hpe.out] at C1 C2
  dsimp only at C1 C2
  clear hsz T husz U
  go_enter Try.func5, Try.ntmps5
  go_wp2_with fail
  refine (C1.out _).mono ?_
  rintro e w1 ⟨rfl, hb⟩
  have HB1 := Lib.hid hb
  clear hb
  go_wp2_with fail
  refine (C2.out _).mono ?_
  rintro e w2 ⟨rfl, hb⟩
  have HB2 := Lib.hid (HB1.out.trans (hb.mono HB1.out.size))
  clear hb HB1
  go_wp2_with fail
  refine (C3.out _).mono ?_
  rintro e w3 ⟨rfl, hb⟩
  have HB3 := Lib.hid (HB2.out.trans (hb.mono HB2.out.size))
  clear hb HB2
  go_wp2_with fail
  refine (C4.out _).mono ?_
  rintro e w4 ⟨rfl, hb⟩
  have HB4 := Lib.hid (HB3.out.trans (hb.mono HB3.out.size))
  clear hb HB3
  go_wp2_with fail
  refine (awake4_any _).mono ?_
  rintro e w5 ⟨rfl, hb⟩
  have HB5 := Lib.hid (HB4.out.trans (hb.mono HB4.out.size))
  clear hb HB4
  go_wp2_with fail
  go_ret
  exact ⟨rfl, HB5.out⟩
end Go.Proofs.Ytlelhoghbgbciaa
