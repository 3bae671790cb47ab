/- The walk of the law NumGets: it answers true, and nothing that was there has turned. -/
import Derived.Test.YtjjciefkmkffnaaRef7b
import Derived.Test.YtjjciefkmkffnaaAwake7
import Derived.Test.YtjjciefkmkffnaaFrame
namespace Go.Proofs.Ytjjciefkmkffnaa
open Go.RowKit
set_option linter.unusedVariables false

set_option maxRecDepth 100000 in
set_option maxHeartbeats 1600000 in
theorem numGets_walk (s : ByteArray) (w : World) (ws : s.size ≤ 9223372036854775807) :
    Calls Try.prog 4 #[.string s] w fun e w' => e = .returned (.bool true) ∧ Below w.heap.size w w' := by
  have T := Txt.nums s
  have hsz := T.size
  by_cases h60 : 60 < s.size
  · clear T hsz
    go_enter Try.func4, Try.ntmps4
    go_wp2_with fail
    refine (awake7_any _).mono ?_
    rintro e w1 ⟨rfl, hb⟩
    have HB := Lib.hid hb
    clear hb
    go_wp2_with fail
    go_ret
    exact ⟨rfl, HB.out⟩
  obtain ⟨l, Hl⟩ : ∃ l, Hid (nums s = l) := ⟨_, rfl⟩
  rw [Hl.out] at T hsz
  have C1 := Lib.hid (fun W => nget_any T (by omega) W)
  have C2 := Lib.hid (fun W => nrget_any T (by omega) W)
  have C3 := Lib.hid (fun W => nunhex_any T (by omega) W)
  have C4 := Lib.hid (fun W => nrunhex_any T (by omega) W)
  have C5 := Lib.hid (fun W => nunbytes_any T (by omega) W)
  have C6 := Lib.hid (fun W => nrunbytes_any T (by omega) W)
  unfold Unby at C5 C6
  obtain ⟨g, ge, Hg⟩ : ∃ g ge, Hid (Nm.get l = (g, ge)) := ⟨_, _, rfl⟩
  obtain ⟨x, xe, Hx⟩ : ∃ x xe, Hid (Nm.unhex l = (x, xe)) := ⟨_, _, rfl⟩
  obtain ⟨b, be, Hb⟩ : ∃ b be, Hid (Nm.unbytes l = (b, be)) := ⟨_, _, rfl⟩
  rw [Hg.out] at C1 C2
  rw [Hx.out] at C3 C4
  rw [Hb.out] at C5 C6
  dsimp only at C1 C2 C3 C4 C5 C6
  obtain ⟨n, Hn⟩ : ∃ n, Hid (b.length = n) := ⟨_, rfl⟩
  rw [Hn.out] at C5 C6
  clear T
  have HB : Hid (Below w.heap.size w w) := Lib.hid (Below.refl _ _)
  go_enter Try.func4, Try.ntmps4
  go_wp2_with fail
  refine (C1.out _).mono ?_
  rintro e w1 ⟨rfl, hb⟩
  have HB := Lib.hid (HB.out.trans (hb.mono HB.out.size))
  clear hb
  go_wp2_with fail
  refine (C2.out _).mono ?_
  rintro e w2 ⟨rfl, hb⟩
  have HB := Lib.hid (HB.out.trans (hb.mono HB.out.size))
  clear hb
  go_wp2_with fail
  refine (C3.out _).mono ?_
  rintro e w3 ⟨rfl, hb⟩
  have HB := Lib.hid (HB.out.trans (hb.mono HB.out.size))
  clear hb
  go_wp2_with fail
  refine (C4.out _).mono ?_
  rintro e w4 ⟨rfl, hb⟩
  have HB := Lib.hid (HB.out.trans (hb.mono HB.out.size))
  clear hb
  go_wp2_with fail
  refine (C5.out _).mono ?_
  rintro e w5 ⟨A1, c1, rfl, hs1, _, hb⟩
  have HB := Lib.hid (HB.out.trans (hb.mono HB.out.size))
  have HS1 := Lib.hid hs1
  clear hb hs1
  go_wp2_with fail
  refine (C6.out _).mono ?_
  rintro e w6 ⟨A2, c2, rfl, hs2, _, hb⟩
  have HB := Lib.hid (HB.out.trans (hb.mono HB.out.size))
  have hcv1 := conv_sees (dst := 9) Try.underlying23 Try.underlying5 Try.underlying9 n c1 Hn.out (HS1.out.below hb)
  have hcv2 := conv_sees (dst := 9) Try.underlying23 Try.underlying5 Try.underlying9 n c2 Hn.out hs2
  clear hb hs2
  go_wp2_with fail
  refine (awake7_any _).mono ?_
  rintro e w7 ⟨rfl, hb⟩
  have HB := Lib.hid (HB.out.trans (hb.mono HB.out.size))
  clear hb
  go_wp2_with fail
  go_ret
  exact ⟨rfl, HB.out⟩
end Go.Proofs.Ytjjciefkmkffnaa
