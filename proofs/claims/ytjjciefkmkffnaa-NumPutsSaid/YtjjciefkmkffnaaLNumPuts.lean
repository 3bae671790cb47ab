/- The walk of the law NumPuts: it answers true, and nothing that was there has turned. -/
import Derived.Test.YtjjciefkmkffnaaRef7b
import Derived.Test.YtjjciefkmkffnaaAwake7
import Derived.Test.YtjjciefkmkffnaaFrame
namespace Go.Proofs.Ytjjciefkmkffnaa
open Go.RowKit
set_option linter.unusedVariables false

set_option maxRecDepth 100000 in
set_option maxHeartbeats 800000 in
theorem numPuts_walk (n u : Int) (a : Option Addr) (len cap : Nat) (l : List Nat) (w : World) (wn : (Lit.int .i64 n).wf = true) (wu : (Lit.int .u64 u).wf = true) (h : Row .u8 w a len cap l) :
    Calls Try.prog 3 #[.int .i64 n, .int .u64 u, .slice a len cap] w fun e w' => e = .returned (.bool true) ∧ Below w.heap.size w w' := by
  have hbyte := h.byte
  obtain ⟨hl, hs, _, hle, hm, hnull⟩ := h
  unfold maxLen at hm
  obtain ⟨n1, n2⟩ := bounds_i64 wn
  obtain ⟨u1, u2⟩ := bounds_u64 wu
  clear wn wu
  have hlen : len ≤ 9223372036854775807 := by omega
  by_cases h300 : 300 < len
  · go_enter Try.func3, Try.ntmps3
    go_wp2_with fail
    refine (awake7_any _).mono ?_
    rintro e w1 ⟨rfl, hb⟩
    have HB := Lib.hid hb
    clear hb
    go_wp2_with fail
    go_ret
    exact ⟨rfl, HB.out⟩
  · obtain ⟨v, rfl⟩ : ∃ v : Nat, u = (v : Int) := ⟨u.toNat, by omega⟩
    have hv : v < 18446744073709551616 := by omega
    have C1 := Lib.hid (fun W => nput_any n n1 n2 W)
    have C2 := Lib.hid (fun W => rput_any' n n1 n2 W)
    have C3 := Lib.hid (fun W => nhex_any v hv W)
    have C4 := Lib.hid (fun W => nrhex_any v hv W)
    have C5 := Lib.hid (fun W (h : Below w.heap.size w W) => nbytes_any w.heap.size a l len cap W hl (by omega) hnull h.size (hs.below h) hbyte)
    have C6 := Lib.hid (fun W (h : Below w.heap.size w W) => nrbytes_any w.heap.size a l len cap W hl (by omega) h.size (hs.below h) hbyte)
    obtain ⟨P, HP⟩ : ∃ P, Hid (strOf (Nm.put n) = P) := ⟨_, rfl⟩
    obtain ⟨H, HH⟩ : ∃ H, Hid (strOf (Nm.hex v) = H) := ⟨_, rfl⟩
    obtain ⟨B, HBy⟩ : ∃ B, Hid (strOf (Nm.bytes l) = B) := ⟨_, rfl⟩
    rw [HP.out] at C1 C2
    rw [HH.out] at C3 C4
    rw [HBy.out] at C5 C6
    clear hl hs hnull hbyte
    have HB : Hid (Below w.heap.size w w) := Lib.hid (Below.refl _ _)
    go_enter Try.func3, Try.ntmps3
    go_wp2_with fail
    refine (C1.out _).mono ?_
    rintro e w1 ⟨rfl, hb⟩
    have HB := Lib.hid (HB.out.trans (hb.mono HB.out.size))
    clear hb
    go_wp2_with fail
    refine (C2.out _).mono ?_
    rintro e w2 ⟨rfl, hb⟩
    have HB := Lib.hid (HB.out.trans (hb.mono HB.out.size))
    clear hb
    go_wp2_with fail
    refine (C3.out _).mono ?_
    rintro e w3 ⟨rfl, hb⟩
    have HB := Lib.hid (HB.out.trans (hb.mono HB.out.size))
    clear hb
    go_wp2_with fail
    refine (C4.out _).mono ?_
    rintro e w4 ⟨rfl, hb⟩
    have HB := Lib.hid (HB.out.trans (hb.mono HB.out.size))
    clear hb
    go_wp2_with fail
    refine (C5.out _ HB.out).mono ?_
    rintro e w5 ⟨rfl, hb⟩
    have HB := Lib.hid (HB.out.trans (hb.mono HB.out.size))
    clear hb
    go_wp2_with fail
    refine (C6.out _ HB.out).mono ?_
    rintro e w6 ⟨rfl, hb⟩
    have HB := Lib.hid (HB.out.trans (hb.mono HB.out.size))
    clear hb
    go_wp2_with fail
    refine (awake7_any _).mono ?_
    rintro e w7 ⟨rfl, hb⟩
    have HB := Lib.hid (HB.out.trans (hb.mono HB.out.size))
    clear hb
    go_wp2_with fail
    go_ret
    exact ⟨rfl, HB.out⟩
end Go.Proofs.Ytjjciefkmkffnaa
