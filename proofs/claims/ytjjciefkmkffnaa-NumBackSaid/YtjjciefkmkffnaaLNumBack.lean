/- The walk of the law NumBack: it answers true, and nothing that was there has turned. -/
import Derived.Test.YtjjciefkmkffnaaAwake7
import Derived.Test.YtjjciefkmkffnaaFrame
namespace Go.Proofs.Ytjjciefkmkffnaa
open Go.RowKit
set_option linter.unusedVariables false

set_option maxRecDepth 100000 in
set_option maxHeartbeats 3200000 in
theorem numBack_walk (n u : Int) (a : Option Addr) (len cap : Nat) (l : List Nat) (s : ByteArray) (w : World) (wn : (Lit.int .i64 n).wf = true) (wu : (Lit.int .u64 u).wf = true) (h : Row .u8 w a len cap l) (ws : s.size ≤ 9223372036854775807) :
    Calls Try.prog 5 #[.int .i64 n, .int .u64 u, .slice a len cap, .string s] w fun e w' => e = .returned (.bool true) ∧ Below w.heap.size w w' := by
  have hbyte := h.byte
  obtain ⟨hl, hs, _, hle, hm, hnull⟩ := h
  unfold maxLen at hm
  obtain ⟨n1, n2⟩ := bounds_i64 wn
  obtain ⟨u1, u2⟩ := bounds_u64 wu
  clear wn wu
  have hlen : len ≤ 9223372036854775807 := by omega
  by_cases h300 : 300 < len
  · go_enter Try.func5, Try.ntmps5
    go_wp2_with fail
    refine (awake7_any _).mono ?_
    rintro e w1 ⟨rfl, hb⟩
    have HB := Lib.hid hb
    clear hb
    go_wp2_with fail
    go_ret
    exact ⟨rfl, HB.out⟩
  by_cases h301 : 300 < s.size
  · go_enter Try.func5, Try.ntmps5
    go_wp2_with fail
    refine (awake7_any _).mono ?_
    rintro e w1 ⟨rfl, hb⟩
    have HB := Lib.hid hb
    clear hb
    go_wp2_with fail
    go_ret
    exact ⟨rfl, HB.out⟩
  obtain ⟨v, rfl⟩ : ∃ v : Nat, u = (v : Int) := ⟨u.toNat, by omega⟩
  have hv : v < 18446744073709551616 := by omega
  -- what was put comes back
  have C1 := Lib.hid (fun W => nput_any n n1 n2 W)
  have C2 := Lib.hid (fun W => nget_any (Txt.of (Nm.put_byte n)) (by have := Nm.put_length n1 n2; omega) W)
  have C3 := Lib.hid (fun W => nhex_any v hv W)
  have C4 := Lib.hid (fun W => nunhex_any (Txt.of (Nm.hex_byte v)) (by rw [Nm.hex_length]; omega) W)
  have C5 := Lib.hid (fun W (h : Below w.heap.size w W) => nbytes_any w.heap.size a l len cap W hl (by omega) hnull h.size (hs.below h) hbyte)
  have C6 := Lib.hid (fun W => nunbytes_any (Txt.of (Nm.bytes_byte hbyte)) (by have := Nm.bytes_length l; omega) W)
  unfold Unby at C6
  rw [Nm.get_put ⟨n1, n2⟩] at C2
  rw [Nm.unhex_hex hv] at C4
  rw [Nm.unbytes_bytes hbyte] at C6
  dsimp only at C2 C4 C6
  rw [hl] at C6
  obtain ⟨P, HP⟩ : ∃ P, Hid (strOf (Nm.put n) = P) := ⟨_, rfl⟩
  obtain ⟨H, HH⟩ : ∃ H, Hid (strOf (Nm.hex v) = H) := ⟨_, rfl⟩
  obtain ⟨B, HBy⟩ : ∃ B, Hid (strOf (Nm.bytes l) = B) := ⟨_, rfl⟩
  rw [HP.out] at C1 C2
  rw [HH.out] at C3 C4
  rw [HBy.out] at C5 C6
  -- what was got is put as it was
  have T := Txt.nums s
  have hsz := T.size
  obtain ⟨m, Hm⟩ : ∃ m, Hid (nums s = m) := ⟨_, rfl⟩
  rw [Hm.out] at T hsz
  have D1 := Lib.hid (fun W => nget_any T (by omega) W)
  have D2 := Lib.hid (fun W => nunhex_any T (by omega) W)
  have D3 := Lib.hid (fun W => nunbytes_any T (by omega) W)
  unfold Unby at D3
  have k1 := Nm.get_cases m
  have k2 := Nm.unhex_cases m
  have k3 := Nm.unbytes_cases m
  have k4 := Nm.unbytes_length m
  obtain ⟨g, ge, Hg⟩ : ∃ g ge, Hid (Nm.get m = (g, ge)) := ⟨_, _, rfl⟩
  obtain ⟨x, xe, Hx⟩ : ∃ x xe, Hid (Nm.unhex m = (x, xe)) := ⟨_, _, rfl⟩
  obtain ⟨b, be, Hb⟩ : ∃ b be, Hid (Nm.unbytes m = (b, be)) := ⟨_, _, rfl⟩
  rw [Hg.out] at D1 k1
  rw [Hx.out] at D2 k2
  rw [Hb.out] at D3 k3 k4
  dsimp only at D1 D2 D3 k1 k2 k3 k4
  have hgin : Nm.In g := by
    rcases k1 with ⟨_, h, _⟩ | ⟨_, h⟩ | ⟨_, h⟩
    · exact h
    · rw [h]; exact ⟨by omega, by omega⟩
    · rw [h]; exact ⟨by omega, by omega⟩
  have hxl : x < 18446744073709551616 := by rcases k2 with ⟨_, h, _⟩ | ⟨_, h⟩ <;> omega
  have hbb : ∀ y ∈ b, y < 256 := by
    rcases k3 with ⟨_, h, _⟩ | ⟨_, h⟩
    · exact h
    · rw [h]; simp
  have E1 := Lib.hid (fun W => nput_any g hgin.1 hgin.2 W)
  have E2 := Lib.hid (fun W => nhex_any x hxl W)
  have E3 := Lib.hid (fun (B : Nat) (A : Option Addr) (c : Nat) (W : World) (h0 : A = none → c = 0) (h1 : B ≤ W.heap.size) (h2 : Sees .u8 W B A b) => nbytes_any B A b b.length c W rfl (by omega) h0 h1 h2 hbb)
  have q1 : ge = 0 → ((strOf (Nm.put g)).toList == s.toList) = true := fun h => by
    rw [(Txt.of (Nm.put_byte g)).eql T, decide_eq_true_iff]
    rcases k1 with ⟨_, _, e⟩ | ⟨h', _⟩ | ⟨h', _⟩
    · exact e
    · omega
    · omega
  have q2 : xe = 0 → ((strOf (Nm.hex x)).toList == s.toList) = true := fun h => by
    rw [(Txt.of (Nm.hex_byte x)).eql T, decide_eq_true_iff]
    rcases k2 with ⟨_, _, e⟩ | ⟨h', _⟩
    · exact e
    · omega
  have q3 : be = 0 → ((strOf (Nm.bytes b)).toList == s.toList) = true := fun h => by
    rw [(Txt.of (Nm.bytes_byte hbb)).eql T, decide_eq_true_iff]
    rcases k3 with ⟨_, _, e⟩ | ⟨h', _⟩
    · exact e
    · omega
  have z1 : ge = 0 ∨ 0 < ge := Nat.eq_zero_or_pos ge
  have z2 : xe = 0 ∨ 0 < xe := Nat.eq_zero_or_pos xe
  have z3 : be = 0 ∨ 0 < be := Nat.eq_zero_or_pos be
  obtain ⟨P2, HP2⟩ : ∃ P, Hid (strOf (Nm.put g) = P) := ⟨_, rfl⟩
  obtain ⟨H2, HH2⟩ : ∃ H, Hid (strOf (Nm.hex x) = H) := ⟨_, rfl⟩
  obtain ⟨B2, HBy2⟩ : ∃ B, Hid (strOf (Nm.bytes b) = B) := ⟨_, rfl⟩
  rw [HP2.out] at E1 q1
  rw [HH2.out] at E2 q2
  rw [HBy2.out] at E3 q3
  obtain ⟨k, Hk⟩ : ∃ k, Hid (b.length = k) := ⟨_, rfl⟩
  rw [Hk.out] at D3 E3 k4
  have Q1 := Lib.hid q1
  have Q2 := Lib.hid q2
  have Q3 := Lib.hid q3
  have Z1 := Lib.hid z1
  have Z2 := Lib.hid z2
  have Z3 := Lib.hid z3
  have Hl := Lib.hid hl
  have Hs := Lib.hid hs
  have hg1 := hgin.1
  have hg2 := hgin.2
  clear q1 q2 q3 z1 z2 z3 k1 k2 k3 T hbyte hnull hl hs hbb hgin
  have HB : Hid (Below w.heap.size w w) := Lib.hid (Below.refl _ _)
  go_enter Try.func5, Try.ntmps5
  go_wp2_with fail
  refine (C1.out _).mono ?_
  rintro e w1 ⟨rfl, hb⟩
  have HB := Lib.hid (HB.out.trans (hb.mono HB.out.size))
  clear hb
  go_wp2_with fail
  refine (C2.out _).mono ?_
  rintro e w2 ⟨rfl, hb⟩
  have HB := Lib.hid (HB.out.trans (hb.mono HB.out.size))
  clear hb
  go_wp2_with fail
  refine (C3.out _).mono ?_
  rintro e w3 ⟨rfl, hb⟩
  have HB := Lib.hid (HB.out.trans (hb.mono HB.out.size))
  clear hb
  go_wp2_with fail
  refine (C4.out _).mono ?_
  rintro e w4 ⟨rfl, hb⟩
  have HB := Lib.hid (HB.out.trans (hb.mono HB.out.size))
  clear hb
  go_wp2_with fail
  refine (C5.out _ HB.out).mono ?_
  rintro e w5 ⟨rfl, hb⟩
  have HB := Lib.hid (HB.out.trans (hb.mono HB.out.size))
  clear hb
  go_wp2_with fail
  refine (C6.out _).mono ?_
  rintro e w6 ⟨A1, c1, rfl, hs1, _, hb⟩
  have HB := Lib.hid (HB.out.trans (hb.mono HB.out.size))
  have hcv1 := conv_sees (dst := 9) Try.underlying23 Try.underlying5 Try.underlying9 len c1 Hl.out hs1
  have hcv2 := conv_sees (dst := 9) Try.underlying23 Try.underlying5 Try.underlying9 len cap Hl.out (Hs.out.below HB.out)
  clear hb hs1
  go_wp2_with fail
  clear hcv1 hcv2
  refine (D1.out _).mono ?_
  rintro e w7 ⟨rfl, hb⟩
  have HB := Lib.hid (HB.out.trans (hb.mono HB.out.size))
  clear hb
  go_wp2_with fail
  refine (D2.out _).mono ?_
  rintro e w8 ⟨rfl, hb⟩
  have HB := Lib.hid (HB.out.trans (hb.mono HB.out.size))
  clear hb
  go_wp2_with fail
  refine (D3.out _).mono ?_
  rintro e w9 ⟨A2, c2, rfl, hs2, hn2, hb⟩
  have HB := Lib.hid (HB.out.trans (hb.mono HB.out.size))
  have H9 : Hid (Below w9.heap.size w9 w9) := Lib.hid (Below.refl _ _)
  have F3 := Lib.hid (fun W (h : Below w9.heap.size w9 W) => E3.out w9.heap.size A2 c2 W hn2 h.size (hs2.below h))
  clear hb hs2 hn2 E3
  have y1 := Z1.out
  have y2 := Z2.out
  have y3 := Z3.out
  rcases y1 with rfl | y1 <;> rcases y2 with rfl | y2 <;> rcases y3 with rfl | y3
  all_goals
    try have q1 := Q1.out rfl
    try have q2 := Q2.out rfl
    try have q3 := Q3.out rfl
    try have t1 : ¬ ge = 0 := by omega
    try have t2 : ¬ xe = 0 := by omega
    try have t3 : ¬ be = 0 := by omega
    clear Q1 Q2 Q3 Z1 Z2 Z3
    go_wp2_with (first
      | (go_at_call 7; refine (E1.out _).mono ?_; rintro e wA ⟨rfl, hb⟩; have H9 := Lib.hid (H9.out.trans (hb.mono H9.out.size)); clear hb)
      | (go_at_call 9; refine (E2.out _).mono ?_; rintro e wA ⟨rfl, hb⟩; have H9 := Lib.hid (H9.out.trans (hb.mono H9.out.size)); clear hb)
      | (go_at_call 11; refine (F3.out _ H9.out).mono ?_; rintro e wA ⟨rfl, hb⟩; have H9 := Lib.hid (H9.out.trans (hb.mono H9.out.size)); clear hb)
      | (go_at_call 6; refine (awake7_any _).mono ?_; rintro e wA ⟨rfl, hb⟩; have H9 := Lib.hid (H9.out.trans (hb.mono H9.out.size)); clear hb))
    go_ret
    exact ⟨rfl, HB.out.trans (H9.out.mono HB.out.size)⟩
end Go.Proofs.Ytjjciefkmkffnaa
