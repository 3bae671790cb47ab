/- The walk of the law CrcParts: it answers true, and nothing that was there has turned. -/
import Derived.Test.YtiopnbjmnalaeaaAwake2
import Derived.Test.YtiopnbjmnalaeaaFrame
namespace Go.Proofs.Ytiopnbjmnalaeaa
open Go.RowKit
set_option linter.unusedVariables false

set_option maxRecDepth 100000 in
set_option maxHeartbeats 400000 in
theorem crcParts_walk (a : Option Addr) (len cap : Nat) (l : List Nat) (a' : Option Addr) (len' cap' : Nat) (l' : List Nat) (s : Int) (w : World) (h : Row .u8 w a len cap l) (h' : Row .u8 w a' len' cap' l') (ws : (Lit.int .u32 s).wf = true) :
    Calls Try.prog 4 #[.slice a len cap, .slice a' len' cap', .int .u32 s] w fun e w' => e = .returned (.bool true) ∧ Below w.heap.size w w' := by
  have hb := h.byte
  have hb' := h'.byte
  obtain ⟨hl, hs, _, hle, hm, hnull⟩ := h
  obtain ⟨hl', hs', _, hle', hm', hnull'⟩ := h'
  unfold maxLen at hm hm'
  obtain ⟨h0, h1⟩ := bounds_u32 ws
  clear ws
  obtain ⟨s, rfl⟩ := Int.eq_ofNat_of_zero_le h0
  have hlen : len ≤ 9223372036854775807 := by omega
  have hlen' : len' ≤ 9223372036854775807 := by omega
  have Hl := Lib.hid hl
  have Hs := Lib.hid hs
  have Hl' := Lib.hid hl'
  have Hs' := Lib.hid hs'
  have Hb := Lib.hid hb
  have Hb' := Lib.hid hb'
  have Hnull := Lib.hid hnull
  have Hnull' := Lib.hid hnull'
  clear hl hs hl' hs' hb hb' hnull hnull'
  by_cases hbig : 600 < len ∨ 600 < len'
  · by_cases h600 : 600 < len
    · go_enter Try.func4, Try.ntmps4
      go_wp2_with fail
      refine (awake2_any _).mono ?_
      rintro e w1 ⟨rfl, hb⟩
      have HB := Lib.hid hb
      clear hb
      go_wp2_with fail
      go_ret
      exact ⟨rfl, HB.out⟩
    · have h600' : 600 < len' := by omega
      clear hbig
      go_enter Try.func4, Try.ntmps4
      go_wp2_with fail
      refine (awake2_any _).mono ?_
      rintro e w1 ⟨rfl, hb⟩
      have HB := Lib.hid hb
      clear hb
      go_wp2_with fail
      go_ret
      exact ⟨rfl, HB.out⟩
  · have h600 : ¬ 600 < len := by omega
    have h600' : ¬ 600 < len' := by omega
    clear hbig
    have ho0 : (w.alloc (.cells #[] 5)).ownsRow w.heap.size 5 1 (.slice (some ⟨w.heap.size, 0, none⟩) 0 0) 0 [] := World.ownsRow_lit w #[] 0 (Nat.le_refl _) (by decide) rfl
    have Ho0 := Lib.hid ho0
    have Hb0 := Lib.hid ((Below.refl w.heap.size w).alloc (Nat.le_refl _) (.cells #[] 5))
    clear ho0
    go_enter Try.func4, Try.ntmps4
    go_wp2_with (first
      | (at_builtin
         refine wpList_append_row byteT (.tmp 17) (.tmp 18) rfl rfl w.heap.size _ 0 [] rfl Ho0.out len cap rfl Hl.out Hnull.out (Hs.out.below Hb0.out) (by omega) Hb0.out.size ?_
         intro v1 w1 ho1 hg1
         have Hb1 := Lib.hid (Hb0.out.grown hg1 Hb0.out.size (fun k hk => (Ho0.out.lt k hk).1))
         have Ho1 := Lib.hid ho1
         clear ho1 hg1)
      | (at_builtin
         refine wpList_append_row byteT (.tmp 19) (.tmp 20) rfl rfl w.heap.size _ (0 + len) ([] ++ ints .u8 l) rfl Ho1.out len' cap' rfl Hl'.out Hnull'.out (Hs'.out.below Hb1.out) (by omega) Hb1.out.size ?_
         intro v2 w2 ho2 hg2
         have Hb2 := Lib.hid (Hb1.out.grown hg2 Hb1.out.size (fun k hk => (Ho1.out.lt k hk).1))
         have Ho2 : Hid (w2.ownsRow w.heap.size 5 1 v2 (l ++ l').length (ints .u8 (l ++ l'))) := by
           have ho3 := ho2
           rw [Nat.zero_add, List.nil_append, ← ints_append, ← Hl.out, ← Hl'.out, ← List.length_append] at ho3
           exact Lib.hid ho3
         clear ho2 hg2))
    obtain ⟨A2, c2, rfl⟩ := own_shape Ho2.out
    have Hball : Hid (∀ x ∈ l ++ l', x < 256) := fun x hx => (List.mem_append.1 hx).elim (Hb.out x) (Hb'.out x)
    have hLen : (l ++ l').length ≤ 9223372036854775807 := by rw [List.length_append, Hl.out, Hl'.out]; omega
    have hLb := Cm.sum_lt l Hb.out
    have hLb' := Cm.sum_lt l' Hb'.out
    have C1 := Lib.hid (sum_any _ A2 (l ++ l') _ c2 w2 rfl hLen (Sees.of_own Ho2.out) Hball.out)
    have C2 := Lib.hid (sum_any _ a l len cap w2 Hl.out hlen (Hs.out.below Hb2.out) Hb.out)
    have C3 := Lib.hid (sum_any _ a' l' len' cap' w2 Hl'.out hlen' (Hs'.out.below Hb2.out) Hb'.out)
    have C4 := Lib.hid (join_any (Cm.sum l) (Cm.sum l') (len' : Int) w2 hLb hLb' (by omega) (by omega))
    rw [Int.toNat_natCast] at C4
    have HJ := Lib.hid (Cm.sum_append l l')
    rw [Hl'.out] at HJ
    have HA := Lib.hid (Cm.step_append s l l')
    have hstl := Cm.step_lt s l (by omega) Hb.out
    obtain ⟨N, HN⟩ : ∃ N, Hid ((l ++ l').length = N) := ⟨_, rfl⟩
    obtain ⟨L, HL⟩ : ∃ L, Hid (l ++ l' = L) := ⟨_, rfl⟩
    rw [HN.out] at C1 hLen ⊢
    rw [HL.out] at C1
    refine C1.out.mono ?_
    rintro e w3 ⟨rfl, rfl⟩
    go_wp2_with fail
    refine C2.out.mono ?_
    rintro e w3 ⟨rfl, rfl⟩
    go_wp2_with fail
    refine C3.out.mono ?_
    rintro e w3 ⟨rfl, rfl⟩
    go_wp2_with fail
    refine C4.out.mono ?_
    rintro e w3 ⟨rfl, hb3⟩
    have Hb3 := Lib.hid (Hb2.out.trans (hb3.mono Hb2.out.size))
    have D1 := Lib.hid (step_any _ s A2 (l ++ l') N c2 w3 (by omega) HN.out hLen ((Sees.of_own Ho2.out).below hb3) Hball.out)
    have D2 := Lib.hid (step_any _ s a l len cap w3 (by omega) Hl.out hlen (Hs.out.below Hb3.out) Hb.out)
    have D3 := Lib.hid (step_any _ (Cm.step s l) a' l' len' cap' w3 hstl Hl'.out hlen' (Hs'.out.below Hb3.out) Hb'.out)
    rw [HL.out] at HA HJ D1
    rw [← HJ.out]
    rw [← HA.out] at D3
    clear hb3
    go_wp2_with fail
    refine D1.out.mono ?_
    rintro e w4 ⟨rfl, rfl⟩
    go_wp2_with fail
    refine D2.out.mono ?_
    rintro e w4 ⟨rfl, rfl⟩
    go_wp2_with fail
    refine D3.out.mono ?_
    rintro e w4 ⟨rfl, rfl⟩
    go_wp2_with fail
    refine (awake2_any _).mono ?_
    rintro e w4 ⟨rfl, hb⟩
    have HB := Lib.hid (Hb3.out.trans (hb.mono Hb3.out.size))
    clear hb
    go_wp2_with fail
    go_ret
    exact ⟨rfl, HB.out⟩
end Go.Proofs.Ytiopnbjmnalaeaa
