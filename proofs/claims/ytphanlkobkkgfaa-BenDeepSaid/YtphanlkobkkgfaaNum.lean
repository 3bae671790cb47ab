/- Contracts of num.digitValue, number, Put, Get, Hex, Unhex. -/
import Derived.Test.YtphanlkobkkgfaaNm
import Derived.Test.YtphanlkobkkgfaaPA
namespace Go.Proofs.Ytphanlkobkkgfaa
open Go.RowKit
set_option linter.unusedVariables false

/-- the digits, one by one and cut out -/
theorem digs_at (n : Nat) (h : n < (⟨#[48, 49, 50, 51, 52, 53, 54, 55, 56, 57, 97, 98, 99, 100, 101, 102]⟩ : ByteArray).size) : ((⟨#[48, 49, 50, 51, 52, 53, 54, 55, 56, 57, 97, 98, 99, 100, 101, 102]⟩ : ByteArray)[n]'h).toNat = Nm.dig n := by
  have h' : n < 16 := h
  have : n = 0 ∨ n = 1 ∨ n = 2 ∨ n = 3 ∨ n = 4 ∨ n = 5 ∨ n = 6 ∨ n = 7 ∨ n = 8 ∨ n = 9 ∨ n = 10 ∨ n = 11 ∨ n = 12 ∨ n = 13 ∨ n = 14 ∨ n = 15 := by omega
  rcases this with rfl | rfl | rfl | rfl | rfl | rfl | rfl | rfl | rfl | rfl | rfl | rfl | rfl | rfl | rfl | rfl <;> rfl
theorem digs_cut (n : Nat) (h : n < 16) : (⟨#[48, 49, 50, 51, 52, 53, 54, 55, 56, 57, 97, 98, 99, 100, 101, 102]⟩ : ByteArray).extract n (n + 1) = strOf [Nm.dig n] := by
  have : n = 0 ∨ n = 1 ∨ n = 2 ∨ n = 3 ∨ n = 4 ∨ n = 5 ∨ n = 6 ∨ n = 7 ∨ n = 8 ∨ n = 9 ∨ n = 10 ∨ n = 11 ∨ n = 12 ∨ n = 13 ∨ n = 14 ∨ n = 15 := by omega
  rcases this with rfl | rfl | rfl | rfl | rfl | rfl | rfl | rfl | rfl | rfl | rfl | rfl | rfl | rfl | rfl | rfl <;> decide +kernel

/-- an array in block g of n cells, the last of which hold acc -/
def Back (w : World) (g t n : Nat) (acc : List Nat) : Prop := ∃ c, Whole w g t c ∧ c.size = n ∧ acc.length ≤ n ∧ ∀ i, i < acc.length → c[n - acc.length + i]? = some (.int .u8 ((acc.getD i 0 : Nat) : Int))
section
variable {w w' : World} {g t n : Nat} {acc : List Nat}
theorem Back.start {c : Array Value} (h : Whole w g t c) (hc : c.size = n) : Back w g t n [] := ⟨c, h, hc, by simp, fun _ h => by simp at h⟩
theorem Back.lt (h : Back w g t n acc) : g < w.heap.size := by obtain ⟨c, h1, _⟩ := h; exact h1.lt
theorem Back.cell (h : Back w g t n acc) (i : Nat) (hi : i < n) : (∃ u, w.cell? ⟨g, i, none⟩ = some u) ∧ w.frozen? ⟨g, i, none⟩ = false := by
  obtain ⟨c, h1, h2, _⟩ := h
  exact ⟨⟨c[i], by rw [h1.at_]; exact Array.getElem?_eq_getElem (by omega)⟩, h1.free i⟩
theorem Back.next (h : Back w g t n acc) {i x : Nat} {y : Int} (hi : i + acc.length + 1 = n) (hy : y = (x : Int)) : Back (w.setCell ⟨g, i, none⟩ (.int .u8 y)) g t n (x :: acc) := by
  obtain ⟨c, h1, h2, h3, h4⟩ := h
  subst hy
  refine ⟨_, h1.put i _, by simpa using h2, by simp; omega, fun j hj => ?_⟩
  rw [List.length_cons] at hj ⊢
  rw [Array.getElem?_setIfInBounds]
  cases j with
  | zero =>
    rw [if_pos (by omega), if_pos (by omega)]
    rfl
  | succ j =>
    rw [if_neg (by omega), show n - (acc.length + 1) + (j + 1) = n - acc.length + j by omega, h4 j (by omega)]
    rfl
theorem Back.sees (h : Back w g t n acc) {i : Nat} (hi : i + acc.length = n) : Sees .u8 w (g + 1) (some ⟨g, i, none⟩) acc := by
  obtain ⟨c, h1, h2, h3, h4⟩ := h
  intro _
  refine ⟨g, i, rfl, by omega, fun j hj => ?_⟩
  rw [h1.at_, ← h4 j hj]
  congr 1
  omega
end

theorem cut20 (g f : Nat) (hf : f < 20) (W : World) : (Instr.sliceAt 84 (.pointer (some ⟨g, 0, none⟩)) (some (.int .i64 (f : Int))) none none).run Try.prog W = .ok (.slice (some ⟨g, f, none⟩) (20 - f) (20 - f)) W := by
  have hl : Try.prog.arrayLen 84 = 20 := by kernel_rfl
  have he : Try.prog.elem 84 = 5 := by kernel_rfl
  rw [run_sliceAt_array_l W 84 _ (by kernel_rfl) .i64 f (by omega) (by rw [hl]; omega), hl, he]
  have hs : (sizeOf 5).run Try.prog W = .ok 1 W := by
    go_simp
  rw [hs]
  simp [slicedAt, Addr.add, show ¬ 20 = f by omega]
  exact fun h => h.symm
set_option maxRecDepth 100000 in
theorem nd_any (c : Nat) (hc : c < 256) (w : World) :
    Calls Try.prog 65 #[.int .u8 (c : Int)] w fun e w' => e = .returned (.int .u64 (Nm.dv c : Int)) ∧ w' = w := by
  by_cases h : 97 ≤ c
  · have e : Nm.dv c = c - 97 + 10 := if_pos h
    have hd : ((c - 97 + 10 : Nat) : Int) = (c : Int) - 97 + 10 := by omega
    rw [e, hd]
    clear e hd
    go_enter Try.func65, Try.ntmps65
    go_wp2_with fail
    go_ret
    exact ⟨rfl, rfl⟩
  · have e : Nm.dv c = (c + 208) % 256 := if_neg h
    have hd : ((c : Int) - 48) % 256 = (((c + 208) % 256 : Nat) : Int) := by omega
    rw [e]
    clear e
    obtain ⟨d, Hd⟩ : ∃ d, Hid ((c + 208) % 256 = d) := ⟨_, rfl⟩
    rw [Hd.out] at hd ⊢
    have hd' : d < 256 := by have := Hd.out; omega
    go_enter Try.func65, Try.ntmps65
    go_wp2_with fail
    go_ret
    exact ⟨rfl, rfl⟩

set_option maxRecDepth 100000 in
set_option maxHeartbeats 400000 in
theorem number_any {s : ByteArray} {l : List Nat} (T : Txt s l) (b : Nat) (hb : b < 100) (hl : l.length ≤ 10000000000) (w : World) :
    Calls Try.prog 61 #[.string s, .int .u64 (b : Int)] w fun e w' => e = .returned (.int .u64 (Nm.num b l : Int)) ∧ w' = w := by
  have hsz := T.size
  go_enter Try.func61, Try.ntmps61
  go_wp2_with fail
  go_loop [5, 9] (fun r i => ∃ (j a : Nat), j ≤ l.length ∧ i = .int .i64 j ∧ r = .int .u64 a ∧ a < 18446744073709551616 ∧ Hid (a = Nm.num b (l.take j))) (fun _ i => l.length - (intOf i).toNat)
  case atStart => exact ⟨0, 0, by omega, rfl, rfl, by omega, Lib.hid rfl⟩
  case round =>
    obtain ⟨j, a, hj, rfl, rfl, ha, He⟩ := hrel
    by_cases hlt : j < l.length
    · obtain ⟨c, Hc⟩ : ∃ c, Hid (l.getD j 0 = c) := ⟨_, rfl⟩
      have hat : ∀ (h : j < s.size), (s[j]'h).toNat = c := fun h => by rw [← Hc.out]; exact T.at_ j h
      have hc := getD_lt T.byte j
      rw [Hc.out] at hc
      have Hn := Lib.hid (Nm.num_next b hlt)
      rw [Hc.out, ← He.out] at Hn
      obtain ⟨p, Hp⟩ : ∃ p, Hid (a * b % 18446744073709551616 = p) := ⟨_, rfl⟩
      have hp : IntKind.u64.wrap ((a : Int) * (b : Int)) = (p : Int) := by
        rw [IntKind.wrap_u64, ← Int.natCast_mul, ← Hp.out]; rfl
      have hpl : p < 18446744073709551616 := by rw [← Hp.out]; exact Nat.mod_lt _ (by omega)
      obtain ⟨d, Hd⟩ : ∃ d, Hid (Nm.dv c = d) := ⟨_, rfl⟩
      have hdl := Nm.dv_lt hc
      rw [Hd.out] at hdl Hn
      have C := Lib.hid (fun W => nd_any c hc W)
      rw [Hd.out] at C
      obtain ⟨q, Hq⟩ : ∃ q, Hid ((p + d) % 18446744073709551616 = q) := ⟨_, rfl⟩
      have hq : IntKind.u64.wrap ((p : Int) + (d : Int)) = (q : Int) := by
        rw [IntKind.wrap_u64, ← Hq.out]; omega
      have hql : q < 18446744073709551616 := by have := Hq.out; omega
      have Hnext : Hid (q = Nm.num b (l.take (j + 1))) := Lib.hid (by rw [Hn.out, ← Hq.out, ← Hp.out]; omega)
      go_wp2_with fail
      refine (C.out _).mono ?_
      rintro e w1 ⟨rfl, rfl⟩
      go_wp2_with fail
      go_round
      case rel => exact ⟨j + 1, q, by omega, by go_num, rfl, hql, Hnext⟩
      case measure => simp [intOf]; omega
    · go_wp2_with fail
      go_ret
      have hj' : j = l.length := by omega
      exact ⟨ret_int (by rw [He.out, hj', List.take_length]), rfl⟩

set_option maxRecDepth 100000 in
set_option maxHeartbeats 800000 in
theorem nput_any (n : Int) (h1 : -9223372036854775808 ≤ n) (h2 : n ≤ 9223372036854775807) (w : World) :
    Calls Try.prog 44 #[.int .i64 n] w fun e w' => e = .returned (.string (strOf (Nm.put n))) ∧ Below w.heap.size w w' := by
  obtain ⟨N, HN⟩ : ∃ N, Hid (n.natAbs = N) := ⟨_, rfl⟩
  obtain ⟨m, Hm⟩ : ∃ m : Nat, Hid (n % 18446744073709551616 = (m : Int)) := ⟨(n % 18446744073709551616).toNat, by show _ = _; omega⟩
  have hm : IntKind.u64.wrap n = (m : Int) := by rw [IntKind.wrap_u64]; exact Hm.out
  have hml : m < 18446744073709551616 := by have := Hm.out; omega
  have Hlen : Hid ((Nm.dec N).length ≤ 19) := Lib.hid (Nm.dec_length 18 N (by
    have : (10 : Nat) ^ (18 + 1) = 10000000000000000000 := by decide
    have := HN.out
    omega))
  have hNl : N < 18446744073709551616 := by have := HN.out; omega
  have hstart : ∀ W : World, Back (W.alloc (.cells (Array.replicate 20 (.int .u8 0)) 84)) W.heap.size 84 20 [] := fun W => Back.start (Whole.made _ _ _) (by simp)
  have Hstart := Lib.hid hstart
  clear hstart
  have hfew : ∀ (f r : Nat) (acc : List Nat), Hid (Nm.dec N = Nm.dec r ++ acc) → f + acc.length = 19 → (¬ r < 10 → 2 ≤ f) ∧ 1 ≤ f := fun f r acc h1 h2 => by
    have e := congrArg List.length h1.out
    rw [List.length_append] at e
    have hl := Hlen.out
    have h3 := List.length_pos_iff.2 (Nm.dec_ne r)
    exact ⟨fun hr => by have := Nm.dec_two hr; omega, by omega⟩
  have Hfew := Lib.hid hfew
  clear hfew
  have hdig := digs_at
  by_cases hn : n < 0
  · have hneg : IntKind.u64.wrap (-(m : Int)) = (N : Int) := by rw [IntKind.wrap_u64]; have := Hm.out; have := HN.out; omega
    have Hput : Hid (Nm.put n = 45 :: Nm.dec N) := Lib.hid (by rw [Nm.put_neg hn, HN.out])
    go_enter Try.func44, Try.ntmps44
    go_wp2_with fail
    go_loopw [3, 5] (fun v u wr => ∃ (r f : Nat) (acc : List Nat), v = .int .u64 r ∧ u = .int .i64 f ∧ r < 18446744073709551616 ∧ f + acc.length = 19 ∧ Hid (Nm.dec N = Nm.dec r ++ acc) ∧ Hid (Back wr w.heap.size 84 20 acc) ∧ Hid (Below w.heap.size w wr)) (fun v _ _ => (intOf v).toNat)
    case atStart => exact ⟨N, 19, [], rfl, rfl, hNl, rfl, Lib.hid (by rw [List.append_nil]), Lib.hid (Hstart.out w), Lib.hid ((Below.refl _ _).alloc (Nat.le_refl _) _)⟩
    case round =>
      obtain ⟨r, f, acc, rfl, rfl, hr, hf, HD, HB, HW⟩ := hrel
      obtain ⟨hf2, hf1⟩ := Hfew.out f r acc HD hf
      obtain ⟨⟨u, hcu⟩, hfu⟩ := HB.out.cell f (by omega)
      by_cases hr10 : r < 10
      · have HB' := Lib.hid (HB.out.next (i := f) (x := Nm.dig r) (by omega) rfl)
        have HD' : Hid (Nm.dec N = Nm.dig r :: acc) := Lib.hid (by
          rw [HD.out, Nm.dec_low hr10, Nm.dig_low (by omega)]; rfl)
        have hr16 : r < 16 := by omega
        have HW' := Lib.hid (HW.out.setCell (p := ⟨w.heap.size, f, none⟩) (Nat.le_refl _) (.int .u8 (Nm.dig r : Int)))
        obtain ⟨f', rfl⟩ : ∃ f', f = f' + 1 := ⟨f - 1, by omega⟩
        obtain ⟨⟨u2, hcu2⟩, hfu2⟩ := HB'.out.cell f' (by omega)
        have HB2 := Lib.hid (HB'.out.next (i := f') (x := 45) (y := 45) (by simp; omega) rfl)
        have HW2 := Lib.hid (HW'.out.setCell (p := ⟨w.heap.size, f', none⟩) (Nat.le_refl _) (.int .u8 45))
        have hcut := cut20 w.heap.size f' (by omega)
        have hcv := conv_sees (dst := 9) Try.underlying28 Try.underlying5 Try.underlying9 (20 - f') (20 - f') (by simp; omega) (HB2.out.sees (i := f') (by simp; omega))
        go_wp2_with fail
        go_ret
        exact ⟨by rw [Hput.out, HD'.out]; rfl, HW2.out⟩
      · replace hf2 := hf2 hr10
        obtain ⟨q, Hq⟩ : ∃ q, Hid (r % 10 = q) := ⟨_, rfl⟩
        have hq : (r : Int) % 10 = (q : Int) := by have := Hq.out; omega
        have hq' : (r : Int).tmod 10 = (q : Int) := by rw [Int.tmod_eq_emod_of_nonneg (by omega)]; exact hq
        have hql : q < 16 := by have := Hq.out; omega
        obtain ⟨p, Hp⟩ : ∃ p, Hid (r / 10 = p) := ⟨_, rfl⟩
        have hp : (r : Int) / 10 = (p : Int) := by have := Hp.out; omega
        have hpl : p < r := by have := Hp.out; omega
        obtain ⟨f', rfl⟩ : ∃ f', f = f' + 1 := ⟨f - 1, by omega⟩
        have HD' : Hid (Nm.dec N = Nm.dec p ++ (Nm.dig q :: acc)) := Lib.hid (by
          rw [HD.out, Nm.dec_high hr10, Hp.out, Hq.out, Nm.dig_low (by have := Hq.out; omega), List.append_assoc]; rfl)
        have HB' := Lib.hid (HB.out.next (i := f' + 1) (x := Nm.dig q) (by omega) rfl)
        have HW' := Lib.hid (HW.out.setCell (p := ⟨w.heap.size, f' + 1, none⟩) (Nat.le_refl _) (.int .u8 (Nm.dig q : Int)))
        go_wp2_with fail
        go_roundw
        case rel => exact ⟨p, f', Nm.dig q :: acc, rfl, by go_num, by omega, by simp; omega, HD', HB', HW'⟩
        case measure => simp [intOf]; omega
  · have hmN : m = N := by have := Hm.out; have := HN.out; omega
    subst hmN
    have Hput : Hid (Nm.put n = Nm.dec m) := Lib.hid (by rw [Nm.put_pos hn, HN.out])
    go_enter Try.func44, Try.ntmps44
    go_wp2_with fail
    go_loopw [3, 5] (fun v u wr => ∃ (r f : Nat) (acc : List Nat), v = .int .u64 r ∧ u = .int .i64 f ∧ r < 18446744073709551616 ∧ f + acc.length = 19 ∧ Hid (Nm.dec m = Nm.dec r ++ acc) ∧ Hid (Back wr w.heap.size 84 20 acc) ∧ Hid (Below w.heap.size w wr)) (fun v _ _ => (intOf v).toNat)
    case atStart => exact ⟨m, 19, [], rfl, rfl, hNl, rfl, Lib.hid (by rw [List.append_nil]), Lib.hid (Hstart.out w), Lib.hid ((Below.refl _ _).alloc (Nat.le_refl _) _)⟩
    case round =>
      obtain ⟨r, f, acc, rfl, rfl, hr, hf, HD, HB, HW⟩ := hrel
      obtain ⟨hf2, hf1⟩ := Hfew.out f r acc HD hf
      obtain ⟨⟨u, hcu⟩, hfu⟩ := HB.out.cell f (by omega)
      by_cases hr10 : r < 10
      · have HB' := Lib.hid (HB.out.next (i := f) (x := Nm.dig r) (by omega) rfl)
        have HD' : Hid (Nm.dec m = Nm.dig r :: acc) := Lib.hid (by
          rw [HD.out, Nm.dec_low hr10, Nm.dig_low (by omega)]; rfl)
        have hr16 : r < 16 := by omega
        have HW' := Lib.hid (HW.out.setCell (p := ⟨w.heap.size, f, none⟩) (Nat.le_refl _) (.int .u8 (Nm.dig r : Int)))
        have hcut := cut20 w.heap.size f (by omega)
        have hcv := conv_sees (dst := 9) Try.underlying28 Try.underlying5 Try.underlying9 (20 - f) (20 - f) (by simp; omega) (HB'.out.sees (i := f) (by simp; omega))
        go_wp2_with fail
        go_ret
        exact ⟨by rw [Hput.out, HD'.out]; rfl, HW'.out⟩
      · replace hf2 := hf2 hr10
        obtain ⟨q, Hq⟩ : ∃ q, Hid (r % 10 = q) := ⟨_, rfl⟩
        have hq : (r : Int) % 10 = (q : Int) := by have := Hq.out; omega
        have hq' : (r : Int).tmod 10 = (q : Int) := by rw [Int.tmod_eq_emod_of_nonneg (by omega)]; exact hq
        have hql : q < 16 := by have := Hq.out; omega
        obtain ⟨p, Hp⟩ : ∃ p, Hid (r / 10 = p) := ⟨_, rfl⟩
        have hp : (r : Int) / 10 = (p : Int) := by have := Hp.out; omega
        have hpl : p < r := by have := Hp.out; omega
        obtain ⟨f', rfl⟩ : ∃ f', f = f' + 1 := ⟨f - 1, by omega⟩
        have HD' : Hid (Nm.dec m = Nm.dec p ++ (Nm.dig q :: acc)) := Lib.hid (by
          rw [HD.out, Nm.dec_high hr10, Hp.out, Hq.out, Nm.dig_low (by have := Hq.out; omega), List.append_assoc]; rfl)
        have HB' := Lib.hid (HB.out.next (i := f' + 1) (x := Nm.dig q) (by omega) rfl)
        have HW' := Lib.hid (HW.out.setCell (p := ⟨w.heap.size, f' + 1, none⟩) (Nat.le_refl _) (.int .u8 (Nm.dig q : Int)))
        go_wp2_with fail
        go_roundw
        case rel => exact ⟨p, f', Nm.dig q :: acc, rfl, by go_num, by omega, by simp; omega, HD', HB', HW'⟩
        case measure => simp [intOf]; omega

theorem shift_digit (u j m : Nat) (hm : 4 * j = m) : (u : Int) / 2 ^ m % 16 = ((u / 16 ^ j % 16 : Nat) : Int) := by
  subst hm
  rw [show (16 : Nat) ^ j = 2 ^ (4 * j) by rw [Nat.pow_mul], Int.natCast_emod, Int.natCast_ediv, Int.natCast_pow]
  rfl

end Go.Proofs.Ytphanlkobkkgfaa
