/- Contracts of buf.Fix, buf.Text and of the reference's Fix, Text. -/
import Derived.Test.YtbhdgfpaoghnbaaPC
import Derived.Test.YtbhdgfpaoghnbaaRef1
import Derived.Test.YtbhdgfpaoghnbaaPA
import Derived.Lib.ConvBytes
namespace Go.Proofs.Ytbhdgfpaoghnbaa
open Go.RowKit
set_option linter.unusedVariables false

/-- what a loop has done that writes ps behind xs, when the first j of them stand there -/
structure Wrote (base : Nat) (xs ps : List Nat) (w : World) (j : Nat) (v : Value) (wr : World) : Prop where
  own : wr.ownsRow base 5 1 v (xs.length + j) (ints .u8 (xs ++ ps.take j))
  below : Below base w wr
  size : base ≤ wr.heap.size
section
variable {base : Nat} {xs ps : List Nat} {j : Nat} {v v' : Value} {w wr w1 : World} {o : Obj} {x : Int}
theorem Wrote.start (ho : w.ownsRow base 5 1 v xs.length (ints .u8 xs)) (hb : base ≤ w.heap.size) : Wrote base xs ps w 0 v w :=
  ⟨by simpa using ho, Below.refl _ _, hb⟩
theorem Wrote.next (h : Wrote base xs ps w j v wr) (hj : j < ps.length) (hx : x = ((ps.getD j 0 : Nat) : Int))
    (ho : w1.ownsRow base 5 1 v' (xs.length + j + 1) (ints .u8 (xs ++ ps.take j) ++ [.int .u8 x])) (hg : (wr.alloc o).grownBy w1 v.ownBlock) : Wrote base xs ps w (j + 1) v' w1 := by
  obtain ⟨h1, h2, h3⟩ := h
  subst hx
  refine ⟨?_, (h2.alloc h3 o).grown hg (by simp; omega) (fun k hk => (h1.lt k hk).1), ?_⟩
  · rw [take_next hj, ← List.append_assoc, ints_append]
    exact ho
  · have := hg.size; simp at this; omega
end

theorem shift_byte {n m d q : Nat} (hm : 8 * d = m) (hd : q = d) : (n : Int) / 2 ^ m % 256 = ((n / 256 ^ q % 256 : Nat) : Int) := by
  subst hd hm
  rw [show (256 : Nat) ^ q = 2 ^ (8 * q) by rw [Nat.pow_mul], Int.natCast_emod, Int.natCast_ediv, Int.natCast_pow]
  rfl

/-- '[]byte(s)' of a string -/
theorem conv_str {w : World} {s : ByteArray} {l : List Nat} (T : Txt s l) (n : Nat) (hn : l.length = n) :
    ∃ c w', (convert 9 34 (.string s)).run Try.prog w = .ok (.slice (some ⟨w.heap.size, 0, none⟩) n c) w' ∧ Sees .u8 w' (w.heap.size + 1) (some ⟨w.heap.size, 0, none⟩) l ∧ Below w.heap.size w w' := by
  refine ⟨_, _, by rw [Lib.run_convert_string_bytes w _ _ 5 s Try.underlying9 Try.underlying34 Try.underlying5, T.size, hn], ?_, ?_⟩
  · intro hl
    refine ⟨_, 0, rfl, by omega, fun i hi => ?_⟩
    rw [Nat.zero_add, Lib.bytesWorld_cell w _ s i (by rw [T.size]; exact hi)]
    have h := T.at_ i (by rw [T.size]; exact hi)
    rw [← h]
    have hi' : i < s.data.toList.length := by
      have e : s.data.toList.length = s.size := Array.length_toList
      rw [e, T.size]
      exact hi
    simp [List.getD, List.getElem?_eq_getElem hi']
    rfl
  · exact ⟨by unfold Lib.bytesWorld World.freeze; split <;> rfl, by unfold Lib.bytesWorld World.freeze; split <;> rfl, by unfold Lib.bytesWorld World.freeze; split <;> rfl, by rw [Lib.bytesWorld_size]; omega, fun i hi => Lib.bytesWorld_at_old w _ s i hi⟩

/-- what the reference's loop has done: it writes from the last byte on, ahead of what stands there -/
structure WroteR (base n : Nat) (w : World) (j m : Nat) (v : Value) (wr : World) : Prop where
  num : m = n / 256 ^ j
  own : wr.ownsRow base 5 1 v j (ints .u8 (Bm.fix j n))
  below : Below base w wr
  size : base ≤ wr.heap.size
section
variable {base n j m : Nat} {v v' : Value} {w wr w1 : World} {x : Int}
theorem WroteR.start (n : Nat) (w : World) : WroteR w.heap.size n w 0 n (.slice none 0 0) w := ⟨by simp, World.ownsRow_nil w _ 5 1, Below.refl _ _, Nat.le_refl _⟩
theorem WroteR.one (h : WroteR base n w j m v wr) (x : Int) : (wr.alloc (.cells #[.int .u8 x] 5)).ownsRow base 5 1 (.slice (some ⟨wr.heap.size, 0, none⟩) 1 1) 1 [.int .u8 x] :=
  ⟨rfl, .inr ⟨wr.heap.size, 1, _, rfl, h.size, heap_alloc_new _ _, Nat.le_refl _, by unfold maxLen; omega, rfl, rfl⟩⟩
theorem WroteR.next (h : WroteR base n w j m v wr) {x : Int} (hx : x = (m : Int) % 256)
    (ho : w1.ownsRow base 5 1 v' (1 + j) ([.int .u8 x] ++ ints .u8 (Bm.fix j n))) (hb : Below base wr w1) : WroteR base n w (j + 1) (m / 256) v' w1 := by
  obtain ⟨h1, h2, h3, h4⟩ := h
  refine ⟨by rw [h1, Nat.pow_succ, Nat.div_div_eq_div_mul], ?_, h3.trans (hb.mono (Nat.le_refl _)), Nat.le_trans h4 hb.size⟩
  rw [Bm.fix_front, ← h1, Nat.add_comm j 1]
  subst hx
  rw [show (m : Int) % 256 = ((m % 256 : Nat) : Int) by omega] at ho
  exact ho
end

set_option maxRecDepth 100000 in
theorem fixr_any (n : Nat) (s : Int) (w : World) (hn : n < 18446744073709551616) (h1 : -9223372036854775808 ≤ s) (h2 : s ≤ 9223372036854775807) :
    Calls Try.prog 43 #[.int .u64 (n : Int), .int .i64 s] w (Made .u8 5 w.heap.size (Bm.fixI n s) w) := by
  by_cases hs : 1 ≤ s ∧ s ≤ 8
  · obtain ⟨k, rfl⟩ : ∃ k : Nat, s = (k : Int) := ⟨s.toNat, by omega⟩
    have hk1 : 1 ≤ k := by omega
    have hk8 : k ≤ 8 := by omega
    clear hs
    rw [Bm.fixI_good hk1 hk8]
    have HS := Lib.hid (WroteR.start n w)
    obtain ⟨base, Hbase⟩ : ∃ base, Hid (w.heap.size = base) := ⟨_, rfl⟩
    rw [Hbase.out] at HS ⊢
    go_enter Try.func43, Try.ntmps43
    go_wp2_with fail
    go_loopw [0, 5, 6] (fun m v i wr => ∃ (j a : Nat), i = .int .i64 j ∧ j ≤ k ∧ m = .int .u64 a ∧ a < 18446744073709551616 ∧ Hid (WroteR base n w j a v wr)) (fun _ _ i _ => k - (intOf i).toNat)
    case atStart => exact ⟨0, n, rfl, by omega, rfl, hn, HS⟩
    case round =>
      obtain ⟨j, a, rfl, hj, rfl, ha, HP⟩ := hrel
      by_cases hlt : j < k
      · have Hone := Lib.hid (HP.out.one ((a : Int) % 256))
        have Hlen := Lib.hid (Bm.fix_length j n)
        have Hown := Lib.hid HP.out.own
        obtain ⟨A, c, rfl⟩ := own_shape HP.out.own
        have Hnil := Lib.hid (own_nil HP.out.own)
        have Hsee := Lib.hid (Sees.of_own (l := Bm.fix j n) (by rw [Hlen.out]; exact HP.out.own))
        go_wp2_with (at_builtin; refine wpList_append_row byteT _ _ rfl rfl base _ 1 _ rfl Hone.out j c rfl Hlen.out Hnil.out (Hsee.out.below ((Below.refl _ _).alloc (Nat.le_refl _) _)) (by omega) (by have := HP.out.size; simp; omega) ?_; intro v' w1 ho1 hg1)
        have hsz := HP.out.size
        have hb1 : Below base wr w1 := ((Below.refl base wr).alloc hsz _).grown hg1 (by simp; omega) (fun k hk => (Hone.out.lt k hk).1)
        go_roundw
        case rel => exact ⟨j + 1, a / 256, by go_num, by omega, by go_num, by omega, Lib.hid (HP.out.next rfl ho1 hb1)⟩
        case measure => simp [intOf]; omega
      · go_wp2_with fail
        go_ret
        have hjk : j = k := by omega
        subst hjk
        have h := HP.out.own
        exact ⟨_, rfl, by rw [Bm.fix_length]; exact h, HP.out.below⟩
  · have Hs := Lib.hid hs
    rw [Bm.fixI_bad (by omega)]
    by_cases h8 : 8 < s
    · clear hs
      go_enter Try.func43, Try.ntmps43
      go_wp2_with fail
      go_ret
      exact ⟨_, rfl, World.ownsRow_nil _ _ 5 1, Below.refl _ _⟩
    · have h0 : s < 1 := by omega
      clear hs
      go_enter Try.func43, Try.ntmps43
      go_wp2_with fail
      go_loopw [0, 5, 6] (fun m v i wr => m = .int .u64 n ∧ v = .slice none 0 0 ∧ i = .int .i64 0 ∧ wr = w) (fun _ _ _ _ => 0)
      case atStart => exact ⟨rfl, rfl, rfl, rfl⟩
      case round =>
        obtain ⟨rfl, rfl, rfl, rfl⟩ := hrel
        go_wp2_with fail
        go_ret
        exact ⟨_, rfl, World.ownsRow_nil _ _ 5 1, Below.refl _ _⟩
end Go.Proofs.Ytbhdgfpaoghnbaa
