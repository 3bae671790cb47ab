/- Contract of the law's awake. -/
import Derived.Test.YtdnnlifcgoegkaaDoorRight8
namespace Go.Proofs.YtdnnlifcgoegkaaDoor
open Go.RowKit
set_option linter.unusedVariables false
open Gm

def m1 : Ms := ⟨1, 0, 0, false, 5, ⟨#[]⟩, ⟨#[]⟩, 0, 0, [], []⟩
def m2 : Ms := ⟨9, 0, 0, false, 0, ⟨#[]⟩, ⟨#[118]⟩, 0, 0, [], []⟩
def m3 : Ms := ⟨2, 0, 0, false, 0, ⟨#[]⟩, ⟨#[]⟩, 0, 0, [], []⟩
theorem ok_small {m : Ms} (h1 : 0 ≤ m.kind ∧ m.kind < 100) (h2 : m.rid = 0) (h3 : m.code = 0) (h4 : m.id < 100) (h5 : m.key.size < 100) (h6 : m.val.size < 100) (h7 : m.pid = 0) (h8 : m.pad = 0) (h9 : m.peers = []) (h10 : m.pairs = []) : Ok m := by
  have e : maxLen = 9223372036854775807 := rfl
  have p1 : ∀ p ∈ m.peers, p.1 < 18446744073709551616 ∧ p.2 < 65536 := by rw [h9]; intro p hp; exact absurd hp (by simp)
  have p2 : ∀ p ∈ m.pairs, p.1.size ≤ maxLen ∧ p.2.size ≤ maxLen := by rw [h10]; intro p hp; exact absurd hp (by simp)
  exact ⟨by omega, by omega, by omega, by omega, by omega, by omega, by omega, by omega, p1, p2⟩
theorem mv1 (w : World) : Mv w 0 m1 (.agg #[.int .i64 1, .int .u32 0, .int .u8 0, .bool false, .int .u64 5, .string ⟨#[]⟩, .string ⟨#[]⟩, .int .u64 0, .int .u16 0, .slice none 0 0, .slice none 0 0]) :=
  ⟨⟨_, _, rfl, Sl.empty _ _, Sl.empty _ _⟩, ok_small (by decide) rfl rfl (by decide) (by decide) (by decide) rfl rfl rfl rfl⟩
theorem mv2 (w : World) : Mv w 0 m2 (.agg #[.int .i64 9, .int .u32 0, .int .u8 0, .bool false, .int .u64 0, .string ⟨#[]⟩, .string ⟨#[118]⟩, .int .u64 0, .int .u16 0, .slice none 0 0, .slice none 0 0]) :=
  ⟨⟨_, _, rfl, Sl.empty _ _, Sl.empty _ _⟩, ok_small (by decide) rfl rfl (by decide) (by decide) (by decide) rfl rfl rfl rfl⟩
theorem mv3 (w : World) : Mv w 0 m3 (.agg #[.int .i64 2, .int .u32 0, .int .u8 0, .bool false, .int .u64 0, .string ⟨#[]⟩, .string ⟨#[]⟩, .int .u64 0, .int .u16 0, .slice none 0 0, .slice none 0 0]) :=
  ⟨⟨_, _, rfl, Sl.empty _ _, Sl.empty _ _⟩, ok_small (by decide) rfl rfl (by decide) (by decide) (by decide) rfl rfl rfl rfl⟩
theorem right1 : right m1 = 0 := by decide +kernel
theorem right2 : right m2 = 1 := by decide +kernel
theorem right3 : right m3 = 2 := by decide +kernel
theorem kind_ping : kindOf ⟨#[112, 105, 110, 103]⟩ = 11 := by decide +kernel
theorem key_k : isKey ⟨#[107]⟩ = true := by
  have e : nums ⟨#[107]⟩ = [107] := rfl
  unfold isKey
  rw [e]
  decide +kernel
theorem key_e : isKey ⟨#[]⟩ = false := rfl

set_option maxRecDepth 100000 in
theorem awake8 (w : World) (T : Tab w) :
    Calls Tryd.prog 8 #[] w fun e w' => e = .returned (.bool true) ∧ Below w.heap.size w w' := by
  have HT := Lib.hid T
  clear T
  have n11 : (at_ 11).name = ⟨#[112, 105, 110, 103]⟩ := by decide +kernel
  have C1 := Lib.hid (fun W (h : Tab W) => right_any (mv1 W) h)
  have C2 := Lib.hid (fun W (h : Tab W) => right_any (mv2 W) h)
  have C3 := Lib.hid (fun W (h : Tab W) => right_any (mv3 W) h)
  rw [right1] at C1
  rw [right2] at C2
  rw [right3] at C3
  have C4 := Lib.hid (fun W (h : Tab W) => name_any 11 (by decide) W h)
  rw [n11] at C4
  have C5 := Lib.hid (fun W (h : Tab W) => kind_any ⟨#[112, 105, 110, 103]⟩ W h)
  rw [kind_ping] at C5
  have C6 := Lib.hid (fun W => key_any ⟨#[107]⟩ (by decide) W)
  rw [key_k] at C6
  have C7 := Lib.hid (fun W => key_any ⟨#[]⟩ (by decide) W)
  rw [key_e] at C7
  have C8 := Lib.hid (fun W (h : Tab W) => asks_any 11 (by decide) W h)
  rw [show asks 11 = true by decide] at C8
  have C9 := Lib.hid (fun W (h : Tab W) => answers_any 8 (by decide) 9 (by decide) W h)
  rw [show Gm.answers 8 9 = true by decide] at C9
  clear n11
  go_enter Tryd.func8, Tryd.ntmps8
  go_wp2_with fail
  refine (C1.out _ HT.out).mono ?_
  rintro e w1 ⟨rfl, hb1⟩
  have HT1 := Lib.hid (HT.out.kept hb1)
  have HB1 := Lib.hid hb1
  clear hb1
  go_wp2_with fail
  refine (C2.out _ HT1.out).mono ?_
  rintro e w2 ⟨rfl, hb2⟩
  have HT2 := Lib.hid (HT1.out.kept hb2)
  have HB2 := Lib.hid (HB1.out.trans (hb2.mono HB1.out.size))
  clear hb2
  go_wp2_with fail
  refine (C3.out _ HT2.out).mono ?_
  rintro e w3 ⟨rfl, hb3⟩
  have HT3 := Lib.hid (HT2.out.kept hb3)
  have HB3 := Lib.hid (HB2.out.trans (hb3.mono HB2.out.size))
  clear hb3
  go_wp2_with fail
  refine (C4.out _ HT3.out).mono ?_
  rintro e w4 ⟨rfl, hb4⟩
  have HT4 := Lib.hid (HT3.out.kept hb4)
  have HB4 := Lib.hid (HB3.out.trans (hb4.mono HB3.out.size))
  clear hb4
  go_wp2_with fail
  refine (C5.out _ HT4.out).mono ?_
  rintro e w5 ⟨rfl, hb5⟩
  have HT5 := Lib.hid (HT4.out.kept hb5)
  have HB5 := Lib.hid (HB4.out.trans (hb5.mono HB4.out.size))
  clear hb5
  go_wp2_with fail
  refine (C6.out _).mono ?_
  rintro e w6 ⟨rfl, hb6⟩
  have HT6 := Lib.hid (HT5.out.kept hb6)
  have HB6 := Lib.hid (HB5.out.trans (hb6.mono HB5.out.size))
  clear hb6
  go_wp2_with fail
  refine (C7.out _).mono ?_
  rintro e w7 ⟨rfl, hb7⟩
  have HT7 := Lib.hid (HT6.out.kept hb7)
  have HB7 := Lib.hid (HB6.out.trans (hb7.mono HB6.out.size))
  clear hb7
  go_wp2_with fail
  refine (C8.out _ HT7.out).mono ?_
  rintro e w8 ⟨rfl, hb8⟩
  have HT8 := Lib.hid (HT7.out.kept hb8)
  have HB8 := Lib.hid (HB7.out.trans (hb8.mono HB7.out.size))
  clear hb8
  go_wp2_with fail
  refine (C9.out _ HT8.out).mono ?_
  rintro e w9 ⟨rfl, hb9⟩
  have HB9 := Lib.hid (HB8.out.trans (hb9.mono HB8.out.size))
  clear hb9
  go_wp2_with fail
  go_ret
  exact ⟨rfl, HB9.out⟩
end Go.Proofs.YtdnnlifcgoegkaaDoor
