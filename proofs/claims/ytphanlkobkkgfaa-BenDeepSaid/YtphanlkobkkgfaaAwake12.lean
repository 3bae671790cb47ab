/- Contract of layer 12's law's awake. -/
import Derived.Test.YtphanlkobkkgfaaLit12
import Derived.Test.YtphanlkobkkgfaaPc12
import Derived.Test.YtphanlkobkkgfaaPt12
import Derived.Lib.SlBytesConst
import Derived.Deep.CutRange
namespace Go.Proofs.Ytphanlkobkkgfaa
open Go.RowKit
set_option linter.unusedVariables false
set_option maxRecDepth 100000
set_option linter.unusedSimpArgs false

theorem pc_lit12 (w : World) (cs : Array Value) (m : Nat × Nat) (l : List Nat) (n : Nat) (hn : l.length = n) (h : cs.toList = ints .u8 l) (hm : n ≤ 1000) : Pc (w.alloc (.cells cs 5 m)) (w.heap.size + 1) (.slice (some ⟨w.heap.size, 0, none⟩) n n) l := by
  subst hn
  exact ⟨_, _, rfl, sees_new _ l cs _ rfl h, (fun h => by cases h), Nat.le_refl _, (by unfold maxLen; omega)⟩
theorem parse_lit12 (w : World) (cs : Array Value) (m : Nat × Nat) (l : List Nat) (n : Nat) (hn : l.length = n) (h : cs.toList = ints .u8 l) (hm : n ≤ 1000) (hb : ∀ x ∈ l, x < 256) {k i : Int} {s : ByteArray} {keys : List ByteArray} {kids : List Tn} {e : Nat} (hp : Bn.parse l = (.mk k i s keys kids, e)) (nk nq : Nat) (hk : keys.length = nk) (hq : kids.length = nq) :
    Calls Try.prog 11 #[.slice (some ⟨w.heap.size, 0, none⟩) n n] (w.alloc (.cells cs 5 m)) fun en w' => ∃ Ak ck Aq cq, en = .returned (.tuple #[.agg #[.int .i64 k, .int .i64 i, .string s, .slice Ak nk ck, .slice Aq nq cq], .int .i64 (e : Int)]) ∧ Below w.heap.size w w' := by
  refine (parse12_any (pc_lit12 w cs m l n hn h hm) (by simp) hb (by omega)).mono ?_
  rintro en w' ⟨vk, vq, rfl, hx, hbw⟩
  rw [hp] at hx ⊢
  obtain ⟨Ak, ck, rfl, _⟩ := hx.tv.keys
  obtain ⟨Aq, cq, rfl, _⟩ := hx.tv.kids
  subst hk hq
  exact ⟨Ak, ck, Aq, cq, rfl, ((Below.refl _ w).alloc (Nat.le_refl _) _).trans (hbw.mono (by simp))⟩
theorem print_lit12 (w : World) :
    Calls Try.prog 9 #[.agg #[.int .i64 3, .int .i64 0, .string ⟨#[]⟩, .slice none 0 0, .slice (some ⟨w.heap.size, 0, none⟩) 2 2]] (w.alloc (.cells #[.int .i64 1, .int .i64 5, .string ⟨#[]⟩, .slice none 0 0, .slice none 0 0, .int .i64 2, .int .i64 0, .string ⟨#[97, 98]⟩, .slice none 0 0, .slice none 0 0] 25)) fun en w' => ∃ A c, en = .returned (.tuple #[.slice A 9 c, .int .i64 0]) ∧ Sees .u8 w' w'.heap.size A [108, 105, 53, 101, 50, 58, 97, 98, 101] ∧ Below w.heap.size w w' := by
  have hW : Whole (w.alloc (.cells #[.int .i64 1, .int .i64 5, .string ⟨#[]⟩, .slice none 0 0, .slice none 0 0, .int .i64 2, .int .i64 0, .string ⟨#[97, 98]⟩, .slice none 0 0, .slice none 0 0] 25)) w.heap.size 25 #[.int .i64 1, .int .i64 5, .string ⟨#[]⟩, .slice none 0 0, .slice none 0 0, .int .i64 2, .int .i64 0, .string ⟨#[97, 98]⟩, .slice none 0 0, .slice none 0 0] := Whole.made _ _ _
  obtain ⟨W, hWe⟩ : ∃ W, w.alloc (.cells #[.int .i64 1, .int .i64 5, .string ⟨#[]⟩, .slice none 0 0, .slice none 0 0, .int .i64 2, .int .i64 0, .string ⟨#[97, 98]⟩, .slice none 0 0, .slice none 0 0] 25) = W := ⟨_, rfl⟩
  have hB : Below w.heap.size w W := by rw [← hWe]; exact (Below.refl _ w).alloc (Nat.le_refl _) _
  have hsz : W.heap.size = w.heap.size + 1 := by rw [← hWe]; simp
  rw [hWe] at hW ⊢
  have H : Tv W (w.heap.size + 1) Bn.t5ab (.slice none 0 0) (.slice (some ⟨w.heap.size, 0, none⟩) 2 2) := by
    refine Tv.of (by simp [Bn.t5ab, Tn.kind]) (by simp [Bn.t5ab, Tn.n]) (by show (0 : Nat) ≤ maxLen; omega) (Sk.nil _ _) ?_
    refine ⟨some ⟨w.heap.size, 0, none⟩, 2, rfl, Nat.le_refl _, by unfold maxLen; omega, (fun h => by cases h), fun _ => .slice none 0 0, fun _ => .slice none 0 0, fun i hi => ⟨w.heap.size, 0, rfl, by omega, ?_, ?_⟩⟩
    · match i, hi with
      | 0, _ => exact ⟨hW.at_ 0, hW.at_ 1, hW.at_ 2, hW.at_ 3, hW.at_ 4⟩
      | 1, _ => exact ⟨hW.at_ 5, hW.at_ 6, hW.at_ 7, hW.at_ 8, hW.at_ 9⟩
      | j + 2, hi => exact absurd (show j + 2 < 2 from hi) (by omega)
    · match i, hi with
      | 0, _ => exact tv_plain (by omega) (by omega) (by show (0 : Nat) ≤ maxLen; omega)
      | 1, _ => exact tv_plain (by omega) (by omega) (by show (2 : Nat) ≤ maxLen; unfold maxLen; omega)
      | j + 2, hi => exact absurd (show j + 2 < 2 from hi) (by omega)
  refine (cprint12_any H (by rw [Bn.ben_t5ab]; decide)).mono ?_
  rintro en w' ⟨v, rfl, hpc, hb⟩
  rw [Bn.print_t5ab] at hpc ⊢
  obtain ⟨A, c, rfl, hs, _⟩ := hpc
  exact ⟨A, c, rfl, hs, hB.trans (hb.mono hB.size)⟩

set_option maxHeartbeats 2000000 in
theorem awake12 (w : World) : Calls Try.prog 8 #[] w fun e w' => e = .returned (.bool true) ∧ Below w.heap.size w w' := by
  have kc := fun (w : World) (C : Array Value) (n c : Nat) => Lib.run_convert_bytes_const (P := Try.prog) w 28 5 C n c Try.underlying28 Try.underlying5
  go_enter Try.func8, Try.ntmps8
  go_wp2_with fail
  refine (print_lit12 w).mono ?_
  rintro e w1 ⟨A, c, rfl, hs1, hb1⟩
  have HS1 := Lib.hid hs1
  have HB1 := Lib.hid hb1
  have HC1 := Lib.hid (Below.refl w1.heap.size w1)
  clear hs1 hb1
  go_wp2_with fail
  refine (parse_lit12 w1 _ _ [105, 45, 48, 101] 4 rfl rfl (by omega) (by decide) Bn.parse_m0 0 0 rfl rfl).mono ?_
  rintro e x2 ⟨Ak2, ck2, Aq2, cq2, rfl, hbx2⟩
  obtain ⟨g2, y2, hg2, hal2, hY2, hby2, hsy2⟩ := var_tree x2
  obtain ⟨w2, hst2⟩ : ∃ W, y2.setRow g2 #[.int .i64 0, .int .i64 0, .string ⟨#[]⟩, .slice Ak2 0 ck2, .slice Aq2 0 cq2] = W := ⟨_, rfl⟩
  have HC2 : Hid (Below w1.heap.size w1 w2) := Lib.hid ((HC1.out.trans (hbx2.mono HC1.out.size)).trans (by
    have h1 : Below x2.heap.size x2 w2 := by rw [← hst2]; exact below_row (by rw [hg2]; exact hby2) (by omega) _
    exact h1.mono (Nat.le_trans HC1.out.size hbx2.size)))
  have HY2 := Lib.hid hY2
  clear hbx2 hby2 hsy2 hY2
  go_upto_region 3 with (refine wpList_store_whole rfl rfl rfl rfl rfl HY2.out (treeI rfl) rfl (by simp [Value.oneCell']) ?_; rw [hst2])
  clear hg2 hal2 hst2
  go_wp2_with fail
  refine (parse_lit12 w2 _ _ [50, 58, 97] 3 rfl rfl (by omega) (by decide) Bn.parse_2a 0 0 rfl rfl).mono ?_
  rintro e x3 ⟨Ak3, ck3, Aq3, cq3, rfl, hbx3⟩
  obtain ⟨g3, y3, hg3, hal3, hY3, hby3, hsy3⟩ := var_tree x3
  obtain ⟨w3, hst3⟩ : ∃ W, y3.setRow g3 #[.int .i64 0, .int .i64 0, .string ⟨#[]⟩, .slice Ak3 0 ck3, .slice Aq3 0 cq3] = W := ⟨_, rfl⟩
  have HC3 : Hid (Below w1.heap.size w1 w3) := Lib.hid ((HC2.out.trans (hbx3.mono HC2.out.size)).trans (by
    have h1 : Below x3.heap.size x3 w3 := by rw [← hst3]; exact below_row (by rw [hg3]; exact hby3) (by omega) _
    exact h1.mono (Nat.le_trans HC2.out.size hbx3.size)))
  have HY3 := Lib.hid hY3
  clear hbx3 hby3 hsy3 hY3
  go_upto_region 4 with (refine wpList_store_whole rfl rfl rfl rfl rfl HY3.out (treeI rfl) rfl (by simp [Value.oneCell']) ?_; rw [hst3])
  clear hg3 hal3 hst3
  go_wp2_with fail
  refine (parse_lit12 w3 _ _ [108, 101, 53] 3 rfl rfl (by omega) (by decide) Bn.parse_le5 0 0 rfl rfl).mono ?_
  rintro e x4 ⟨Ak4, ck4, Aq4, cq4, rfl, hbx4⟩
  obtain ⟨g4, y4, hg4, hal4, hY4, hby4, hsy4⟩ := var_tree x4
  obtain ⟨w4, hst4⟩ : ∃ W, y4.setRow g4 #[.int .i64 0, .int .i64 0, .string ⟨#[]⟩, .slice Ak4 0 ck4, .slice Aq4 0 cq4] = W := ⟨_, rfl⟩
  have HC4 : Hid (Below w1.heap.size w1 w4) := Lib.hid ((HC3.out.trans (hbx4.mono HC3.out.size)).trans (by
    have h1 : Below x4.heap.size x4 w4 := by rw [← hst4]; exact below_row (by rw [hg4]; exact hby4) (by omega) _
    exact h1.mono (Nat.le_trans HC3.out.size hbx4.size)))
  have HY4 := Lib.hid hY4
  clear hbx4 hby4 hsy4 hY4
  go_upto_region 5 with (refine wpList_store_whole rfl rfl rfl rfl rfl HY4.out (treeI rfl) rfl (by simp [Value.oneCell']) ?_; rw [hst4])
  clear hg4 hal4 hst4
  go_wp2_with fail
  refine (parse_lit12 w4 _ _ [100, 49, 58, 98, 105, 49, 101, 49, 58, 97, 105, 49, 101, 101] 14 rfl rfl (by omega) (by decide) Bn.parse_dba 0 0 rfl rfl).mono ?_
  rintro e x5 ⟨Ak5, ck5, Aq5, cq5, rfl, hbx5⟩
  obtain ⟨g5, y5, hg5, hal5, hY5, hby5, hsy5⟩ := var_tree x5
  obtain ⟨w5, hst5⟩ : ∃ W, y5.setRow g5 #[.int .i64 0, .int .i64 0, .string ⟨#[]⟩, .slice Ak5 0 ck5, .slice Aq5 0 cq5] = W := ⟨_, rfl⟩
  have HC5 : Hid (Below w1.heap.size w1 w5) := Lib.hid ((HC4.out.trans (hbx5.mono HC4.out.size)).trans (by
    have h1 : Below x5.heap.size x5 w5 := by rw [← hst5]; exact below_row (by rw [hg5]; exact hby5) (by omega) _
    exact h1.mono (Nat.le_trans HC4.out.size hbx5.size)))
  have HY5 := Lib.hid hY5
  clear hbx5 hby5 hsy5 hY5
  go_upto_region 6 with (refine wpList_store_whole rfl rfl rfl rfl rfl HY5.out (treeI rfl) rfl (by simp [Value.oneCell']) ?_; rw [hst5])
  clear hg5 hal5 hst5
  go_wp2_with fail
  refine (parse_lit12 w5 _ _ [100, 49, 58, 97, 105, 49, 101, 49, 58, 98, 105, 50, 101, 101] 14 rfl rfl (by omega) (by decide) Bn.parse_dab 2 2 rfl rfl).mono ?_
  rintro e x6 ⟨Ak6, ck6, Aq6, cq6, rfl, hbx6⟩
  obtain ⟨g6, y6, hg6, hal6, hY6, hby6, hsy6⟩ := var_tree x6
  obtain ⟨w6, hst6⟩ : ∃ W, y6.setRow g6 #[.int .i64 4, .int .i64 0, .string ⟨#[]⟩, .slice Ak6 2 ck6, .slice Aq6 2 cq6] = W := ⟨_, rfl⟩
  have HC6 : Hid (Below w1.heap.size w1 w6) := Lib.hid ((HC5.out.trans (hbx6.mono HC5.out.size)).trans (by
    have h1 : Below x6.heap.size x6 w6 := by rw [← hst6]; exact below_row (by rw [hg6]; exact hby6) (by omega) _
    exact h1.mono (Nat.le_trans HC5.out.size hbx6.size)))
  have HY6 := Lib.hid hY6
  have hT6 : Whole w6 g6 25 #[.int .i64 4, .int .i64 0, .string ⟨#[]⟩, .slice Ak6 2 ck6, .slice Aq6 2 cq6] := by rw [← hst6]; exact hY6.row _
  have c3 := hT6.at_ 3
  simp at c3
  clear hT6
  clear hbx6 hby6 hsy6 hY6
  go_upto_region 7 with (refine wpList_store_whole rfl rfl rfl rfl rfl HY6.out (treeI rfl) rfl (by simp [Value.oneCell']) ?_; rw [hst6])
  clear hg6 hal6 hst6
  have hcv : (convert 28 9 (.slice A 9 c)).run Try.prog w6 = .ok (.string (strOf [108, 105, 53, 101, 50, 58, 97, 98, 101])) w6 := conv_sees Try.underlying28 Try.underlying5 Try.underlying9 9 c rfl (HS1.out.below HC6.out)
  have he1 : ((strOf [108, 105, 53, 101, 50, 58, 97, 98, 101]).toList == [108, 105, 53, 101, 50, 58, 97, 98, 101]) = true := by decide +kernel
  go_wp2_with fail
  go_ret
  exact ⟨rfl, HB1.out.trans (HC6.out.mono HB1.out.size)⟩
end Go.Proofs.Ytphanlkobkkgfaa
