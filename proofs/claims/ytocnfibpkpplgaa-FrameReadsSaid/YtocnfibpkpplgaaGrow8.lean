/- Contract of slices.Grow at bytes, of a row of the call's own. -/
import Derived.Test.YtocnfibpkpplgaaSpl
import Derived.Test.YtocnfibpkpplgaaPA
import Derived.Lib.AppendZeros
namespace Go.Proofs.Ytocnfibpkpplgaa
open Go.RowKit
set_option linter.unusedVariables false
set_option maxRecDepth 100000
set_option linter.unusedSimpArgs false

theorem zero8_size (z : Array Value) (k : Nat) : (Builtin.zeroCells z k).size = k * z.size := by simp [Builtin.zeroCells]
theorem byte_info : (Try.prog.info? 5).map (fun i => (i.zero, i.size, i.bytes)) = some (some (.int .u8 0), 1, 1) := by kernel_rfl
/-- .. the row has an address, and room for k more -/
def GrowPost (base n k : Nat) (v : Value) (xs : List Value) (w : World) (e : Ending) (w' : World) : Prop :=
  ∃ g c, e = .returned (.slice (some ⟨g, 0, none⟩) n c) ∧ n + k ≤ c ∧ w'.ownsRow base 5 1 (.slice (some ⟨g, 0, none⟩) n c) n xs ∧ Below w.heap.size w w' ∧ (v.ownBlock = some g ∨ w.heap.size ≤ g)
set_option maxHeartbeats 2000000 in
theorem grow8_any {w : World} {base n k : Nat} {v : Value} {xs : List Value} (hown : w.ownsRow base 5 1 v n xs) (hn : n ≤ 10000000000) (hk : 0 < k) (hk2 : k ≤ 10000000000) (hbase : base ≤ w.heap.size) :
    Calls Try.prog 17 #[v, .int .i64 (k : Int)] w (GrowPost base n k v xs w) := by
  obtain ⟨i0, hi0, hz0, hzs, hzb⟩ := info_parts byte_info
  have hxl := hown.1
  rcases hown.2 with ⟨rfl, rfl⟩ | ⟨g, cap, cur, rfl, hg, hh, hnc, hcm, hcs, htk⟩
  · have hx0 : xs = [] := List.eq_nil_of_length_eq_zero (by omega)
    subst hx0
    obtain ⟨G, hG⟩ : ∃ G, grownCap w k 0 5 = G := ⟨_, rfl⟩
    have hG1 : k ≤ G := by rw [← hG]; exact grownCap_ge _ _ _ _
    have hG2 : G ≤ maxLen := by rw [← hG]; exact grownCap_le_maxLen _ _ _ _ (by unfold maxLen; omega)
    obtain ⟨W1, hW1⟩ : ∃ W1, w.drew.alloc (.cells (Builtin.zeroCells (Value.int .u8 0).cells k ++ Builtin.zeroCells (Value.int .u8 0).cells (G - k)) 5) = W1 := ⟨_, rfl⟩
    obtain ⟨N, hN⟩ : ∃ N, w.heap.size = N := ⟨_, rfl⟩
    have hrz : ∀ ty, (Builtin.append_ #[22, 3] ty #[.slice none 0 0, .int .i64 (k : Int)]).run Try.prog w = .ok (.slice (some ⟨N, 0, none⟩) k G) W1 := fun ty => by
      have h := Lib.run_append_nil_zeros (P := Try.prog) w 22 3 ty 5 i0 _ .i64 .i64 Try.underlying22 Try.underlying3 hi0 hz0 k hk (by omega) (by omega) (by rw [hzb]; omega)
      rw [hG, hW1, hN] at h
      exact h
    have HO : Hid (W1.ownsRow base 5 1 (.slice (some ⟨N, 0, none⟩) 0 G) 0 []) := Lib.hid ⟨rfl, .inr ⟨N, G, _, rfl, by omega, by rw [← hW1, ← hN]; exact heap_alloc_new w.drew _, Nat.zero_le _, hG2, by
      have e1 : (Value.int .u8 0).cells.size = 1 := rfl
      rw [Array.size_append, zero8_size, zero8_size, e1]; omega, by simp⟩⟩
    have HB : Hid (Below N w W1) := Lib.hid (by rw [← hW1, ← hN]; exact (Below.refl _ _).drew.alloc (by simp) _)
    have HRZ := Lib.hid hrz
    have hwk : IntKind.i64.wrap (k : Int) = (k : Int) := by rw [IntKind.wrap_i64]; omega
    unfold maxLen at hG2
    clear hrz hW1 hG hi0 hz0 hzs hzb hown hxl
    go_enter Try.func17, Try.ntmps17
    go_wp2_with (at_builtin; refine Lib.wpList_append_run _ rfl _ _ _ _ rfl _ _ rfl rfl _ _ (HRZ.out _) ?_)
    go_ret
    exact ⟨N, G, rfl, by omega, HO.out, by rw [hN]; exact HB.out, .inr (by omega)⟩
  · by_cases hfit : n + k ≤ cap
    · have HO := Lib.hid hown
      have hw1 : IntKind.i64.wrap ((cap : Int) - (n : Int)) = (cap : Int) - (n : Int) := by unfold maxLen at hcm; rw [IntKind.wrap_i64]; omega
      have hw2 : IntKind.i64.wrap ((k : Int) - ((cap : Int) - (n : Int))) = (k : Int) - ((cap : Int) - (n : Int)) := by unfold maxLen at hcm; rw [IntKind.wrap_i64]; omega
      unfold maxLen at hcm
      clear hown hxl hh hcs htk hi0 hz0 hzs hzb
      go_enter Try.func17, Try.ntmps17
      go_wp2_with fail
      go_ret
      exact ⟨g, cap, rfl, hfit, HO.out, Below.refl _ _, .inl rfl⟩
    · have hcl : cur.toList.length = cap * 1 := by rw [Array.length_toList, hcs]
      have hold : (Builtin.firstCells i0.size cap (.slice (some ⟨g, 0, none⟩) cap cap)).run Try.prog w.drew = .ok cur.toList.toArray w.drew := by
        rw [hzs]
        refine run_firstCells_some w.drew 1 cap ⟨g, 0, none⟩ cap cap cur.toList hcl (fun j u hj => ?_)
        rw [Addr.add_mid, Nat.zero_add, cell_of_row w.drew g j cur 5 (0, 0) hh]
        simpa using hj
      obtain ⟨G, hG⟩ : ∃ G, grownCap w (n + k) cap 5 = G := ⟨_, rfl⟩
      have hG1 : n + k ≤ G := by rw [← hG]; exact grownCap_ge _ _ _ _
      have hG2 : G ≤ maxLen := by rw [← hG]; exact grownCap_le_maxLen _ _ _ _ (by unfold maxLen; omega)
      obtain ⟨q, hq⟩ : ∃ q, n + k - cap = q := ⟨_, rfl⟩
      obtain ⟨W1, hW1⟩ : ∃ W1, w.drew.alloc (.cells (cur.toList.toArray ++ Builtin.zeroCells (Value.int .u8 0).cells q ++ Builtin.zeroCells (Value.int .u8 0).cells (G - (n + k))) 5) = W1 := ⟨_, rfl⟩
      obtain ⟨N, hN⟩ : ∃ N, w.heap.size = N := ⟨_, rfl⟩
      have hcq : cap + q = n + k := by omega
      have hrz : ∀ ty, (Builtin.append_ #[22, 3] ty #[.slice (some ⟨g, 0, none⟩) cap cap, .int .i64 (q : Int)]).run Try.prog w = .ok (.slice (some ⟨N, 0, none⟩) (n + k) G) W1 := fun ty => by
        have h := Lib.run_append_grow_zeros w 22 3 ty 5 i0 _ .i64 .i64 Try.underlying22 Try.underlying3 hi0 hz0 (some ⟨g, 0, none⟩) cap cap cur.toList hold q (by omega) (by omega) (by omega) (by omega) (by rw [hzb]; omega) (by rw [hzb]; exact growslice_fits (by omega) (by omega))
        rw [hcq, hG, hW1, hN] at h
        exact h
      have HO : Hid (W1.ownsRow base 5 1 (.slice (some ⟨N, 0, none⟩) n G) n xs) := Lib.hid ⟨hxl, .inr ⟨N, G, _, rfl, by omega, by rw [← hW1, ← hN]; exact heap_alloc_new w.drew _, by omega, hG2, by
        have e1 : (Value.int .u8 0).cells.size = 1 := rfl
        rw [Array.size_append, Array.size_append, zero8_size, zero8_size, List.size_toArray, hcl, e1]; omega, by
        rw [Array.toList_append, Array.toList_append, List.toList_toArray, List.append_assoc, List.take_append_of_le_length (by rw [hcl]; omega)]
        exact htk⟩⟩
      have HB : Hid (Below N w W1) := Lib.hid (by rw [← hW1, ← hN]; exact (Below.refl _ _).drew.alloc (by simp) _)
      have HRZ := Lib.hid hrz
      have hw1 : IntKind.i64.wrap ((cap : Int) - (n : Int)) = (cap : Int) - (n : Int) := by unfold maxLen at hcm; rw [IntKind.wrap_i64]; omega
      have hw2 : IntKind.i64.wrap ((k : Int) - ((cap : Int) - (n : Int))) = (q : Int) := by unfold maxLen at hcm; rw [IntKind.wrap_i64]; omega
      have hq0 : 0 < q := by omega
      unfold maxLen at hG2 hcm
      have hnG : n ≤ G := by omega
      clear hrz hold hW1 hG hi0 hz0 hzs hzb hown hxl hh hcs htk hcl hcq hq
      go_enter Try.func17, Try.ntmps17
      go_wp2_with (at_builtin; refine Lib.wpList_append_run _ rfl _ _ _ _ rfl _ _ rfl rfl _ _ (HRZ.out _) ?_)
      go_ret
      exact ⟨N, G, rfl, hG1, HO.out, by rw [hN]; exact HB.out, .inr (by omega)⟩
end Go.Proofs.Ytocnfibpkpplgaa
