/- Contract of annuletref16.Same at two lists of the same messages. -/
import Derived.Test.YtjomchehnlnfcaaMl25
import Derived.Test.YtjomchehnlnfcaaPE
import Derived.Test.YtjomchehnlnfcaaPA
namespace Go.Proofs.Ytjomchehnlnfcaa
open Go.RowKit
open Gm
set_option linter.unusedVariables false
set_option maxRecDepth 100000
set_option linter.unusedSimpArgs false

set_option maxHeartbeats 2000000 in
theorem rsame16_any {w : World} {B1 B2 : Nat} {v1 v2 : Value} {ms : List Ms} (H1 : Ml w B1 v1 ms) (H2 : Ml w B2 v2 ms) (hB1 : B1 ≤ w.heap.size) (hB2 : B2 ≤ w.heap.size) :
    Calls Try.prog 23 #[v1, v2] w fun e w' => e = .returned (.bool true) ∧ Below w.heap.size w w' := by
  obtain ⟨A1, c1, rfl, hl1, hm1⟩ := H1.shape
  obtain ⟨A2, c2, rfl, hl2, hm2⟩ := H2.shape
  unfold maxLen at hm1 hm2
  have K1 := Lib.hid (fun i (h : i < ms.length) => H1.at_ h)
  have K2 := Lib.hid (fun i (h : i < ms.length) => H2.at_ h)
  obtain ⟨n, hn⟩ : ∃ n, Hid (ms.length = n) := ⟨_, Lib.hid rfl⟩
  rw [hn.out] at hl1 hl2 ⊢
  clear H1 H2
  have hnn : ((n : Int) != (n : Int)) = false := by simp
  go_enter Try.func23, Try.ntmps23
  go_wp2_with fail
  clear hnn
  go_loopw [5] (fun x wr => ∃ i : Nat, i ≤ n ∧ x = .int .i64 (i : Int) ∧ Hid (Below w.heap.size w wr)) (fun x _ => n - (intOf x).toNat)
  case atStart => exact ⟨0, by omega, rfl, Lib.hid (Below.refl _ _)⟩
  case round =>
    obtain ⟨i, hi, rfl, HB⟩ := hrel
    by_cases hlt : i < n
    · obtain ⟨b, off, vp, vq, rfl, hb, hf1⟩ := K1.out i (by rw [hn.out]; exact hlt)
      obtain ⟨b', off', vp', vq', rfl, hb', hf2⟩ := K2.out i (by rw [hn.out]; exact hlt)
      obtain ⟨m, hm⟩ : ∃ m, Hid (ms[i]'(by rw [hn.out]; exact hlt) = m) := ⟨_, Lib.hid rfl⟩
      rw [hm.out] at hf1 hf2
      have hz := HB.out.size
      have HC1 : Hid (∀ W, Below wr.heap.size wr W → W.cell? ⟨b, off + i * 11, none⟩ = some (.int .i64 m.kind) ∧ W.cell? ⟨b, off + i * 11 + 1, none⟩ = some (.int .u32 (m.rid : Int)) ∧ W.cell? ⟨b, off + i * 11 + 2, none⟩ = some (.int .u8 (m.code : Int)) ∧ W.cell? ⟨b, off + i * 11 + 3, none⟩ = some (.bool m.has) ∧ W.cell? ⟨b, off + i * 11 + 4, none⟩ = some (.int .u64 (m.id : Int)) ∧ W.cell? ⟨b, off + i * 11 + 5, none⟩ = some (.string m.key) ∧ W.cell? ⟨b, off + i * 11 + 6, none⟩ = some (.string m.val) ∧ W.cell? ⟨b, off + i * 11 + 7, none⟩ = some (.int .u64 (m.pid : Int)) ∧ W.cell? ⟨b, off + i * 11 + 8, none⟩ = some (.int .u16 (m.pad : Int)) ∧ W.cell? ⟨b, off + i * 11 + 9, none⟩ = some (vp) ∧ W.cell? ⟨b, off + i * 11 + 10, none⟩ = some (vq)) := Lib.hid (fun W hW => by
        have h := (hf1 W (((HB.out.trans (hW.mono hz))).mono hB1)).1
        exact ⟨h 0 (by omega), h 1 (by omega), h 2 (by omega), h 3 (by omega), h 4 (by omega), h 5 (by omega), h 6 (by omega), h 7 (by omega), h 8 (by omega), h 9 (by omega), h 10 (by omega)⟩)
      have HC2 : Hid (∀ W, Below wr.heap.size wr W → W.cell? ⟨b', off' + i * 11, none⟩ = some (.int .i64 m.kind) ∧ W.cell? ⟨b', off' + i * 11 + 1, none⟩ = some (.int .u32 (m.rid : Int)) ∧ W.cell? ⟨b', off' + i * 11 + 2, none⟩ = some (.int .u8 (m.code : Int)) ∧ W.cell? ⟨b', off' + i * 11 + 3, none⟩ = some (.bool m.has) ∧ W.cell? ⟨b', off' + i * 11 + 4, none⟩ = some (.int .u64 (m.id : Int)) ∧ W.cell? ⟨b', off' + i * 11 + 5, none⟩ = some (.string m.key) ∧ W.cell? ⟨b', off' + i * 11 + 6, none⟩ = some (.string m.val) ∧ W.cell? ⟨b', off' + i * 11 + 7, none⟩ = some (.int .u64 (m.pid : Int)) ∧ W.cell? ⟨b', off' + i * 11 + 8, none⟩ = some (.int .u16 (m.pad : Int)) ∧ W.cell? ⟨b', off' + i * 11 + 9, none⟩ = some (vp') ∧ W.cell? ⟨b', off' + i * 11 + 10, none⟩ = some (vq')) := Lib.hid (fun W hW => by
        have h := (hf2 W (((HB.out.trans (hW.mono hz))).mono hB2)).1
        exact ⟨h 0 (by omega), h 1 (by omega), h 2 (by omega), h 3 (by omega), h 4 (by omega), h 5 (by omega), h 6 (by omega), h 7 (by omega), h 8 (by omega), h 9 (by omega), h 10 (by omega)⟩)
      have CS : Hid (∀ W, Below wr.heap.size wr W → Calls Try.prog 33 #[.agg #[.int .i64 m.kind, .int .u32 (m.rid : Int), .int .u8 (m.code : Int), .bool m.has, .int .u64 (m.id : Int), .string m.key, .string m.val, .int .u64 (m.pid : Int), .int .u16 (m.pad : Int), vp, vq], .agg #[.int .i64 m.kind, .int .u32 (m.rid : Int), .int .u8 (m.code : Int), .bool m.has, .int .u64 (m.id : Int), .string m.key, .string m.val, .int .u64 (m.pid : Int), .int .u16 (m.pad : Int), vp', vq']] W fun e w' => e = .returned (.bool true) ∧ Below W.heap.size W w') := Lib.hid (fun W hW => by
        have h := rmsame_any (hf1 W (((HB.out.trans (hW.mono hz))).mono hB1)).2 (hf2 W (((HB.out.trans (hW.mono hz))).mono hB2)).2
        rw [same_refl] at h
        exact h)
      have hi0 : 0 ≤ (i : Int) := by omega
      clear hf1 hf2
      go_wp2_with fail
      refine wp_region_plan (S := fun W => Below wr.heap.size wr W) [(0, true), (1, true), (2, true), (3, true), (4, true), (5, true), (6, true), (7, true), (8, false), (9, true)] (by kernel_rfl) (by kernel_rfl) rfl (by kernel_rfl) (fun _ _ _ _ _ h => h) (Below.refl _ _).drew ?_
      have HS0 : Hid (Below wr.heap.size wr wr.drew) := Lib.hid (Below.refl _ _).drew
      iterate 8
        refine along_take (v := ?_) rfl (by rfl) ?_ ?_
        rotate_left
        · intro W hW; obtain ⟨c0, c1, c2, c3, c4, c5, c6, c7, c8, c9, c10⟩ := HC1.out W hW; obtain ⟨k0, k1, k2, k3, k4, k5, k6, k7, k8, k9, k10⟩ := HC2.out W hW; clear hW; go_simp; try with_reducible rfl
        simp only [Act.put, List.setIfInBounds_toArray, List.set_cons_zero, List.set_cons_succ]
      refine along_step rfl (fun K hK => ?_)
      go_simp
      refine (CS.out _ HS0.out).mono ?_
      rintro e1 x1 ⟨rfl, hb⟩
      have HS1 : Hid (Below wr.heap.size wr x1) := Lib.hid (HS0.out.trans (hb.mono HS0.out.size))
      refine hK.out _ _ HS1.out ?_
      clear hK K hb
      try simp only [Act.put, List.setIfInBounds_toArray, List.set_cons_zero, List.set_cons_succ]
      iterate 1
        refine along_take (v := ?_) rfl (by rfl) ?_ ?_
        rotate_left
        · intro W hW; obtain ⟨c0, c1, c2, c3, c4, c5, c6, c7, c8, c9, c10⟩ := HC1.out W hW; obtain ⟨k0, k1, k2, k3, k4, k5, k6, k7, k8, k9, k10⟩ := HC2.out W hW; clear hW; go_simp; try with_reducible rfl
        simp only [Act.put, List.setIfInBounds_toArray, List.set_cons_zero, List.set_cons_succ]
      refine along_done ?_
      have HBn := Lib.hid (HB.out.trans (HS1.out.mono hz))
      go_wp2_with fail
      go_roundw
      case rel => exact ⟨i + 1, by omega, by go_num, HBn⟩
      case measure => simp [intOf]; omega
    · go_wp2_with fail
      go_ret
      exact ⟨rfl, HB.out⟩
end Go.Proofs.Ytjomchehnlnfcaa
