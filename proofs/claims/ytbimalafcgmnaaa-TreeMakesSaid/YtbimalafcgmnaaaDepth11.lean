/- Contracts of tree.Depth, isRising, hasOwnFieldsAlone, rightAlone, rightOn and Right. -/
import Derived.Test.YtbimalafcgmnaaaIdx11
import Derived.Test.YtbimalafcgmnaaaRright11
namespace Go.Proofs.Ytbimalafcgmnaaa
open Go.RowKit
set_option linter.unusedVariables false
set_option maxRecDepth 100000
set_option linter.unusedSimpArgs false

set_option maxHeartbeats 1000000 in
theorem depth11_any (k : Nat) : ∀ (t : Tn), SizeOf.sizeOf t < k → t.depth ≤ 1000000 → ∀ {w : World} {B : Nat} {vk vq : Value}, Tv w B t vk vq →
    Calls Try.prog 11 #[tval t vk vq] w fun e w' => e = .returned (.int .i64 (t.depth : Int)) ∧ Below w.heap.size w w' := by
  induction k with
  | zero => intro t h; omega
  | succ k ih =>
    intro t hk hd w B vk vq H
    obtain ⟨b, w0, hs, hal, hT, hb0⟩ := boxedT H
    have HT := Lib.hid hT
    have HB0 := Lib.hid hb0
    obtain ⟨A, c, rfl, h1, h2, _, K, Q, hK⟩ := hT.tv.kids
    unfold maxLen at h2
    have HK := Lib.hid hK
    have IH := Lib.hid (fun i (hi : i < t.kids.length) (hd : t.kids[i].depth ≤ 1000000) {w : World} {B : Nat} {vk vq : Value} (h : Tv w B t.kids[i] vk vq) => ih t.kids[i] (by have := Tn.kid_lt hi; omega) hd h)
    have HD : Hid (t.depth = 1 + Tn.depths t.kids) := Lib.hid t.depth_eq
    have HDL := Lib.hid (fun i (hi : i < t.kids.length) => (Tn.depths_le (List.getElem_mem hi) : t.kids[i].depth ≤ Tn.depths t.kids))
    have HTk := Lib.hid (fun i (hi : i < t.kids.length) => Tn.depths_take hi)
    have hd1 : Tn.depths t.kids ≤ 999999 := by have := HD.out; omega
    have hbt := hT.lt
    obtain ⟨n, hn⟩ : ∃ n, Hid (t.kids.length = n) := ⟨_, rfl⟩
    rw [hn.out] at h1 hal ⊢
    have c4 : w0.cell? ⟨b, 4, none⟩ = some (.slice A n c) := by rw [← hn.out]; exact hT.cells.2.2.2.2
    unfold tcells at hal
    unfold tval
    clear hT hb0 hK H
    go_enter Try.func11, Try.ntmps11
    go_wp2_with fail
    go_loopw [3, 9] (fun vm vi wr => ∃ (i d : Nat), i ≤ n ∧ vi = .int .i64 i ∧ vm = .int .i64 d ∧ d ≤ 999999 ∧ Hid (d = Tn.depths (t.kids.take i)) ∧ Hid (Below b w wr) ∧ Hid (Below w0.heap.size w0 wr)) (fun _ vi _ => n - (intOf vi).toNat)
    case atStart => exact ⟨0, 0, by omega, rfl, rfl, by omega, Lib.hid (by simp [Tn.depths]), HB0, Lib.hid (Below.refl _ _)⟩
    case round =>
      obtain ⟨i, d, hi, rfl, rfl, hd9, HM, HB, HC⟩ := hrel
      by_cases hlt : i < n
      · have hia : i < t.kids.length := by rw [hn.out]; exact hlt
        obtain ⟨b1, o1, rfl, hb1, h5, hv⟩ := HK.out i hia
        have hw : Below b w0 wr := HC.out.mono (by omega)
        have h5' := h5.below hw hb1
        have hdi := HDL.out i hia
        have C := Lib.hid (fun W (h : Below b w0 W) => IH.out i hia (by omega) (hv.keep h))
        have HTi := Lib.hid (HTk.out i hia)
        obtain ⟨xA, xc, ex, _⟩ := hv.keys
        obtain ⟨yA, yc, ey, _⟩ := hv.kids
        rw [ex, ey] at h5' C
        obtain ⟨u, hu⟩ : ∃ u, Hid (t.kids[i] = u) := ⟨t.kids[i], Lib.hid rfl⟩
        rw [hu.out] at h5' C HTi hdi
        obtain ⟨e0, e1, e2, e3, e4⟩ := h5'
        obtain ⟨dk, hdk⟩ : ∃ dk, Hid (u.depth = dk) := ⟨_, rfl⟩
        rw [hdk.out] at C HTi hdi
        obtain ⟨gk, wk, hgk, halk, hYk, hbk, hsk⟩ := var_tree wr
        have HYk := Lib.hid hYk
        have hW : Below b w0 (wk.setRow gk #[.int .i64 u.kind, .int .i64 u.n, .string u.s, .slice xA u.keys.length xc, .slice yA u.kids.length yc]) := below_row (hw.trans (hbk.mono (by have := HB.out.size; have := HC.out.size; omega))) (by have := HC.out.size; omega) _
        have HC2 := Lib.hid (C.out _ hW)
        have hs1 := HB.out.size
        have hs2 := HC.out.size
        have HBk := Lib.hid (below_row (HB.out.trans (hbk.mono (by omega))) (show b ≤ gk by omega) #[.int .i64 u.kind, .int .i64 u.n, .string u.s, .slice xA u.keys.length xc, .slice yA u.kids.length yc])
        have HCk := Lib.hid (below_row (HC.out.trans (hbk.mono (by omega))) (show w0.heap.size ≤ gk by omega) #[.int .i64 u.kind, .int .i64 u.n, .string u.s, .slice xA u.keys.length xc, .slice yA u.kids.length yc])
        clear h5 hv hw C ex ey hYk hW hbk
        obtain ⟨w7, hw7⟩ : ∃ w7, wk.setRow gk #[.int .i64 u.kind, .int .i64 u.n, .string u.s, .slice xA u.keys.length xc, .slice yA u.kids.length yc] = w7 := ⟨_, rfl⟩
        have hk7 : Whole w7 gk 25 #[.int .i64 u.kind, .int .i64 u.n, .string u.s, .slice xA u.keys.length xc, .slice yA u.kids.length yc] := by rw [← hw7]; exact HYk.out.row _
        rw [hw7] at HC2 HBk HCk
        have m0 := hk7.at_ 0
        have m1 := hk7.at_ 1
        have m2 := hk7.at_ 2
        have m3 := hk7.at_ 3
        have m4 := hk7.at_ 4
        simp at m0 m1 m2 m3 m4
        clear hk7
        by_cases hgt : d < dk
        · go_wp2_with (first | (refine wpList_store_whole rfl rfl rfl rfl rfl HYk.out (treeI rfl) rfl (by simp [Value.oneCell']) ?_) | (refine (HC2.out).mono ?_; rintro e w8 ⟨rfl, hb8⟩))
          have HB8 := Lib.hid (HBk.out.trans (hb8.mono (by have := HBk.out.size; omega)))
          have HC8 := Lib.hid (HCk.out.trans (hb8.mono HCk.out.size))
          clear hb8 m0 m1 m2 m3 m4
          go_roundw
          case rel => exact ⟨i + 1, dk, by omega, by go_num, by go_num, by omega, Lib.hid (by rw [HTi.out]; have := HM.out; omega), HB8, HC8⟩
          case measure => simp [intOf]; omega
        · go_wp2_with (first | (refine wpList_store_whole rfl rfl rfl rfl rfl HYk.out (treeI rfl) rfl (by simp [Value.oneCell']) ?_) | (refine (HC2.out).mono ?_; rintro e w8 ⟨rfl, hb8⟩))
          have HB8 := Lib.hid (HBk.out.trans (hb8.mono (by have := HBk.out.size; omega)))
          have HC8 := Lib.hid (HCk.out.trans (hb8.mono HCk.out.size))
          clear hb8 m0 m1 m2 m3 m4
          go_roundw
          case rel => exact ⟨i + 1, d, by omega, by go_num, by go_num, by omega, Lib.hid (by rw [HTi.out]; have := HM.out; omega), HB8, HC8⟩
          case measure => simp [intOf]; omega
      · have hin : i = t.kids.length := by rw [hn.out]; omega
        go_wp2_with fail
        go_ret
        refine ⟨ret_int ?_, by rw [hs]; exact HB.out⟩
        have := HM.out
        rw [hin, List.take_length] at this
        rw [HD.out, ← this]
        omega
end Go.Proofs.Ytbimalafcgmnaaa
