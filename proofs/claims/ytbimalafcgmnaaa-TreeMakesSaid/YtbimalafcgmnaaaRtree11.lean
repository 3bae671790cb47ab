/- Contracts of the reference's functions of layer 11 over trees: Same, Depth, Get. -/
import Derived.Test.YtbimalafcgmnaaaRtx11
namespace Go.Proofs.Ytbimalafcgmnaaa
open Go.RowKit
set_option linter.unusedVariables false
set_option maxRecDepth 100000

/-- a tree's value -/
abbrev tval (t : Tn) (vk vq : Value) : Value := .agg #[.int .i64 t.kind, .int .i64 t.n, .string t.s, vk, vq]
/-- the cells of a tree's box -/
abbrev tcells (t : Tn) (vk vq : Value) : Array Value := #[.int .i64 t.kind, .int .i64 t.n, .string t.s, vk, vq]
/-- a tree in a block of its own -/
structure Tb (w : World) (b : Nat) (t : Tn) (vk vq : Value) : Prop where
  bx : Whole w b 25 (tcells t vk vq)
  tv : Tv w b t vk vq
section
variable {w w' : World} {B b : Nat} {t : Tn} {vk vq : Value}
theorem Tb.cells (h : Tb w b t vk vq) : w.cell? ⟨b, 0, none⟩ = some (.int .i64 t.kind) ∧ w.cell? ⟨b, 1, none⟩ = some (.int .i64 t.n) ∧ w.cell? ⟨b, 2, none⟩ = some (.string t.s) ∧ w.cell? ⟨b, 3, none⟩ = some vk ∧ w.cell? ⟨b, 4, none⟩ = some vq :=
  ⟨h.bx.at_ 0, h.bx.at_ 1, h.bx.at_ 2, h.bx.at_ 3, h.bx.at_ 4⟩
theorem Tb.lt (h : Tb w b t vk vq) : b < w.heap.size := h.bx.lt
theorem Tb.keep (h : Tb w b t vk vq) (hb : Below w.heap.size w w') : Tb w' b t vk vq := ⟨h.bx.below hb h.lt, h.tv.keep (hb.mono (by have := h.lt; omega))⟩
theorem Tb.below {C : Nat} (h : Tb w b t vk vq) (hb : Below C w w') (hC : b < C) : Tb w' b t vk vq := ⟨h.bx.below hb hC, h.tv.keep (hb.mono (by omega))⟩
/-- an argument that is boxed -/
theorem boxedT (h : Tv w B t vk vq) : ∃ b w0, w.heap.size = b ∧ w.alloc (.cells (tcells t vk vq) 25) = w0 ∧ Tb w0 b t vk vq ∧ Below b w w0 := by
  have B0 : Below w.heap.size w (w.alloc (.cells (tcells t vk vq) 25)) := (Below.refl _ _).alloc (Nat.le_refl _) _
  exact ⟨_, _, rfl, rfl, ⟨Whole.made _ _ _, h.all.keep B0⟩, B0⟩
theorem Tn.ext_iff {a b : Tn} : a = b ↔ a.kind = b.kind ∧ a.n = b.n ∧ a.s = b.s ∧ a.keys = b.keys ∧ a.kids = b.kids :=
  ⟨fun h => by subst h; exact ⟨rfl, rfl, rfl, rfl, rfl⟩, fun h => Tn.ext h.1 h.2.1 h.2.2.1 h.2.2.2.1 h.2.2.2.2⟩
theorem treeI {cs : Array Value} (h : cs.size = 5) : (Try.prog.info? 25).map (·.size) = some cs.size := by rw [h]; kernel_rfl
end
theorem Tn.depths_take {l : List Tn} {i : Nat} (h : i < l.length) : Tn.depths (l.take (i + 1)) = max (Tn.depths (l.take i)) l[i].depth := by
  rw [List.take_succ_eq_append_getElem h]
  generalize l.take i = m
  induction m with
  | nil => simp [Tn.depths]
  | cons a m ih => rw [List.cons_append, Tn.depths, Tn.depths, ih]; omega

set_option maxHeartbeats 1000000 in
theorem rdepth_any (k : Nat) : ∀ (t : Tn), SizeOf.sizeOf t < k → t.depth ≤ 1000000 → ∀ {w : World} {B : Nat} {vk vq : Value}, Tv w B t vk vq →
    Calls Try.prog 12 #[tval t vk vq] w fun e w' => e = .returned (.int .i64 (t.depth : Int)) ∧ Below w.heap.size w w' := by
  induction k with
  | zero => intro t h; omega
  | succ k ih =>
    intro t hk hd w B vk vq H
    obtain ⟨b, w0, hs, hal, hT, hb0⟩ := boxedT H
    have HT := Lib.hid hT
    have HB0 := Lib.hid hb0
    obtain ⟨A, c, rfl, h1, h2, _, K, Q, hK⟩ := hT.tv.kids
    unfold maxLen at h2
    have HK := Lib.hid hK
    have IH := Lib.hid (fun i (hi : i < t.kids.length) (hd : t.kids[i].depth ≤ 1000000) {w : World} {B : Nat} {vk vq : Value} (h : Tv w B t.kids[i] vk vq) => ih t.kids[i] (by have := Tn.kid_lt hi; omega) hd h)
    have HD : Hid (t.depth = 1 + Tn.depths t.kids) := Lib.hid t.depth_eq
    have HDL := Lib.hid (fun i (hi : i < t.kids.length) => (Tn.depths_le (List.getElem_mem hi) : t.kids[i].depth ≤ Tn.depths t.kids))
    have HTk := Lib.hid (fun i (hi : i < t.kids.length) => Tn.depths_take hi)
    have hd1 : Tn.depths t.kids ≤ 999999 := by have := HD.out; omega
    obtain ⟨n, hn⟩ : ∃ n, Hid (t.kids.length = n) := ⟨_, rfl⟩
    rw [hn.out] at h1
    clear hT hb0 hK H
    go_enter Try.func12, Try.ntmps12
    go_wp2_with fail
    go_loopw [3, 4] (fun vm vi wr => ∃ (i d : Nat), i ≤ n ∧ vi = .int .i64 i ∧ vm = .int .i64 d ∧ Hid (d = 1 + Tn.depths (t.kids.take i)) ∧ Hid (Below b w wr) ∧ Hid (Below w0.heap.size w0 wr)) (fun _ vi _ => n - (intOf vi).toNat)
    case atStart => exact ⟨0, 1, by omega, rfl, rfl, Lib.hid (by simp [Tn.depths]), HB0, Lib.hid (Below.refl _ _)⟩
    case round =>
      obtain ⟨i, d, hi, rfl, rfl, HM, HB, HC⟩ := hrel
      have c4 := (HT.out.keep HC.out).cells.2.2.2.2
      rw [hn.out] at c4
      by_cases hlt : i < n
      · have hia : i < t.kids.length := by rw [hn.out]; exact hlt
        obtain ⟨b1, o1, rfl, hb1, h5, hv⟩ := HK.out i hia
        have hw : Below b w0 wr := HC.out.mono (by have := HT.out.lt; omega)
        have h5' := h5.below hw hb1
        have hdi := HDL.out i hia
        have C := Lib.hid (IH.out i hia (by omega) (hv.keep hw))
        have HTi := Lib.hid (HTk.out i hia)
        obtain ⟨u, hu⟩ : ∃ u, Hid (t.kids[i] = u) := ⟨t.kids[i], Lib.hid rfl⟩
        rw [hu.out] at h5' C HTi hdi
        obtain ⟨e0, e1, e2, e3, e4⟩ := h5'
        obtain ⟨dk, hdk⟩ : ∃ dk, Hid (u.depth = dk) := ⟨_, rfl⟩
        rw [hdk.out] at C HTi hdi
        clear h5 hv hw
        by_cases hgt : d < 1 + dk
        · go_wp2_with fail
          refine (C.out).mono ?_
          rintro e w2 ⟨rfl, hb2⟩
          have HB2 := Lib.hid (HB.out.trans (hb2.mono (by have := HB.out.size; omega)))
          have HC2 := Lib.hid (HC.out.trans (hb2.mono HC.out.size))
          clear hb2
          go_wp2_with fail
          go_roundw
          case rel => exact ⟨i + 1, 1 + dk, by omega, by go_num, by go_num, Lib.hid (by rw [HTi.out]; have := HM.out; omega), HB2, HC2⟩
          case measure => simp [intOf]; omega
        · go_wp2_with fail
          refine (C.out).mono ?_
          rintro e w2 ⟨rfl, hb2⟩
          have HB2 := Lib.hid (HB.out.trans (hb2.mono (by have := HB.out.size; omega)))
          have HC2 := Lib.hid (HC.out.trans (hb2.mono HC.out.size))
          clear hb2
          go_wp2_with fail
          go_roundw
          case rel => exact ⟨i + 1, d, by omega, by go_num, rfl, Lib.hid (by rw [HTi.out]; have := HM.out; omega), HB2, HC2⟩
          case measure => simp [intOf]; omega
      · have hin : i = t.kids.length := by rw [hn.out]; omega
        go_wp2_with fail
        go_ret
        refine ⟨ret_int ?_, by rw [hs]; exact HB.out⟩
        have := HM.out
        rw [hin, List.take_length] at this
        rw [HD.out, ← this]
end Go.Proofs.Ytbimalafcgmnaaa
