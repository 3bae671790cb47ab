/- Contracts of tree.Int, Text, Dict and List; a tree stored in a new variable. -/
import Derived.Test.YtldjdoebappkoaaGreatDoorCopy11
namespace Go.Proofs.YtldjdoebappkoaaGreatDoor
open Go.RowKit
set_option linter.unusedVariables false
set_option maxRecDepth 100000
set_option linter.unusedSimpArgs false

/-- a tree is stored in a new variable -/
theorem var11 {w : World} {B : Nat} {t : Tn} {vk vq : Value} (H : Tv w B t vk vq) : ∃ Ak ck Aq cq g u0 u1, vk = .slice Ak t.keys.length ck ∧ vq = .slice Aq t.kids.length cq ∧ w.heap.size = g ∧
    w.alloc (.cells #[.int .i64 0, .int .i64 0, .string ⟨#[]⟩, .slice none 0 0, .slice none 0 0] 25) = u0 ∧ Whole u0 g 25 #[.int .i64 0, .int .i64 0, .string ⟨#[]⟩, .slice none 0 0, .slice none 0 0] ∧
    u0.setRow g #[.int .i64 t.kind, .int .i64 t.n, .string t.s, .slice Ak t.keys.length ck, .slice Aq t.kids.length cq] = u1 ∧ Tb u1 g t (.slice Ak t.keys.length ck) (.slice Aq t.kids.length cq) ∧ Below g w u1 ∧ g < u1.heap.size := by
  obtain ⟨Ak, ck, rfl, _⟩ := H.keys
  obtain ⟨Aq, cq, rfl, _⟩ := H.kids
  obtain ⟨g, u0, hg, hal, hW, hb, hs⟩ := var_tree w
  have hB : Below g w (u0.setRow g #[.int .i64 t.kind, .int .i64 t.n, .string t.s, .slice Ak t.keys.length ck, .slice Aq t.kids.length cq]) := below_row hb (Nat.le_refl _) _
  refine ⟨Ak, ck, Aq, cq, g, u0, _, rfl, rfl, hg, hal, hW, rfl, ⟨hW.row _, ?_⟩, hB, by rw [size_setRow]; omega⟩
  exact Tv.keep (by rw [← hg]; exact H.all) hB
theorem Tb.all {w w' : World} {b g : Nat} {t : Tn} {vk vq : Value} (h : Tb w b t vk vq) (hb : Below g w w') (hg : b < g) : Tb w' b t vk vq := h.below hb hg
theorem tsmall {n : Nat} (h : n ≤ 100) : n ≤ maxLen := by unfold maxLen; omega
theorem tv_plain {w : World} {B : Nat} {k n : Int} {s : ByteArray} (rk : -9223372036854775808 ≤ k ∧ k ≤ 9223372036854775807) (rn : -9223372036854775808 ≤ n ∧ n ≤ 9223372036854775807) (rs : s.size ≤ maxLen) : Tv w B (.mk k n s [] []) (.slice none 0 0) (.slice none 0 0) :=
  Tv.of rk rn rs (Sk.nil _ _) (Kv.nil _ _)

theorem int11_any (n : Int) (w : World) : Calls Tryz.prog 40 #[.int .i64 n] w fun e w' => e = .returned (tval (.mk 1 n ⟨#[]⟩ [] []) (.slice none 0 0) (.slice none 0 0)) ∧ Below w.heap.size w w' := by
  obtain ⟨g, w2, hg, hal2, hY, hb2, hs2⟩ := var_tree w
  have HY := Lib.hid hY
  have HB := Lib.hid hb2
  clear hY hb2
  go_enter Tryz.func40, Tryz.ntmps40
  go_wp2_with (refine wpList_store_whole rfl rfl rfl rfl rfl HY.out (treeI rfl) rfl (by simp [Value.oneCell']) ?_)
  refine bodyPost_ret (v := tval (.mk 1 n ⟨#[]⟩ [] []) (.slice none 0 0) (.slice none 0 0)) ?_ rfl ⟨rfl, by first | exact below_row HB.out (Nat.le_refl _) _ | (rw [hg]; exact below_row HB.out (Nat.le_refl _) _)⟩
  exact results_tree rfl rfl (HY.out.row _) rfl
theorem text11_any (s : ByteArray) (w : World) : Calls Tryz.prog 37 #[.string s] w fun e w' => e = .returned (tval (.mk 2 0 s [] []) (.slice none 0 0) (.slice none 0 0)) ∧ Below w.heap.size w w' := by
  obtain ⟨g, w2, hg, hal2, hY, hb2, hs2⟩ := var_tree w
  have HY := Lib.hid hY
  have HB := Lib.hid hb2
  clear hY hb2
  go_enter Tryz.func37, Tryz.ntmps37
  go_wp2_with (refine wpList_store_whole rfl rfl rfl rfl rfl HY.out (treeI rfl) rfl (by simp [Value.oneCell']) ?_)
  refine bodyPost_ret (v := tval (.mk 2 0 s [] []) (.slice none 0 0) (.slice none 0 0)) ?_ rfl ⟨rfl, by first | exact below_row HB.out (Nat.le_refl _) _ | (rw [hg]; exact below_row HB.out (Nat.le_refl _) _)⟩
  exact results_tree rfl rfl (HY.out.row _) rfl
theorem dict11_any (w : World) : Calls Tryz.prog 36 #[] w fun e w' => e = .returned (tval (.mk 4 0 ⟨#[]⟩ [] []) (.slice none 0 0) (.slice none 0 0)) ∧ Below w.heap.size w w' := by
  obtain ⟨g, w2, hg, hal2, hY, hb2, hs2⟩ := var_tree w
  have HY := Lib.hid hY
  have HB := Lib.hid hb2
  clear hY hb2
  go_enter Tryz.func36, Tryz.ntmps36
  go_wp2_with (refine wpList_store_whole rfl rfl rfl rfl rfl HY.out (treeI rfl) rfl (by simp [Value.oneCell']) ?_)
  refine bodyPost_ret (v := tval (.mk 4 0 ⟨#[]⟩ [] []) (.slice none 0 0) (.slice none 0 0)) ?_ rfl ⟨rfl, by first | exact below_row HB.out (Nat.le_refl _) _ | (rw [hg]; exact below_row HB.out (Nat.le_refl _) _)⟩
  exact results_tree rfl rfl (HY.out.row _) rfl
abbrev Tn.listOf (l : List Tn) : Tn := .mk 3 0 ⟨#[]⟩ [] l
theorem Tn.Few.list {l : List Tn} (hl : l.length ≤ 1000000) (h : ∀ u ∈ l, u.Few) : (Tn.listOf l).Few := .mk (by simp [Tn.listOf, Tn.keys]) hl h
theorem Kv.tree {w : World} {B : Nat} {v : Value} {l : List Tn} (h : Kv w B v l) : Tv w B (Tn.listOf l) (.slice none 0 0) v :=
  Tv.of (by simp [Tn.listOf, Tn.kind]) (by simp [Tn.listOf, Tn.n]) (tsmall (by simp [Tn.listOf, Tn.s, ByteArray.size])) (Sk.nil _ _) h
theorem list11_at {w : World} {B : Nat} {v : Value} {l : List Tn} (h : Kv w B v l) (hl : l.length ≤ 1000000) (hf : ∀ u ∈ l, u.Few) :
    Calls Tryz.prog 76 #[v] w fun e w' => ∃ uk uq, e = .returned (tval (Tn.listOf l) uk uq) ∧ Tl w' w.heap.size (Tn.listOf l) uk uq ∧ Below w.heap.size w w' := by
  obtain ⟨g, w2, hg, hal2, hY, hb2, hs2⟩ := var_tree w
  have HY := Lib.hid hY
  have HB := Lib.hid hb2
  have hT : Tv w w.heap.size (Tn.listOf l) (.slice none 0 0) v := h.tree.all
  have hT2 := hT.keep (by rw [hg]; exact hb2)
  have C := Lib.hid (copy11_any (SizeOf.sizeOf (Tn.listOf l) + 1) _ (Nat.lt_succ_self _) (Tn.Few.list hl hf) hT2)
  obtain ⟨A, c, rfl, _⟩ := h
  unfold tval Tn.listOf Tn.kind Tn.n Tn.s at C
  unfold tval
  simp only [] at C
  clear hY hb2 hT hT2 hf
  go_enter Tryz.func76, Tryz.ntmps76
  go_wp2_with fail
  refine (C.out).mono ?_
  rintro e w3 ⟨uk, uq, rfl, hc3, hb3⟩
  obtain ⟨kA, kc, ek, _⟩ := hc3.tv.keys
  obtain ⟨qA, qc, eq, _⟩ := hc3.tv.kids
  subst ek eq
  have HY3 := Lib.hid (HY.out.below hb3 (by omega))
  have hcs : Tv w3 w3.heap.size (Tn.listOf l) (.slice kA 0 kc) (.slice qA l.length qc) := hc3.tv
  have HT3 : Hid (∀ W, Below w3.heap.size w3 W → True) := Lib.hid (fun _ _ => trivial)
  have HR : Hid (∀ cs, Tl (w3.setRow g cs) w.heap.size (Tn.listOf l) (.slice kA 0 kc) (.slice qA l.length qc)) := Lib.hid (fun cs => (hc3.from_ ((From.refl w2.heap.size w3).setRow (show g < w2.heap.size by omega) cs)).tl.less (by omega))
  have HB3 := Lib.hid (HB.out.trans (hb3.mono (by omega)))
  clear hc3 hb3 hcs HT3
  go_wp2_with (refine wpList_store_whole rfl rfl rfl rfl rfl HY3.out (treeI rfl) rfl (by simp [Value.oneCell']) ?_)
  refine bodyPost_ret (v := tval (Tn.listOf l) (.slice kA 0 kc) (.slice qA l.length qc)) ?_ rfl ⟨_, _, rfl, HR.out _, by first | exact below_row HB3.out (Nat.le_refl _) _ | (rw [hg]; exact below_row HB3.out (Nat.le_refl _) _)⟩
  exact results_tree rfl rfl (HY3.out.row _) rfl
theorem list11_any {w : World} {B : Nat} {v : Value} {l : List Tn} (h : Kv w B v l) (hl : l.length ≤ 1000000) (hf : ∀ u ∈ l, u.Few) :
    Calls Tryz.prog 76 #[v] w fun e w' => ∃ uk uq, e = .returned (tval (Tn.listOf l) uk uq) ∧ Tv w' w'.heap.size (Tn.listOf l) uk uq ∧ Below w.heap.size w w' :=
  (list11_at h hl hf).mono (fun e w' ⟨vk', vq', h1, h2, h3⟩ => ⟨vk', vq', h1, h2.tv, h3⟩)
end Go.Proofs.YtldjdoebappkoaaGreatDoor
