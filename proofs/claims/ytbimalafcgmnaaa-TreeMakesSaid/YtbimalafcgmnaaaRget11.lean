/- Contract of the reference's Get of layer 11. -/
import Derived.Test.YtbimalafcgmnaaaRtree11
namespace Go.Proofs.Ytbimalafcgmnaaa
open Go.RowKit
set_option linter.unusedVariables false
set_option maxRecDepth 100000
set_option linter.unusedSimpArgs false

theorem results_tree2 {fn : Func} {p u : Tmp} {x : Value} {tmps : Array Value} {w : World} {g : Nat} {cs : Array Value} (h : fn.results = #[.cell p 25, .tmp u])
    (hp : tmps.getD p undef = .pointer (some ⟨g, 0, none⟩)) (hx : tmps.getD u undef = x) (hg : Whole w g 25 cs) (hc : cs.size = 5) :
    (results fn tmps).run Try.prog w = .ok (.tuple #[.agg cs, x]) w := by
  subst hx
  have hp' : tmps[p]?.getD undef = .pointer (some ⟨g, 0, none⟩) := by simpa using hp
  simp [results, h, hp', asAddr, run_loadVar_row w g 25 25 cs (0, 0) _ hg Try.underlying25 rfl (treeI hc)]
abbrev Tn.zero : Tn := .mk 0 0 ⟨#[]⟩ [] []
theorem Tv.zero (w : World) (B : Nat) : Tv w B Tn.zero (.slice none 0 0) (.slice none 0 0) :=
  Tv.of (by simp [Tn.zero, Tn.kind]) (by simp [Tn.zero, Tn.n]) (by show (0 : Nat) ≤ maxLen; omega) (Sk.nil _ _) (Kv.nil _ _)
theorem Tv.one {w : World} {B : Nat} {t : Tn} {vk vq : Value} (h : Tv w B t vk vq) : vk.oneCell' = true ∧ vq.oneCell' = true := by
  obtain ⟨_, _, rfl, _⟩ := h.kids
  obtain ⟨_, _, rfl, _⟩ := h.keys
  exact ⟨rfl, rfl⟩
/-- a new variable that is a tree -/
theorem var_tree (w : World) : ∃ g w0, w.heap.size = g ∧ w.alloc (.cells #[.int .i64 0, .int .i64 0, .string ⟨#[]⟩, .slice none 0 0, .slice none 0 0] 25) = w0 ∧ Whole w0 g 25 #[.int .i64 0, .int .i64 0, .string ⟨#[]⟩, .slice none 0 0, .slice none 0 0] ∧ Below g w w0 ∧ w0.heap.size = g + 1 :=
  ⟨_, _, rfl, rfl, Whole.made _ _ _, (Below.refl _ _).alloc (Nat.le_refl _) _, by simp⟩
theorem Tn.get_kind {t : Tn} {key : ByteArray} (h : ¬ t.kind = 4) : t.get key = none := by unfold Tn.get; rw [if_neg (fun e => h e.1)]
theorem Tn.get_place {t : Tn} {key : ByteArray} (h : ¬ Tn.place t.keys key < t.keys.length) : t.get key = none := by unfold Tn.get; rw [if_neg (fun e => h e.2)]
theorem Tn.get_none {t : Tn} {key : ByteArray} (h : ¬ Tn.place t.keys key < t.kids.length) : t.get key = none := by
  unfold Tn.get
  split
  · exact List.getElem?_eq_none (by omega)
  · rfl
theorem Tn.get_some {t : Tn} {key : ByteArray} (h : t.kind = 4) (h1 : Tn.place t.keys key < t.keys.length) (h2 : Tn.place t.keys key < t.kids.length) : t.get key = some t.kids[Tn.place t.keys key] := by
  unfold Tn.get
  rw [if_pos ⟨h, h1⟩]
  exact List.getElem?_eq_getElem h2

set_option maxHeartbeats 2000000 in
theorem rget11_any {t : Tn} {w : World} {B : Nat} {vk vq : Value} (H : Tv w B t vk vq) (key : ByteArray) :
    Calls Try.prog 14 #[tval t vk vq, .string key] w fun e w' => ∃ xk xq, e = .returned (.tuple #[tval ((t.get key).getD Tn.zero) xk xq, .bool (t.get key).isSome]) ∧ Tv w' w.heap.size ((t.get key).getD Tn.zero) xk xq ∧ Below w.heap.size w w' := by
  obtain ⟨b, w1, hs, hal, hT1, hb1⟩ := boxedT H
  obtain ⟨g, w2, hg, hal2, hY, hb2, hs2⟩ := var_tree w1
  have hbg : b < g := by rw [← hg]; exact hT1.lt
  have hT := hT1.below hb2 hbg
  have HT := Lib.hid hT
  have HY := Lib.hid hY
  have HB2 : Hid (Below b w w2) := Lib.hid (hb1.trans (hb2.mono (by omega)))
  obtain ⟨c0, c1, c2, c3, c4⟩ := hT.cells
  have HC := Lib.hid (rplace_any hT.tv.keys key)
  obtain ⟨A, c, rfl, h1, h2, _, K, Q, hK⟩ := hT.tv.kids
  have HK := Lib.hid hK
  obtain ⟨Ak, ck, rfl, hSk⟩ := hT.tv.keys
  unfold maxLen at h2
  have hsk := hSk.2
  unfold maxLen at hsk
  have hpl := Tn.place_le t.keys key
  have G1 := Lib.hid (fun h => Tn.get_kind (t := t) (key := key) h)
  have G2 := Lib.hid (fun h => Tn.get_place (t := t) (key := key) h)
  have G3 := Lib.hid (fun h => Tn.get_none (t := t) (key := key) h)
  have G4 := Lib.hid (fun h h1 h2 => Tn.get_some (t := t) (key := key) h h1 h2)
  obtain ⟨r, hr⟩ : ∃ r, Hid (t.get key = r) := ⟨_, rfl⟩
  rw [hr.out] at G1 G2 G3 G4 ⊢
  obtain ⟨p, hp⟩ : ∃ p, Hid (Tn.place t.keys key = p) := ⟨_, rfl⟩
  rw [hp.out] at HC hpl G2 G3
  obtain ⟨nk, hnk⟩ : ∃ n, Hid (t.keys.length = n) := ⟨_, rfl⟩
  obtain ⟨n, hn⟩ : ∃ n, Hid (t.kids.length = n) := ⟨_, rfl⟩
  rw [hnk.out] at HC hpl G2 c3 hsk hal ⊢
  rw [hn.out] at h1 c4 hal G3 ⊢
  unfold tcells at hal
  unfold tval
  have G4' := Lib.hid (fun (h : t.kind = 4) (h1 : p < nk) (h2 : p < t.kids.length) => (by have h' := hp.out; subst h'; exact G4.out h (by rw [hnk.out]; exact h1) h2 : r = some t.kids[p]))
  clear hT1 hT H hK hSk hY hb1 hb2
  by_cases e0 : t.kind = 4
  case neg =>
    have HR := Lib.hid (G1.out e0)
    have q : (t.kind == 4) = false := by simpa using e0
    have q1 : (t.kind != 4) = true := by simpa using e0
    go_enter Try.func14, Try.ntmps14
    go_wp2_with (first | (refine wpList_store_whole rfl rfl rfl rfl rfl HY.out (treeI rfl) rfl (by simp [Value.oneCell']) ?_) | (refine (HC.out).mono ?_; rintro e w3 ⟨rfl, rfl⟩))
    refine bodyPost_ret (v := .tuple #[tval Tn.zero (.slice none 0 0) (.slice none 0 0), .bool false]) ?_ rfl ⟨.slice none 0 0, .slice none 0 0, by rw [HR.out]; rfl, by rw [HR.out]; exact Tv.zero _ _, by rw [hs]; exact below_row HB2.out (by omega) _⟩
    exact results_tree2 rfl rfl rfl (HY.out.row _) rfl
  rw [e0] at hal c0 ⊢
  by_cases e1 : p < nk
  case neg =>
    have HR := Lib.hid (G2.out e1)
    have e2 : p = nk := by omega
    subst e2
    go_enter Try.func14, Try.ntmps14
    go_wp2_with (first | (refine wpList_store_whole rfl rfl rfl rfl rfl HY.out (treeI rfl) rfl (by simp [Value.oneCell']) ?_) | (refine (HC.out).mono ?_; rintro e w3 ⟨rfl, rfl⟩))
    refine bodyPost_ret (v := .tuple #[tval Tn.zero (.slice none 0 0) (.slice none 0 0), .bool false]) ?_ rfl ⟨.slice none 0 0, .slice none 0 0, by rw [HR.out]; rfl, by rw [HR.out]; exact Tv.zero _ _, by rw [hs]; exact below_row HB2.out (by omega) _⟩
    exact results_tree2 rfl rfl rfl (HY.out.row _) rfl
  have q : ((p : Int) == (nk : Int)) = false := by simp; omega
  by_cases e2 : p < n
  case neg =>
    have HR := Lib.hid (G3.out e2)
    go_enter Try.func14, Try.ntmps14
    go_wp2_with (first | (refine wpList_store_whole rfl rfl rfl rfl rfl HY.out (treeI rfl) rfl (by simp [Value.oneCell']) ?_) | (refine (HC.out).mono ?_; rintro e w3 ⟨rfl, rfl⟩))
    refine bodyPost_ret (v := .tuple #[tval Tn.zero (.slice none 0 0) (.slice none 0 0), .bool false]) ?_ rfl ⟨.slice none 0 0, .slice none 0 0, by rw [HR.out]; rfl, by rw [HR.out]; exact Tv.zero _ _, by rw [hs]; exact below_row HB2.out (by omega) _⟩
    exact results_tree2 rfl rfl rfl (HY.out.row _) rfl
  have hpa : p < t.kids.length := by rw [hn.out]; exact e2
  have HR : Hid (r = some t.kids[p]) := Lib.hid (G4'.out e0 e1 hpa)
  obtain ⟨b1, o1, rfl, hb1, h5, hv⟩ := HK.out p hpa
  obtain ⟨u, hu⟩ : ∃ u, Hid (t.kids[p] = u) := ⟨t.kids[p], Lib.hid rfl⟩
  rw [hu.out] at h5 hv HR
  obtain ⟨Ax, cx, ex, _⟩ := hv.keys
  obtain ⟨Ay, cy, ey, _⟩ := hv.kids
  rw [ex, ey] at h5 hv
  have HV := Lib.hid hv
  obtain ⟨d0, d1, d2, d3, d4⟩ := h5
  clear hv ex ey
  go_enter Try.func14, Try.ntmps14
  go_wp2_with (first | (refine wpList_store_whole rfl rfl rfl rfl rfl HY.out (treeI rfl) rfl (by simp [Value.oneCell']) ?_) | (refine (HC.out).mono ?_; rintro e w3 ⟨rfl, rfl⟩))
  have HBR := Lib.hid (below_row HB2.out (Nat.le_of_lt hbg) #[.int .i64 u.kind, .int .i64 u.n, .string u.s, .slice Ax u.keys.length cx, .slice Ay u.kids.length cy])
  refine bodyPost_ret (v := .tuple #[tval u (.slice Ax u.keys.length cx) (.slice Ay u.kids.length cy), .bool true]) ?_ rfl ⟨_, _, by rw [HR.out]; rfl, ?_, by rw [hs]; exact HBR.out⟩
  · exact results_tree2 rfl rfl rfl (HY.out.row _) rfl
  · rw [HR.out, hs]
    exact HV.out.keep (below_row (Below.refl _ _) (Nat.le_of_lt hbg) _)
end Go.Proofs.Ytbimalafcgmnaaa
