/- Contracts of slices.Insert at strings and at trees, of one element, into a row of the call's own. -/
import Derived.Test.YtldjdoebappkoaaGreatDoorCop11
namespace Go.Proofs.YtldjdoebappkoaaGreatDoor
open Go.RowKit
set_option linter.unusedVariables false
set_option maxRecDepth 100000
set_option linter.unusedSimpArgs false

theorem Only.grown {g : Nat} {w w' : World} (h : Only g w w') : w.grownBy w' (some g) := ⟨h.os, h.tape, h.output, h.size, fun k hk hne => h.block k hk (fun e => hne (by rw [e]))⟩
theorem whole_src {w : World} {g E : Nat} {l : List Value} (h : Whole w g E l.toArray) : Src w (some ⟨g, 0, none⟩) l := fun j u hu => ⟨g, 0, rfl, by rw [Nat.zero_add, h.at_ j]; simpa using hu⟩
theorem whole_add {w : World} {g E : Nat} {l : List Value} (h : Whole w g E l.toArray) (j : Nat) (u : Value) (hu : l[j]? = some u) : w.cell? ((⟨g, 0, none⟩ : Addr).add j) = some u := by rw [Addr.add_mid, Nat.zero_add, h.at_ j]; simpa using hu
theorem own_add {w : World} {base sz g n cap o : Nat} {E : TypeId} {xs : List Value} (h : w.ownsRow base E sz (.slice (some ⟨g, 0, none⟩) n cap) n xs) (j : Nat) (u : Value) (hu : (xs.drop o)[j]? = some u) : w.cell? ((⟨g, o, none⟩ : Addr).add j) = some u := by
  rw [List.getElem?_drop] at hu
  have := h.cells (g := g) rfl (o + j) u hu
  rw [Addr.add_mid, Nat.zero_add] at this
  rw [Addr.add_mid]
  exact this
theorem zero_size (z : Array Value) (k : Nat) : (Builtin.zeroCells z k).size = k * z.size := by simp [Builtin.zeroCells]
theorem goI (n : Nat) : goInt n = .int .i64 n := rfl

set_option maxHeartbeats 4000000 in
theorem insstr_any {w : World} {base vb n i : Nat} {v : Value} {xs news : List Value} (hown : w.ownsRow base 9 1 v n xs) (hi : i ≤ n) (hn : n ≤ 1000000) (hbase : base ≤ w.heap.size)
    (hnl : news.length = 1) (h1v : ∀ u ∈ news, u.oneCell' = true) (h1c : ∀ u ∈ xs, u.oneCell' = true) (hv : Whole w vb 9 news.toArray) (hvb : ∀ g, v.ownBlock = some g → g ≠ vb) :
    Calls Tryz.prog 73 #[v, .int .i64 (i : Int), .slice (some ⟨vb, 0, none⟩) 1 1] w fun e w' => ∃ v', e = .returned v' ∧ w'.ownsRow base 9 1 v' (n + 1) (xs.take (i) ++ (news ++ xs.drop (i))) ∧ w.grownBy w' v.ownBlock ∧ (v'.ownBlock = v.ownBlock ∨ ∀ g, v'.ownBlock = some g → w.heap.size ≤ g) := by
  have hxl := hown.1
  have hsz : (Tryz.prog.info? 9).map (·.size) = some 1 := by kernel_rfl
  by_cases hin : i = n
  case pos =>
    subst hin
    have HO := Lib.hid hown
    have HS := Lib.hid (whole_src hv)
    have HNL : Hid (news.length = 1 * 1) := Lib.hid (by rw [hnl])
    have H1 := Lib.hid h1v
    have HXL := Lib.hid hxl
    obtain ⟨A, c, rfl, h1, h2, h3, _⟩ := own_look hown
    unfold maxLen at h2
    have hif : ∀ X Y : Option Addr, (if c = i then X else Y) = pickIf c i X Y := fun _ _ => rfl
    clear hown hv hnl h1v h1c hvb hxl hsz h3
    go_enter Tryz.func73, Tryz.ntmps73
    go_wp2_with (at_builtin; refine wpList_append_cells Tryz.underlying22 strZ11 rfl (by decide) (by decide) _ _ rfl rfl base _ i xs rfl HO.out 1 1 news rfl HNL.out (fun h => by cases h) (Nat.le_refl _) HS.out H1.out (by omega) hbase ?_; intro v2 w2 ho2 hg2 hl2)
    go_ret
    refine ⟨v2, rfl, ?_, hg2, ?_⟩
    · have e1 : xs.take (i) = xs := List.take_of_length_le (by have := HXL.out; omega)
      have e2 : xs.drop (i) = [] := List.drop_eq_nil_of_le (by have := HXL.out; omega)
      rw [e1, e2, List.append_nil]
      exact ho2
    · rcases hl2 with hl2 | hl2
      · exact .inl hl2
      · exact .inr fun k hk => by rw [hl2] at hk; injection hk with hk; omega
  obtain ⟨g, cap, rfl, hbg, hlt⟩ := hown.form (by omega)
  obtain ⟨cur, hcur, hcs, hnc, _, hcm⟩ := own_isrow hown
  have hne : g ≠ vb := hvb g rfl
  have hmx := hcm
  unfold maxLen at hmx
  obtain ⟨k, hk⟩ : ∃ k, i + 1 = k := ⟨_, rfl⟩
  have hdl : (xs.drop (i)).length = (n - i) * 1 := by rw [List.length_drop, hxl]; omega
  have h1d : ∀ u ∈ xs.drop (i), u.oneCell' = true := fun u hu => h1c u (List.mem_of_mem_drop hu)
  by_cases hroom : n + 1 ≤ cap
  case pos =>
    obtain ⟨t, ht, hrow⟩ := own_room hown hroom
    have hrl : (xs ++ t).length = n * 1 + 1 := by rw [List.length_append, hxl, ht]
    have hrd : w.drew.ownsRow base 9 1 (.slice (some ⟨g, 0, none⟩) (n + 1) cap) (n + 1) (xs ++ t) := hrow
    obtain ⟨W1, hW1⟩ : ∃ W1, w.drew.setCells g (k) (xs.drop (i)) = W1 := ⟨_, rfl⟩
    have hcp1 : ∀ ty dc sc, (Builtin.copy_ #[22, 22] ty #[.slice (some ⟨g, k, none⟩) (n + 1 - k) dc, .slice (some ⟨g, i, none⟩) (n + 1 - i) sc]).run Tryz.prog w.drew = .ok (goInt (Nat.min (n + 1 - i) (n + 1 - k))) W1 := fun ty dc sc => by
      rw [← hW1]
      refine run_copy_sz Tryz.underlying22 hsz hrd (k) (n + 1 - k) dc ⟨g, i, none⟩ (n + 1 - i) sc (xs.drop (i)) ?_ (fun j u hu => own_add (w := w.drew) (own_from hown ⟨Nat.le_refl _, fun _ _ _ => rfl⟩) j u hu) ?_ h1d
      · rw [hdl, show Nat.min (n + 1 - i) (n + 1 - k) = n - i from (Nat.min_eq_right (by omega)).trans (by omega)]
      · rw [hdl, hrl]; omega
    have hown1 : W1.ownsRow base 9 1 (.slice (some ⟨g, 0, none⟩) (n + 1) cap) (n + 1) (splice (xs ++ t) (k) (xs.drop (i))) := by
      rw [← hW1]
      exact own_splice _ _ hrd (by rw [hdl, hrl]; omega)
    have hsl : (splice (xs ++ t) (k) (xs.drop (i))).length = n * 1 + 1 := by rw [length_splice _ _ _ (by rw [hdl, hrl]; omega)]; exact hrl
    have hv1 : Whole W1 vb 9 news.toArray := by rw [← hW1]; exact whole_cells (w := w.drew) hv (by omega) _ _
    obtain ⟨W2, hW2⟩ : ∃ W2, W1.setCells g (i) news = W2 := ⟨_, rfl⟩
    have hcp2 : ∀ ty dc, (Builtin.copy_ #[22, 22] ty #[.slice (some ⟨g, i, none⟩) (n + 1 - i) dc, .slice (some ⟨vb, 0, none⟩) 1 1]).run Tryz.prog W1 = .ok (goInt (Nat.min 1 (n + 1 - i))) W2 := fun ty dc => by
      rw [← hW2]
      refine run_copy_sz Tryz.underlying22 hsz hown1 (i) (n + 1 - i) dc ⟨vb, 0, none⟩ 1 1 news ?_ (fun j u hu => whole_add hv1 j u hu) ?_ h1v
      · rw [hnl, show Nat.min 1 (n + 1 - i) = 1 from Nat.min_eq_left (by omega)]
      · rw [hnl, hsl]; omega
    have hown2 : W2.ownsRow base 9 1 (.slice (some ⟨g, 0, none⟩) (n + 1) cap) (n + 1) (xs.take (i) ++ (news ++ xs.drop (i))) := by
      rw [← splice_ins xs t news (i) 1 (by rw [hxl]; omega) ht hnl, ← hW2, show i + 1 = k by omega]
      exact own_splice _ _ hown1 (by rw [hnl, hsl]; omega)
    have hgr : w.grownBy W2 (some g) := by
      rw [← hW2, ← hW1]
      exact ((((Only.refl g w).drew).setCells _ _).setCells _ _).grown
    have hov : ∀ lb cb, (callFunc 93 #[.slice (some ⟨vb, 0, none⟩) 1 1, .slice (some ⟨g, k, none⟩) lb cb]).run Tryz.prog w = .ok (.value (.bool false)) w := fun lb cb => by
      rw [run_callFunc_extern Tryz.func93 (by kernel_rfl) (by kernel_rfl) (by kernel_rfl) (e := Extern.SlicesOverlaps.overlaps #[22, 22] #[4]) (by kernel_rfl),
        Lib.run_overlaps_apart w 22 4 9 Tryz.underlying22 1 (fun w => by kernel_rfl) ⟨vb, 0, none⟩ ⟨g, k, none⟩ 1 1 lb cb (fun e => hne e.symm) 9 9 news.toArray.size cur.size (by show World.shape? w vb = _; unfold World.shape?; rw [hv]) (by show World.shape? w g = _; unfold World.shape?; rw [hcur]) (by rw [hcs]; omega) (hv.free _) (hv.free _)]
      rfl
    have hw1 : IntKind.i64.wrap ((i : Int) + 1) = (k : Int) := by rw [IntKind.wrap_i64]; omega
    have hb2 : ¬ cap = k := by omega
    have hb4 : ¬ cap = i := by omega
    have hik : (i : Int) < (n : Int) := by omega
    have hkn : (k : Int) ≤ (n : Int) + 1 := by omega
    have hz2 : ((i : Int) == (n : Int)) = false := by simp; omega
    have hik3 : (i : Int) ≤ (n : Int) + 1 := by omega
    have HCP1 := Lib.hid hcp1
    have HO2 := Lib.hid hown2
    have HG := Lib.hid hgr
    have hw2 : IntKind.i64.wrap ((n : Int) + 1) = (n : Int) + 1 := by rw [IntKind.wrap_i64]; omega
    clear hown hcur hcs hrow hrd hcp1 hown1 hown2 hgr hW1 hW2 hv1 hsl hdl hrl h1d h1c h1v hnl hxl hv hvb ht hsz
    go_enter Tryz.func73, Tryz.ntmps73
    go_wp2_with (simp only [hov])
    refine wp_region_plan (S := fun _ => True) [(0, true), (1, true), (2, true), (3, true), (4, true), (5, true), (6, true), (7, true), (8, false)] (by kernel_rfl) (by kernel_rfl) rfl (by kernel_rfl) (fun _ _ _ _ _ h => h) trivial ?_
    iterate 8
      refine along_take (v := ?_) rfl (by rfl) ?_ ?_
      rotate_left
      · intro W hW
        go_simp; try with_reducible rfl
      simp only [Act.put, List.setIfInBounds_toArray, List.set_cons_zero, List.set_cons_succ]
    refine along_step rfl (fun K hK => ?_)
    refine step_copy_eq rfl _ _ 22 22 rfl rfl rfl (HCP1.out _ _ _) ?_
    refine hK.out _ _ trivial ?_
    clear hK K
    refine along_done ?_
    go_wp2_with fail
    go_ret
    exact ⟨_, rfl, HO2.out, HG.out, .inl rfl⟩
  have hcn : cap = n := by omega
  subst hcn
  obtain ⟨N, hN⟩ : ∃ N, w.heap.size = N := ⟨_, rfl⟩
  obtain ⟨i0, hi0, hz0, hzs, hzb⟩ := info_parts strZ11
  have htl : (xs.take (i)).length = i * 1 := by rw [List.length_take, hxl]; omega
  have hold : (Builtin.firstCells i0.size i (.slice (some ⟨g, 0, none⟩) i cap)).run Tryz.prog w.drew = .ok (xs.take (i)).toArray w.drew := by
    rw [hzs]
    refine run_firstCells_some w.drew 1 i ⟨g, 0, none⟩ i cap (xs.take (i)) htl (fun j u hj => ?_)
    rw [List.getElem?_take] at hj
    split at hj
    · exact hown.cells (g := g) rfl j u hj
    · cases hj
  obtain ⟨G, hG⟩ : ∃ G, grownCap w (cap + 1) cap 9 = G := ⟨_, rfl⟩
  have hG1 : cap + 1 ≤ G := by rw [← hG]; exact grownCap_ge _ _ _ _
  have hG2 : G ≤ maxLen := by rw [← hG]; exact grownCap_le_maxLen _ _ _ _ (by unfold maxLen; omega)
  obtain ⟨W1, hW1⟩ : ∃ W1, w.drew.alloc (.cells ((xs.take (i)).toArray ++ Builtin.zeroCells (Value.string ⟨#[]⟩).cells (cap + 1 - i) ++ Builtin.zeroCells (Value.string ⟨#[]⟩).cells (G - (cap + 1))) 9) = W1 := ⟨_, rfl⟩
  have hrz : ∀ ty, (Builtin.append_ #[22, 3] ty #[.slice (some ⟨g, 0, none⟩) i cap, .int .i64 ((cap : Int) + 1 - (i : Int))]).run Tryz.prog w = .ok (.slice (some ⟨N, 0, none⟩) (cap + 1) G) W1 := fun ty => by
    have h := Lib.run_append_grow_zeros w 22 3 ty 9 i0 _ .i64 .i64 Tryz.underlying22 Tryz.underlying3 hi0 hz0 (some ⟨g, 0, none⟩) i cap (xs.take (i)) hold (cap + 1 - i) (by omega) (by omega) (by omega) (by omega) (by rw [hzb]; omega) (by rw [hzb]; exact growslice_fits (by omega) (by omega))
    rw [show i + (cap + 1 - i) = cap + 1 by omega, hG, hW1, hN] at h
    rw [show (cap : Int) + 1 - (i : Int) = ((cap + 1 - i : Nat) : Int) by omega]
    exact h
  obtain ⟨z, hz⟩ : ∃ z, (Builtin.zeroCells (Value.string ⟨#[]⟩).cells (cap + 1 - i)).toList = z := ⟨_, rfl⟩
  have hzl : z.length = (cap + 1 - i) * 1 := by rw [← hz, Array.length_toList, zero_size]; rfl
  have hown1 : W1.ownsRow base 9 1 (.slice (some ⟨N, 0, none⟩) (cap + 1) G) (cap + 1) (xs.take (i) ++ z) := by
    refine ⟨by rw [List.length_append, htl, hzl]; omega, .inr ⟨N, G, (xs.take (i)).toArray ++ Builtin.zeroCells (Value.string ⟨#[]⟩).cells (cap + 1 - i) ++ Builtin.zeroCells (Value.string ⟨#[]⟩).cells (G - (cap + 1)), rfl, by omega, ?_, hG1, hG2, ?_, ?_⟩⟩
    · rw [← hW1, ← hN]
      exact heap_alloc_new w.drew _
    · have e1 : (Value.string ⟨#[]⟩).cells.size = 1 := rfl
      rw [Array.size_append, Array.size_append, zero_size, zero_size, List.size_toArray, htl, e1]
      omega
    · rw [Array.toList_append, Array.toList_append, hz, List.toList_toArray, List.take_append_of_le_length (by rw [List.length_append, htl, hzl]; omega)]
      exact List.take_of_length_le (by rw [List.length_append, htl, hzl]; omega)
  have hb1 : Below N w W1 := by rw [← hW1, ← hN]; exact (Below.refl _ _).drew.alloc (by simp) _
  have hlen1 : (xs.take (i) ++ z).length = cap * 1 + 1 := by rw [List.length_append, htl, hzl]; omega
  have hvN : vb < N := by rw [← hN]; exact hv.lt
  have hgN : g < N := by omega
  have hv1 := hv.below hb1 hvN
  obtain ⟨W2, hW2⟩ : ∃ W2, W1.setCells N (i) news = W2 := ⟨_, rfl⟩
  have hcp1 : ∀ ty dc, (Builtin.copy_ #[22, 22] ty #[.slice (some ⟨N, i, none⟩) (cap + 1 - i) dc, .slice (some ⟨vb, 0, none⟩) 1 1]).run Tryz.prog W1 = .ok (goInt (Nat.min 1 (cap + 1 - i))) W2 := fun ty dc => by
    rw [← hW2]
    refine run_copy_sz Tryz.underlying22 hsz hown1 (i) (cap + 1 - i) dc ⟨vb, 0, none⟩ 1 1 news ?_ (fun j u hu => whole_add hv1 j u hu) ?_ h1v
    · rw [hnl, show Nat.min 1 (cap + 1 - i) = 1 from Nat.min_eq_left (by omega)]
    · rw [hnl, hlen1]; omega
  have hown2 : W2.ownsRow base 9 1 (.slice (some ⟨N, 0, none⟩) (cap + 1) G) (cap + 1) (splice (xs.take (i) ++ z) (i) news) := by
    rw [← hW2]
    exact own_splice _ _ hown1 (by rw [hnl, hlen1]; omega)
  have hsl : (splice (xs.take (i) ++ z) (i) news).length = cap * 1 + 1 := by rw [length_splice _ _ _ (by rw [hnl, hlen1]; omega)]; exact hlen1
  have hb2 : Below N w W2 := by rw [← hW2]; exact below_cells (Nat.le_refl _) _ _ hb1
  have hownd : W2.drew.ownsRow base 9 1 (.slice (some ⟨N, 0, none⟩) (cap + 1) G) (cap + 1) (splice (xs.take (i) ++ z) (i) news) := hown2
  have hownx : W2.drew.ownsRow base 9 1 (.slice (some ⟨g, 0, none⟩) cap cap) cap xs := by
    have hf : From base w W2.drew := ⟨hb2.size, fun b h1 h2 => hb2.block b (by omega)⟩
    exact own_from hown hf
  obtain ⟨W3, hW3⟩ : ∃ W3, W2.drew.setCells N (k) (xs.drop (i)) = W3 := ⟨_, rfl⟩
  have hcp2 : ∀ ty dc sc, (Builtin.copy_ #[22, 22] ty #[.slice (some ⟨N, k, none⟩) (cap + 1 - k) dc, .slice (some ⟨g, i, none⟩) (cap - i) sc]).run Tryz.prog W2.drew = .ok (goInt (Nat.min (cap - i) (cap + 1 - k))) W3 := fun ty dc sc => by
    rw [← hW3]
    refine run_copy_sz Tryz.underlying22 hsz hownd (k) (cap + 1 - k) dc ⟨g, i, none⟩ (cap - i) sc (xs.drop (i)) ?_ (fun j u hu => own_add hownx j u hu) ?_ h1d
    · rw [hdl, show Nat.min (cap - i) (cap + 1 - k) = cap - i from Nat.min_eq_left (by omega)]
    · rw [hdl, hsl]; omega
  have hown3 : W3.ownsRow base 9 1 (.slice (some ⟨N, 0, none⟩) (cap + 1) G) (cap + 1) (xs.take (i) ++ (news ++ xs.drop (i))) := by
    rw [← splice_new xs z news (i) 1 (by rw [hxl]; omega) (by rw [hxl, hzl]; omega) hnl, ← hW3, show i + 1 = k by omega]
    exact own_splice _ _ hownd (by rw [hdl, hsl]; omega)
  have hgr : w.grownBy W3 (some g) := by
    have hb3 : Below N w W3 := by rw [← hW3]; exact below_cells (Nat.le_refl _) _ _ hb2.drew
    exact (Only.of_below (g := g) (by rw [hN]; exact hb3)).grown
  have hw1 : IntKind.i64.wrap ((i : Int) + 1) = (k : Int) := by rw [IntKind.wrap_i64]; omega
  unfold maxLen at hG2
  have hb3 : ¬ G = k := by omega
  have hb4 : ¬ G = i := by omega
  have hb5 : ¬ cap = i := by omega
  have hik : (i : Int) < (cap : Int) := by omega
  have hik2 : (i : Int) ≤ (cap : Int) := by omega
  have hkn : (k : Int) ≤ (cap : Int) + 1 := by omega
  have hz2 : ((i : Int) == (cap : Int)) = false := by simp; omega
  have HRZ := Lib.hid hrz
  have HCP2 := Lib.hid hcp2
  have HO3 := Lib.hid hown3
  have HG := Lib.hid hgr
  clear hown hcur hcs hold hrz hcp2 hown1 hown2 hown3 hownd hownx hgr hW1 hW2 hW3 hv1 hsl hdl hzl hz htl h1d h1c h1v hnl hxl hv hvb hsz hb1 hb2 hlen1 hi0 hz0 hzs hzb hG
  go_enter Tryz.func73, Tryz.ntmps73
  go_wp2_with (at_builtin; refine Lib.wpList_append_run _ rfl _ _ _ _ rfl _ _ rfl rfl _ _ (HRZ.out _) ?_)
  refine wp_region_plan (S := fun _ => True) [(0, true), (1, true), (2, true), (3, true), (4, true), (5, true), (6, true), (7, true), (8, false)] (by kernel_rfl) (by kernel_rfl) rfl (by kernel_rfl) (fun _ _ _ _ _ h => h) trivial ?_
  iterate 8
    refine along_take (v := ?_) rfl (by rfl) ?_ ?_
    rotate_left
    · intro W hW
      go_simp; try with_reducible rfl
    simp only [Act.put, List.setIfInBounds_toArray, List.set_cons_zero, List.set_cons_succ]
  refine along_step rfl (fun K hK => ?_)
  refine step_copy_eq rfl _ _ 22 22 rfl rfl rfl (HCP2.out _ _ _) ?_
  refine hK.out _ _ trivial ?_
  clear hK K
  refine along_done ?_
  go_wp2_with fail
  go_ret
  exact ⟨_, rfl, HO3.out, HG.out, .inr (fun j hj => by have e : some N = some j := hj; injection e with e; omega)⟩

set_option maxHeartbeats 4000000 in
theorem instree_any {w : World} {base vb n i : Nat} {v : Value} {xs news : List Value} (hown : w.ownsRow base 25 5 v n xs) (hi : i ≤ n) (hn : n ≤ 1000000) (hbase : base ≤ w.heap.size)
    (hnl : news.length = 5) (h1v : ∀ u ∈ news, u.oneCell' = true) (h1c : ∀ u ∈ xs, u.oneCell' = true) (hv : Whole w vb 25 news.toArray) (hvb : ∀ g, v.ownBlock = some g → g ≠ vb) :
    Calls Tryz.prog 74 #[v, .int .i64 (i : Int), .slice (some ⟨vb, 0, none⟩) 1 1] w fun e w' => ∃ v', e = .returned v' ∧ w'.ownsRow base 25 5 v' (n + 1) (xs.take (i * 5) ++ (news ++ xs.drop (i * 5))) ∧ w.grownBy w' v.ownBlock ∧ (v'.ownBlock = v.ownBlock ∨ ∀ g, v'.ownBlock = some g → w.heap.size ≤ g) := by
  have hxl := hown.1
  have hsz : (Tryz.prog.info? 25).map (·.size) = some 5 := by kernel_rfl
  by_cases hin : i = n
  case pos =>
    subst hin
    have HO := Lib.hid hown
    have HS := Lib.hid (whole_src hv)
    have HNL : Hid (news.length = 1 * 5) := Lib.hid (by rw [hnl])
    have H1 := Lib.hid h1v
    have HXL := Lib.hid hxl
    obtain ⟨A, c, rfl, h1, h2, h3, _⟩ := own_look hown
    unfold maxLen at h2
    have hif : ∀ X Y : Option Addr, (if c = i then X else Y) = pickIf c i X Y := fun _ _ => rfl
    clear hown hv hnl h1v h1c hvb hxl hsz h3
    go_enter Tryz.func74, Tryz.ntmps74
    go_wp2_with (at_builtin; refine wpList_append_cells Tryz.underlying23 treeZ rfl (by decide) (by decide) _ _ rfl rfl base _ i xs rfl HO.out 1 1 news rfl HNL.out (fun h => by cases h) (Nat.le_refl _) HS.out H1.out (by omega) hbase ?_; intro v2 w2 ho2 hg2 hl2)
    go_ret
    refine ⟨v2, rfl, ?_, hg2, ?_⟩
    · have e1 : xs.take (i * 5) = xs := List.take_of_length_le (by have := HXL.out; omega)
      have e2 : xs.drop (i * 5) = [] := List.drop_eq_nil_of_le (by have := HXL.out; omega)
      rw [e1, e2, List.append_nil]
      exact ho2
    · rcases hl2 with hl2 | hl2
      · exact .inl hl2
      · exact .inr fun k hk => by rw [hl2] at hk; injection hk with hk; omega
  obtain ⟨g, cap, rfl, hbg, hlt⟩ := hown.form (by omega)
  obtain ⟨cur, hcur, hcs, hnc, _, hcm⟩ := own_isrow hown
  have hne : g ≠ vb := hvb g rfl
  have hmx := hcm
  unfold maxLen at hmx
  obtain ⟨k, hk⟩ : ∃ k, i + 1 = k := ⟨_, rfl⟩
  have hdl : (xs.drop (i * 5)).length = (n - i) * 5 := by rw [List.length_drop, hxl]; omega
  have h1d : ∀ u ∈ xs.drop (i * 5), u.oneCell' = true := fun u hu => h1c u (List.mem_of_mem_drop hu)
  by_cases hroom : n + 1 ≤ cap
  case pos =>
    obtain ⟨t, ht, hrow⟩ := own_room hown hroom
    have hrl : (xs ++ t).length = n * 5 + 5 := by rw [List.length_append, hxl, ht]
    have hrd : w.drew.ownsRow base 25 5 (.slice (some ⟨g, 0, none⟩) (n + 1) cap) (n + 1) (xs ++ t) := hrow
    obtain ⟨W1, hW1⟩ : ∃ W1, w.drew.setCells g (k * 5) (xs.drop (i * 5)) = W1 := ⟨_, rfl⟩
    have hcp1 : ∀ ty dc sc, (Builtin.copy_ #[23, 23] ty #[.slice (some ⟨g, k * 5, none⟩) (n + 1 - k) dc, .slice (some ⟨g, i * 5, none⟩) (n + 1 - i) sc]).run Tryz.prog w.drew = .ok (goInt (Nat.min (n + 1 - i) (n + 1 - k))) W1 := fun ty dc sc => by
      rw [← hW1]
      refine run_copy_sz Tryz.underlying23 hsz hrd (k * 5) (n + 1 - k) dc ⟨g, i * 5, none⟩ (n + 1 - i) sc (xs.drop (i * 5)) ?_ (fun j u hu => own_add (w := w.drew) (own_from hown ⟨Nat.le_refl _, fun _ _ _ => rfl⟩) j u hu) ?_ h1d
      · rw [hdl, show Nat.min (n + 1 - i) (n + 1 - k) = n - i from (Nat.min_eq_right (by omega)).trans (by omega)]
      · rw [hdl, hrl]; omega
    have hown1 : W1.ownsRow base 25 5 (.slice (some ⟨g, 0, none⟩) (n + 1) cap) (n + 1) (splice (xs ++ t) (k * 5) (xs.drop (i * 5))) := by
      rw [← hW1]
      exact own_splice _ _ hrd (by rw [hdl, hrl]; omega)
    have hsl : (splice (xs ++ t) (k * 5) (xs.drop (i * 5))).length = n * 5 + 5 := by rw [length_splice _ _ _ (by rw [hdl, hrl]; omega)]; exact hrl
    have hv1 : Whole W1 vb 25 news.toArray := by rw [← hW1]; exact whole_cells (w := w.drew) hv (by omega) _ _
    obtain ⟨W2, hW2⟩ : ∃ W2, W1.setCells g (i * 5) news = W2 := ⟨_, rfl⟩
    have hcp2 : ∀ ty dc, (Builtin.copy_ #[23, 23] ty #[.slice (some ⟨g, i * 5, none⟩) (n + 1 - i) dc, .slice (some ⟨vb, 0, none⟩) 1 1]).run Tryz.prog W1 = .ok (goInt (Nat.min 1 (n + 1 - i))) W2 := fun ty dc => by
      rw [← hW2]
      refine run_copy_sz Tryz.underlying23 hsz hown1 (i * 5) (n + 1 - i) dc ⟨vb, 0, none⟩ 1 1 news ?_ (fun j u hu => whole_add hv1 j u hu) ?_ h1v
      · rw [hnl, show Nat.min 1 (n + 1 - i) = 1 from Nat.min_eq_left (by omega)]
      · rw [hnl, hsl]; omega
    have hown2 : W2.ownsRow base 25 5 (.slice (some ⟨g, 0, none⟩) (n + 1) cap) (n + 1) (xs.take (i * 5) ++ (news ++ xs.drop (i * 5))) := by
      rw [← splice_ins xs t news (i * 5) 5 (by rw [hxl]; omega) ht hnl, ← hW2, show i * 5 + 5 = k * 5 by omega]
      exact own_splice _ _ hown1 (by rw [hnl, hsl]; omega)
    have hgr : w.grownBy W2 (some g) := by
      rw [← hW2, ← hW1]
      exact ((((Only.refl g w).drew).setCells _ _).setCells _ _).grown
    have hov : ∀ lb cb, (callFunc 95 #[.slice (some ⟨vb, 0, none⟩) 1 1, .slice (some ⟨g, k * 5, none⟩) lb cb]).run Tryz.prog w = .ok (.value (.bool false)) w := fun lb cb => by
      rw [run_callFunc_extern Tryz.func95 (by kernel_rfl) (by kernel_rfl) (by kernel_rfl) (e := Extern.SlicesOverlaps.overlaps #[23, 23] #[4]) (by kernel_rfl),
        Lib.run_overlaps_apart w 23 4 25 Tryz.underlying23 5 (fun w => by kernel_rfl) ⟨vb, 0, none⟩ ⟨g, k * 5, none⟩ 1 1 lb cb (fun e => hne e.symm) 25 25 news.toArray.size cur.size (by show World.shape? w vb = _; unfold World.shape?; rw [hv]) (by show World.shape? w g = _; unfold World.shape?; rw [hcur]) (by rw [hcs]; omega) (hv.free _) (hv.free _)]
      rfl
    have hw1 : IntKind.i64.wrap ((i : Int) + 1) = (k : Int) := by rw [IntKind.wrap_i64]; omega
    have hb2 : ¬ cap = k := by omega
    have hb4 : ¬ cap = i := by omega
    have hik : (i : Int) < (n : Int) := by omega
    have hkn : (k : Int) ≤ (n : Int) + 1 := by omega
    have hz2 : ((i : Int) == (n : Int)) = false := by simp; omega
    have hik3 : (i : Int) ≤ (n : Int) + 1 := by omega
    have HCP1 := Lib.hid hcp1
    have HO2 := Lib.hid hown2
    have HG := Lib.hid hgr
    have hw2 : IntKind.i64.wrap ((n : Int) + 1) = (n : Int) + 1 := by rw [IntKind.wrap_i64]; omega
    clear hown hcur hcs hrow hrd hcp1 hown1 hown2 hgr hW1 hW2 hv1 hsl hdl hrl h1d h1c h1v hnl hxl hv hvb ht hsz
    go_enter Tryz.func74, Tryz.ntmps74
    go_wp2_with (simp only [hov])
    refine wp_region_plan (S := fun _ => True) [(0, true), (1, true), (2, true), (3, true), (4, true), (5, true), (6, true), (7, true), (8, false)] (by kernel_rfl) (by kernel_rfl) rfl (by kernel_rfl) (fun _ _ _ _ _ h => h) trivial ?_
    iterate 8
      refine along_take (v := ?_) rfl (by rfl) ?_ ?_
      rotate_left
      · intro W hW
        go_simp; try with_reducible rfl
      simp only [Act.put, List.setIfInBounds_toArray, List.set_cons_zero, List.set_cons_succ]
    refine along_step rfl (fun K hK => ?_)
    refine step_copy_eq rfl _ _ 23 23 rfl rfl rfl (HCP1.out _ _ _) ?_
    refine hK.out _ _ trivial ?_
    clear hK K
    refine along_done ?_
    go_wp2_with fail
    go_ret
    exact ⟨_, rfl, HO2.out, HG.out, .inl rfl⟩
  have hcn : cap = n := by omega
  subst hcn
  obtain ⟨N, hN⟩ : ∃ N, w.heap.size = N := ⟨_, rfl⟩
  obtain ⟨i0, hi0, hz0, hzs, hzb⟩ := info_parts treeZ
  have htl : (xs.take (i * 5)).length = i * 5 := by rw [List.length_take, hxl]; omega
  have hold : (Builtin.firstCells i0.size i (.slice (some ⟨g, 0, none⟩) i cap)).run Tryz.prog w.drew = .ok (xs.take (i * 5)).toArray w.drew := by
    rw [hzs]
    refine run_firstCells_some w.drew 5 i ⟨g, 0, none⟩ i cap (xs.take (i * 5)) htl (fun j u hj => ?_)
    rw [List.getElem?_take] at hj
    split at hj
    · exact hown.cells (g := g) rfl j u hj
    · cases hj
  obtain ⟨G, hG⟩ : ∃ G, grownCap w (cap + 1) cap 25 = G := ⟨_, rfl⟩
  have hG1 : cap + 1 ≤ G := by rw [← hG]; exact grownCap_ge _ _ _ _
  have hG2 : G ≤ maxLen := by rw [← hG]; exact grownCap_le_maxLen _ _ _ _ (by unfold maxLen; omega)
  obtain ⟨W1, hW1⟩ : ∃ W1, w.drew.alloc (.cells ((xs.take (i * 5)).toArray ++ Builtin.zeroCells (Value.agg #[.int .i64 0, .int .i64 0, .string ⟨#[]⟩, .slice none 0 0, .slice none 0 0]).cells (cap + 1 - i) ++ Builtin.zeroCells (Value.agg #[.int .i64 0, .int .i64 0, .string ⟨#[]⟩, .slice none 0 0, .slice none 0 0]).cells (G - (cap + 1))) 25) = W1 := ⟨_, rfl⟩
  have hrz : ∀ ty, (Builtin.append_ #[23, 3] ty #[.slice (some ⟨g, 0, none⟩) i cap, .int .i64 ((cap : Int) + 1 - (i : Int))]).run Tryz.prog w = .ok (.slice (some ⟨N, 0, none⟩) (cap + 1) G) W1 := fun ty => by
    have h := Lib.run_append_grow_zeros w 23 3 ty 25 i0 _ .i64 .i64 Tryz.underlying23 Tryz.underlying3 hi0 hz0 (some ⟨g, 0, none⟩) i cap (xs.take (i * 5)) hold (cap + 1 - i) (by omega) (by omega) (by omega) (by omega) (by rw [hzb]; omega) (by rw [hzb]; exact growslice_fits (by omega) (by omega))
    rw [show i + (cap + 1 - i) = cap + 1 by omega, hG, hW1, hN] at h
    rw [show (cap : Int) + 1 - (i : Int) = ((cap + 1 - i : Nat) : Int) by omega]
    exact h
  obtain ⟨z, hz⟩ : ∃ z, (Builtin.zeroCells (Value.agg #[.int .i64 0, .int .i64 0, .string ⟨#[]⟩, .slice none 0 0, .slice none 0 0]).cells (cap + 1 - i)).toList = z := ⟨_, rfl⟩
  have hzl : z.length = (cap + 1 - i) * 5 := by rw [← hz, Array.length_toList, zero_size]; rfl
  have hown1 : W1.ownsRow base 25 5 (.slice (some ⟨N, 0, none⟩) (cap + 1) G) (cap + 1) (xs.take (i * 5) ++ z) := by
    refine ⟨by rw [List.length_append, htl, hzl]; omega, .inr ⟨N, G, (xs.take (i * 5)).toArray ++ Builtin.zeroCells (Value.agg #[.int .i64 0, .int .i64 0, .string ⟨#[]⟩, .slice none 0 0, .slice none 0 0]).cells (cap + 1 - i) ++ Builtin.zeroCells (Value.agg #[.int .i64 0, .int .i64 0, .string ⟨#[]⟩, .slice none 0 0, .slice none 0 0]).cells (G - (cap + 1)), rfl, by omega, ?_, hG1, hG2, ?_, ?_⟩⟩
    · rw [← hW1, ← hN]
      exact heap_alloc_new w.drew _
    · have e1 : (Value.agg #[.int .i64 0, .int .i64 0, .string ⟨#[]⟩, .slice none 0 0, .slice none 0 0]).cells.size = 5 := rfl
      rw [Array.size_append, Array.size_append, zero_size, zero_size, List.size_toArray, htl, e1]
      omega
    · rw [Array.toList_append, Array.toList_append, hz, List.toList_toArray, List.take_append_of_le_length (by rw [List.length_append, htl, hzl]; omega)]
      exact List.take_of_length_le (by rw [List.length_append, htl, hzl]; omega)
  have hb1 : Below N w W1 := by rw [← hW1, ← hN]; exact (Below.refl _ _).drew.alloc (by simp) _
  have hlen1 : (xs.take (i * 5) ++ z).length = cap * 5 + 5 := by rw [List.length_append, htl, hzl]; omega
  have hvN : vb < N := by rw [← hN]; exact hv.lt
  have hgN : g < N := by omega
  have hv1 := hv.below hb1 hvN
  obtain ⟨W2, hW2⟩ : ∃ W2, W1.setCells N (i * 5) news = W2 := ⟨_, rfl⟩
  have hcp1 : ∀ ty dc, (Builtin.copy_ #[23, 23] ty #[.slice (some ⟨N, i * 5, none⟩) (cap + 1 - i) dc, .slice (some ⟨vb, 0, none⟩) 1 1]).run Tryz.prog W1 = .ok (goInt (Nat.min 1 (cap + 1 - i))) W2 := fun ty dc => by
    rw [← hW2]
    refine run_copy_sz Tryz.underlying23 hsz hown1 (i * 5) (cap + 1 - i) dc ⟨vb, 0, none⟩ 1 1 news ?_ (fun j u hu => whole_add hv1 j u hu) ?_ h1v
    · rw [hnl, show Nat.min 1 (cap + 1 - i) = 1 from Nat.min_eq_left (by omega)]
    · rw [hnl, hlen1]; omega
  have hown2 : W2.ownsRow base 25 5 (.slice (some ⟨N, 0, none⟩) (cap + 1) G) (cap + 1) (splice (xs.take (i * 5) ++ z) (i * 5) news) := by
    rw [← hW2]
    exact own_splice _ _ hown1 (by rw [hnl, hlen1]; omega)
  have hsl : (splice (xs.take (i * 5) ++ z) (i * 5) news).length = cap * 5 + 5 := by rw [length_splice _ _ _ (by rw [hnl, hlen1]; omega)]; exact hlen1
  have hb2 : Below N w W2 := by rw [← hW2]; exact below_cells (Nat.le_refl _) _ _ hb1
  have hownd : W2.drew.ownsRow base 25 5 (.slice (some ⟨N, 0, none⟩) (cap + 1) G) (cap + 1) (splice (xs.take (i * 5) ++ z) (i * 5) news) := hown2
  have hownx : W2.drew.ownsRow base 25 5 (.slice (some ⟨g, 0, none⟩) cap cap) cap xs := by
    have hf : From base w W2.drew := ⟨hb2.size, fun b h1 h2 => hb2.block b (by omega)⟩
    exact own_from hown hf
  obtain ⟨W3, hW3⟩ : ∃ W3, W2.drew.setCells N (k * 5) (xs.drop (i * 5)) = W3 := ⟨_, rfl⟩
  have hcp2 : ∀ ty dc sc, (Builtin.copy_ #[23, 23] ty #[.slice (some ⟨N, k * 5, none⟩) (cap + 1 - k) dc, .slice (some ⟨g, i * 5, none⟩) (cap - i) sc]).run Tryz.prog W2.drew = .ok (goInt (Nat.min (cap - i) (cap + 1 - k))) W3 := fun ty dc sc => by
    rw [← hW3]
    refine run_copy_sz Tryz.underlying23 hsz hownd (k * 5) (cap + 1 - k) dc ⟨g, i * 5, none⟩ (cap - i) sc (xs.drop (i * 5)) ?_ (fun j u hu => own_add hownx j u hu) ?_ h1d
    · rw [hdl, show Nat.min (cap - i) (cap + 1 - k) = cap - i from Nat.min_eq_left (by omega)]
    · rw [hdl, hsl]; omega
  have hown3 : W3.ownsRow base 25 5 (.slice (some ⟨N, 0, none⟩) (cap + 1) G) (cap + 1) (xs.take (i * 5) ++ (news ++ xs.drop (i * 5))) := by
    rw [← splice_new xs z news (i * 5) 5 (by rw [hxl]; omega) (by rw [hxl, hzl]; omega) hnl, ← hW3, show i * 5 + 5 = k * 5 by omega]
    exact own_splice _ _ hownd (by rw [hdl, hsl]; omega)
  have hgr : w.grownBy W3 (some g) := by
    have hb3 : Below N w W3 := by rw [← hW3]; exact below_cells (Nat.le_refl _) _ _ hb2.drew
    exact (Only.of_below (g := g) (by rw [hN]; exact hb3)).grown
  have hw1 : IntKind.i64.wrap ((i : Int) + 1) = (k : Int) := by rw [IntKind.wrap_i64]; omega
  unfold maxLen at hG2
  have hb3 : ¬ G = k := by omega
  have hb4 : ¬ G = i := by omega
  have hb5 : ¬ cap = i := by omega
  have hik : (i : Int) < (cap : Int) := by omega
  have hik2 : (i : Int) ≤ (cap : Int) := by omega
  have hkn : (k : Int) ≤ (cap : Int) + 1 := by omega
  have hz2 : ((i : Int) == (cap : Int)) = false := by simp; omega
  have HRZ := Lib.hid hrz
  have HCP2 := Lib.hid hcp2
  have HO3 := Lib.hid hown3
  have HG := Lib.hid hgr
  clear hown hcur hcs hold hrz hcp2 hown1 hown2 hown3 hownd hownx hgr hW1 hW2 hW3 hv1 hsl hdl hzl hz htl h1d h1c h1v hnl hxl hv hvb hsz hb1 hb2 hlen1 hi0 hz0 hzs hzb hG
  go_enter Tryz.func74, Tryz.ntmps74
  go_wp2_with (at_builtin; refine Lib.wpList_append_run _ rfl _ _ _ _ rfl _ _ rfl rfl _ _ (HRZ.out _) ?_)
  refine wp_region_plan (S := fun _ => True) [(0, true), (1, true), (2, true), (3, true), (4, true), (5, true), (6, true), (7, true), (8, false)] (by kernel_rfl) (by kernel_rfl) rfl (by kernel_rfl) (fun _ _ _ _ _ h => h) trivial ?_
  iterate 8
    refine along_take (v := ?_) rfl (by rfl) ?_ ?_
    rotate_left
    · intro W hW
      go_simp; try with_reducible rfl
    simp only [Act.put, List.setIfInBounds_toArray, List.set_cons_zero, List.set_cons_succ]
  refine along_step rfl (fun K hK => ?_)
  refine step_copy_eq rfl _ _ 23 23 rfl rfl rfl (HCP2.out _ _ _) ?_
  refine hK.out _ _ trivial ?_
  clear hK K
  refine along_done ?_
  go_wp2_with fail
  go_ret
  exact ⟨_, rfl, HO3.out, HG.out, .inr (fun j hj => by have e : some N = some j := hj; injection e with e; omega)⟩
end Go.Proofs.YtldjdoebappkoaaGreatDoor
