/- The walk of the law BufPuts: it answers true, and nothing that was there has turned. -/
import Derived.Test.YtigkgbknlclpgaaAwake6
import Derived.Test.YtigkgbknlclpgaaFrame
namespace Go.Proofs.Ytigkgbknlclpgaa
open Go.RowKit
set_option linter.unusedVariables false

set_option maxRecDepth 100000 in
set_option maxHeartbeats 800000 in
theorem bufPuts_walk (a : Option Addr) (len cap : Nat) (l : List Nat) (n s : Int) (t : ByteArray) (w : World) (h : Row .u8 w a len cap l) (wn : (Lit.int .u64 n).wf = true) (ws : (Lit.int .i64 s).wf = true) (wt : t.size ≤ 9223372036854775807) :
    Calls Try.prog 3 #[.slice a len cap, .int .u64 n, .int .i64 s, .string t] w fun e w' => e = .returned (.bool true) ∧ Below w.heap.size w w' := by
  obtain ⟨hl, hs, _, hle, hm, hnull⟩ := h
  unfold maxLen at hm
  obtain ⟨h0, h1⟩ := bounds_u64 wn
  obtain ⟨hs1, hs2⟩ := bounds_i64 ws
  clear wn ws
  obtain ⟨n, rfl⟩ := Int.eq_ofNat_of_zero_le h0
  have hlen : len ≤ 9223372036854775807 := by omega
  have T := Txt.nums t
  have hsz := T.size
  by_cases h300 : 300 < len ∨ 300 < t.size
  · by_cases h301 : 300 < len
    all_goals
      have h302 : 300 < len ∨ 300 < t.size := h300
      try have h303 : 300 < t.size := by omega
      clear T hsz h300
      go_enter Try.func3, Try.ntmps3
      go_wp2_with fail
      refine (awake6_any _).mono ?_
      rintro e w1 ⟨rfl, hb⟩
      have HB := Lib.hid hb
      clear hb
      go_wp2_with fail
      go_ret
      exact ⟨rfl, HB.out⟩
  · have h301 : ¬ 300 < len := by omega
    have h302 : ¬ 300 < t.size := by omega
    obtain ⟨m, Hm⟩ : ∃ m, Hid (nums t = m) := ⟨_, rfl⟩
    rw [Hm.out] at T hsz
    have Hl := Lib.hid hl
    have Hs := Lib.hid hs
    have C0 : Hid (∀ W, Below w.heap.size w W → (convert 22 9 (.slice a len cap)).run Try.prog W = .ok (.string (strOf l)) W) := fun W hW =>
      conv_sees Try.underlying22 Try.underlying5 Try.underlying9 len cap Hl.out (Hs.out.below hW)
    have D1 := Lib.hid (fun W v (hW : Below w.heap.size w W) (ho : W.ownsRow w.heap.size 5 1 v l.length (ints .u8 l)) => fix_any w.heap.size v l n s W (by omega) hs1 hs2 ho hW.size (by rw [Hl.out]; omega))
    have D2 := Lib.hid (fun W => fixr_any n s W (by omega) hs1 hs2)
    have D3 := Lib.hid (fun base W v (hW : base ≤ W.heap.size) (ho : W.ownsRow base 5 1 v l.length (ints .u8 l)) => text_any base v l T (by omega) W ho hW (by rw [Hl.out]; omega))
    have D4 := Lib.hid (fun W => textr_any T (by omega) W)
    have hf8 := Bm.fixI_le n s
    obtain ⟨F, HF⟩ : ∃ F, Hid (Bm.fixI n s = F) := ⟨_, rfl⟩
    rw [HF.out] at D1 D2 hf8
    have hp10 : (Um.put m.length).length ≤ 10 := Um.enc_le 9 m.length
    have hg : (Um.put m.length ++ m).length ≤ 310 := by rw [List.length_append]; omega
    obtain ⟨G, HG⟩ : ∃ G, Hid (Um.put m.length ++ m = G) := ⟨_, rfl⟩
    rw [HG.out] at D3 D4 hg
    have hcat1 : ¬ 9223372036854775807 < (strOf l).size + (strOf F).size := by rw [strOf_size, strOf_size, Hl.out]; omega
    have hcat2 : ¬ 9223372036854775807 < (strOf l).size + (strOf G).size := by rw [strOf_size, strOf_size, Hl.out]; omega
    have hjoin1 := strOf_append l F
    have hjoin2 := strOf_append l G
    clear hl hs T hsz h300 hp10 hs1 hs2
    go_enter Try.func3, Try.ntmps3
    go_wp2_with fail
    refine wp_region_plans (fun W => Below w.heap.size w W) [(1, true), (3, true), (4, true), (7, true), (8, true), (9, true), (10, true), (0, false), (2, false), (5, false), (6, true), (11, false), (12, true), (13, true), (14, true), (15, true), (17, true), (19, true), (22, true), (23, true), (24, true), (16, false), (18, false), (20, false), (21, true), (25, false), (26, true), (27, true), (28, true), (29, true), (30, true), (31, false), (32, true), (33, true)] (by kernel_rfl) (by kernel_rfl) rfl (by kernel_rfl) (fun _ _ _ _ _ h => h) (Below.refl _ _).drew ?_
    iterate 7
      refine alongs_take (v := ?_) rfl (by rfl) ?_ ?_
      rotate_left
      · intro W hW; have c := C0.out W hW; go_simp; try with_reducible rfl
      simp only [Act.put, List.setIfInBounds_toArray, List.set_cons_zero, List.set_cons_succ]
    refine alongs_step rfl (fun K hK => ?_)
    go_simp
    refine hK.out _ _ _ (fun W hW => hW) (((Below.refl _ _).drew).alloc (by simp) _) ?_
    clear hK K
    try simp only [Act.put, List.setIfInBounds_toArray, List.set_cons_zero, List.set_cons_succ]
    have ho0 : (w.alloc (.cells #[] 5)).drew.ownsRow w.heap.size 5 1 (.slice (some ⟨w.heap.size, 0, none⟩) 0 0) 0 [] := World.ownsRow_lit w #[] 0 (Nat.le_refl _) (by decide) rfl
    refine alongs_step rfl (fun K hK => ?_)
    refine step_append_row byteT _ _ rfl rfl w.heap.size _ 0 [] rfl ho0 len cap rfl Hl.out hnull (Hs.out.below (((Below.refl _ _).alloc (Nat.le_refl _) _).drew)) (by omega) (by simp) ?_
    intro v2 w2 ho2 hg2
    rw [Nat.zero_add, List.nil_append, ← Hl.out] at ho2
    have hb2 : Below w.heap.size w w2 := (((Below.refl _ _).alloc (Nat.le_refl _) _).drew).grown hg2 (by simp) (fun k hk => (ho0.lt k hk).1)
    refine hK.out _ _ _ (fun W hW => hW) hb2 ?_
    clear hK K hg2 ho0
    try simp only [Act.put, List.setIfInBounds_toArray, List.set_cons_zero, List.set_cons_succ]
    refine alongs_step rfl (fun K hK => ?_)
    go_simp
    refine (D1.out w2 v2 hb2 ho2).mono ?_
    rintro e w3 ⟨v3, rfl, ho3, hb3⟩
    have hb3' : Below w.heap.size w w3 := hb2.trans hb3
    have C3 : Hid (∀ W, Below w3.heap.size w3 W → (convert 22 9 v3).run Try.prog W = .ok (.string (strOf (l ++ F))) W) := fun W hW =>
      conv_own Try.underlying22 Try.underlying5 Try.underlying9 (own_below ho3 hW)
    refine hK.out (fun W => Below w3.heap.size w3 W) _ _ (fun W hW => hb3'.trans (hW.mono hb3'.size)) (Below.refl _ _) ?_
    clear hK K hb3 ho2 hb2
    have HB3 := Lib.hid hb3'
    clear hb3' ho3
    refine alongs_take (v := ?_) rfl (by rfl) ?_ ?_
    rotate_left
    · intro W hW; have c := C3.out W hW; go_simp; try with_reducible rfl
    simp only [Act.put, List.setIfInBounds_toArray, List.set_cons_zero, List.set_cons_succ]
    refine alongs_step rfl (fun K hK => ?_)
    go_simp
    refine (D2.out w3).mono ?_
    rintro e w4 ⟨v4, rfl, ho4, hb4⟩
    have C4 : Hid (∀ W, Below w4.heap.size w4 W → (convert 22 9 v4).run Try.prog W = .ok (.string (strOf F)) W) := fun W hW =>
      conv_own Try.underlying22 Try.underlying5 Try.underlying9 (own_below ho4 hW)
    refine hK.out (fun W => Below w4.heap.size w4 W) _ _ (fun W hW => hb4.trans (hW.mono hb4.size)) (Below.refl _ _) ?_
    clear hK K C3
    have HB4 := Lib.hid (HB3.out.trans (hb4.mono HB3.out.size))
    clear hb4 ho4
    iterate 9
      refine alongs_take (v := ?_) rfl (by rfl) ?_ ?_
      rotate_left
      · intro W hW; have c := C4.out W hW; have c0 := C0.out W (HB4.out.trans (hW.mono HB4.out.size)); go_simp; try with_reducible rfl
      simp only [Act.put, List.setIfInBounds_toArray, List.set_cons_zero, List.set_cons_succ]
    refine alongs_step rfl (fun K hK => ?_)
    go_simp
    refine hK.out _ _ _ (fun W hW => hW) ((Below.refl _ _).alloc (Nat.le_refl _) _) ?_
    clear hK K
    try simp only [Act.put, List.setIfInBounds_toArray, List.set_cons_zero, List.set_cons_succ]
    have ho0 : (w4.alloc (.cells #[] 5)).ownsRow w4.heap.size 5 1 (.slice (some ⟨w4.heap.size, 0, none⟩) 0 0) 0 [] := World.ownsRow_lit w4 #[] 0 (Nat.le_refl _) (by decide) rfl
    refine alongs_step rfl (fun K hK => ?_)
    refine step_append_row_if byteT _ _ (by rfl) rfl w4.heap.size _ 0 [] rfl ho0 len cap rfl Hl.out hnull ((Hs.out.below HB4.out).below ((Below.refl _ _).alloc HB4.out.size _)) (by omega) (by simp) ?_
    intro v5 w5 ho5 hg5
    rw [Nat.zero_add, List.nil_append, ← Hl.out] at ho5
    have hb5 : Below w4.heap.size w4 w5 := ((Below.refl _ _).alloc (Nat.le_refl _) _).grown hg5 (by simp) (fun k hk => (ho0.lt k hk).1)
    refine hK.out _ _ _ (fun W hW => hW) hb5 ?_
    clear hK K hg5 ho0
    try simp only [Act.put, List.setIfInBounds_toArray, List.set_cons_zero, List.set_cons_succ]
    refine alongs_step rfl (fun K hK => ?_)
    go_simp
    refine (D3.out w4.heap.size w5 v5 hb5.size ho5).mono ?_
    rintro e w6 ⟨v6, rfl, ho6, hb6⟩
    have hb6' : Below w4.heap.size w4 w6 := hb5.trans hb6
    have C6 : Hid (∀ W, Below w6.heap.size w6 W → (convert 22 9 v6).run Try.prog W = .ok (.string (strOf (l ++ G))) W) := fun W hW =>
      conv_own Try.underlying22 Try.underlying5 Try.underlying9 (own_below ho6 hW)
    refine hK.out (fun W => Below w6.heap.size w6 W) _ _ (fun W hW => hb6'.trans (hW.mono hb6'.size)) (Below.refl _ _) ?_
    clear hK K hb6 ho5 hb5 C4
    have HB6 := Lib.hid (HB4.out.trans (hb6'.mono HB4.out.size))
    clear hb6' ho6
    refine alongs_take (v := ?_) rfl (by rfl) ?_ ?_
    rotate_left
    · intro W hW; have c := C6.out W hW; go_simp; try with_reducible rfl
    simp only [Act.put, List.setIfInBounds_toArray, List.set_cons_zero, List.set_cons_succ]
    refine alongs_step rfl (fun K hK => ?_)
    go_simp
    refine (D4.out w6).mono ?_
    rintro e w7 ⟨v7, rfl, ho7, hb7⟩
    have C7 : Hid (∀ W, Below w7.heap.size w7 W → (convert 22 9 v7).run Try.prog W = .ok (.string (strOf G)) W) := fun W hW =>
      conv_own Try.underlying22 Try.underlying5 Try.underlying9 (own_below ho7 hW)
    refine hK.out (fun W => Below w7.heap.size w7 W) _ _ (fun W hW => hb7.trans (hW.mono hb7.size)) (Below.refl _ _) ?_
    clear hK K C6
    have HB7 := Lib.hid (HB6.out.trans (hb7.mono HB6.out.size))
    clear hb7 ho7
    iterate 5
      refine alongs_take (v := ?_) rfl (by rfl) ?_ ?_
      rotate_left
      · intro W hW; have c := C7.out W hW; go_simp; try with_reducible rfl
      simp only [Act.put, List.setIfInBounds_toArray, List.set_cons_zero, List.set_cons_succ]
    refine alongs_step rfl (fun K hK => ?_)
    go_simp
    refine (awake6_any _).mono ?_
    rintro e w8 ⟨rfl, hb8⟩
    have HB8 := Lib.hid (HB7.out.trans (hb8.mono HB7.out.size))
    refine hK.out _ _ _ (fun W hW => hW) hb8 ?_
    clear hK K hb8 C7
    iterate 2
      refine alongs_take (v := ?_) rfl (by rfl) ?_ ?_
      rotate_left
      · intro W hW; go_simp; try with_reducible rfl
      simp only [Act.put, List.setIfInBounds_toArray, List.set_cons_zero, List.set_cons_succ]
    refine alongs_done ?_
    go_wp2_with fail
    go_ret
    exact ⟨rfl, HB8.out⟩
end Go.Proofs.Ytigkgbknlclpgaa
