/- The walk of the law FramePuts. -/
import Derived.Test.YtocnfibpkpplgaaAwake15
namespace Go.Proofs.Ytocnfibpkpplgaa
open Go.RowKit
set_option linter.unusedVariables false
set_option maxRecDepth 100000
set_option linter.unusedSimpArgs false

theorem Fr.put_byte {l : List Nat} (h : ∀ x ∈ l, x < 256) (hl : l.length < 18446744073709551616) : ∀ x ∈ Fr.put l, x < 256 := fun x hx => by
  unfold Fr.put at hx
  rcases List.mem_append.1 hx with hx | hx
  · exact Um.enc_byte 9 _ (Um.fits9 hl) x hx
  · exact h x hx
set_option maxHeartbeats 4000000 in
theorem framePuts_walk (a0 : Option Addr) (len0 cap0 : Nat) (l0 : List Nat) (a1 : Option Addr) (len1 cap1 : Nat) (l1 : List Nat) (a2 : Option Addr) (len2 cap2 : Nat) (l2 : List Nat) (w : World) (R0 : Row .u8 w a0 len0 cap0 l0) (R1 : Row .u8 w a1 len1 cap1 l1) (R2 : Row .u8 w a2 len2 cap2 l2) :
    Calls Try.prog 3 #[.slice a0 len0 cap0, .slice a1 len1 cap1, .slice a2 len2 cap2] w fun e w' => e = .returned (.bool true) ∧ Below w.heap.size w w' := by
  obtain ⟨hP0, hlen0, hby0⟩ := row_piece R0
  obtain ⟨hP1, hlen1, hby1⟩ := row_piece R1
  obtain ⟨hP2, hlen2, hby2⟩ := row_piece R2
  have hn0 := R0.null
  have hn2 := R2.null
  have hs0 := R0.sees
  have hs2 := R2.sees
  have hm0 := R0.max
  have hm1 := R1.max
  have hm2 := R2.max
  have hc0 := R0.le
  have hc1 := R1.le
  have hc2 := R2.le
  unfold maxLen at hm0 hm1 hm2
  clear R0 R1 R2
  by_cases hbig : 300 < len0 ∨ 600 < len1 ∨ 300 < len2
  · have hd : (∃ _ : 300 < len0, True) ∨ (∃ _ : ¬ 300 < len0, 600 < len1) ∨ (∃ _ : ¬ 300 < len0, ∃ _ : ¬ 600 < len1, 300 < len2) := by
      by_cases h : 300 < len0
      · exact .inl ⟨h, trivial⟩
      · by_cases h' : 600 < len1
        · exact .inr (.inl ⟨h, h'⟩)
        · exact .inr (.inr ⟨h, h', by omega⟩)
    clear hbig hP0 hP1 hP2 hn0 hn2 hs0 hs2
    rcases hd with ⟨h1, _⟩ | ⟨h1, h2⟩ | ⟨h1, h2, h3⟩
    all_goals
      go_enter Try.func3, Try.ntmps3
      go_wp2_with fail
      refine (awake15 _).mono ?_
      rintro e w1 ⟨rfl, hb⟩
      have HB := Lib.hid hb
      clear hb
      go_wp2_with fail
      go_ret
      exact ⟨rfl, HB.out⟩
  · have h1 : len0 ≤ 300 := by omega
    have h2 : len1 ≤ 600 := by omega
    have h3 : len2 ≤ 300 := by omega
    clear hbig
    have HP0 := Lib.hid (fun W (h : Below w.heap.size w W) => (hP0.kept h : Piece W W.heap.size (.slice a0 len0 cap0) l0))
    have HP1 := Lib.hid (fun W (h : Below w.heap.size w W) => (hP1.kept h : Piece W W.heap.size (.slice a1 len1 cap1) l1))
    have HQ1 := Lib.hid (fun W (h : Below w.heap.size w W) => (hP1.below h : Piece W w.heap.size (.slice a1 len1 cap1) l1))
    have HS0 := Lib.hid (fun W (h : Below w.heap.size w W) => hs0.below h)
    have HS2 := Lib.hid (fun W (h : Below w.heap.size w W) => hs2.below h)
    have HN0 := Lib.hid hn0
    have HN2 := Lib.hid hn2
    have HL0 := Lib.hid hlen0
    have HL2 := Lib.hid hlen2
    have HPB := Lib.hid (Fr.put_byte hby1 (by omega))
    have hpl := Fr.put_le l1
    have HNX := Lib.hid (Fr.next_put l1 l2 (most := (len1 : Int)) (by omega) (by omega))
    have HB0 := Lib.hid hby0
    have HB1 := Lib.hid hby1
    have HB2 := Lib.hid hby2
    have CP := Lib.hid (fun W (h : Below w.heap.size w W) (base : Nat) (v : Value) (xs : List Nat) ho hb hx (hB : w.heap.size ≤ base) => cput15_any base v xs (w := W) (u := .slice a1 len1 cap1) (l := l1) ho hb hx (HQ1.out W h) hB (by omega))
    have CR := Lib.hid (fun W (h : Below w.heap.size w W) => rput15_any (HP1.out W h) (Nat.le_refl _) (by omega))
    obtain ⟨P, hP⟩ : ∃ P, Hid (Fr.put l1 = P) := ⟨_, Lib.hid rfl⟩
    rw [hP.out] at HPB hpl HNX CP CR
    have hpl2 : P.length ≤ 610 := by omega
    have CN := Lib.hid (fun W (B : Nat) v (hp : Piece W B v (P ++ l2)) (hB : B ≤ W.heap.size) => cnext15_any hp hB (fun x hx => (List.mem_append.1 hx).elim (HPB.out x) (HB2.out x)) (by rw [List.length_append]; omega) (len1 : Int) (by omega) (by omega))
    rw [HNX.out] at CN
    obtain ⟨np, hnp⟩ : ∃ n, Hid (P.length = n) := ⟨_, Lib.hid rfl⟩
    rw [hnp.out] at hpl2 CN
    clear hP0 hP1 hP2 hn0 hn2 hs0 hs2 hlen0 hlen1 hlen2 hby0 hby1 hby2 hpl HNX
    go_enter Try.func3, Try.ntmps3
    go_wp2_with fail
    refine (CP.out w (Below.refl _ _) w.heap.size (.slice none 0 0) [] (World.ownsRow_nil w _ 5 1) (Nat.le_refl _) (by decide) (Nat.le_refl _)).mono ?_
    rintro e w1 ⟨v1, rfl, ho1, hb1⟩
    rw [List.nil_append, hnp.out] at ho1
    obtain ⟨A1, c1, rfl⟩ := own_shape ho1
    have HB1' := Lib.hid hb1
    have hz1 := hb1.size
    have HO1 := Lib.hid ho1
    clear ho1 hb1
    go_wp2_with (at_builtin; refine wpList_append_row byteT _ _ rfl rfl w.heap.size _ np _ rfl HO1.out len2 cap2 rfl HL2.out HN2.out (HS2.out _ HB1'.out) (by omega) hz1 ?_; intro v2 w2 ho2 hg2)
    have hb2 : Below w.heap.size w w2 := HB1'.out.grown hg2 hz1 (fun k hk => (HO1.out.lt k hk).1)
    have HB2' := Lib.hid hb2
    have ho2' : w2.ownsRow w.heap.size 5 1 v2 (P ++ l2).length (ints .u8 (P ++ l2)) := by rw [List.length_append, hnp.out, HL2.out, ints_append]; exact ho2
    refine (CN.out w2 w2.heap.size v2 (own_piece ho2') (Nat.le_refl _)).mono ?_
    rintro e w3 ⟨u3, rfl, ho3, hb3⟩
    have HB3 := Lib.hid (hb2.trans (hb3.mono hb2.size))
    have O3 := Lib.hid (fun W (h : Below w3.heap.size w3 W) => ((own_piece ho3).kept h).conv)
    obtain ⟨A3, c3, rfl, _⟩ := own_look ho3
    clear ho2' ho2 hb2 hg2 hb3 ho3
    have hsz1 : ¬ 9223372036854775807 < (strOf l0).size + (strOf P).size := by rw [strOf_size, strOf_size, HL0.out, hnp.out]; omega
    have hadd : Hid ((strOf l0) ++ (strOf P) = strOf (l0 ++ P)) := Lib.hid (strOf_append l0 P)
    obtain ⟨Z, hZ⟩ : ∃ Z, Hid (l0 ++ P = Z) := ⟨_, Lib.hid rfl⟩
    rw [hZ.out] at hadd
    obtain ⟨s0, hs0⟩ : ∃ s, Hid (strOf l0 = s) := ⟨_, Lib.hid rfl⟩
    obtain ⟨sp, hsp⟩ : ∃ s, Hid (strOf P = s) := ⟨_, Lib.hid rfl⟩
    obtain ⟨sz, hsz⟩ : ∃ s, Hid (strOf Z = s) := ⟨_, Lib.hid rfl⟩
    obtain ⟨s1, hs1⟩ : ∃ s, Hid (strOf l1 = s) := ⟨_, Lib.hid rfl⟩
    rw [hs0.out, hsp.out] at hsz1
    rw [hs0.out, hsp.out, hsz.out] at hadd
    rw [hs1.out] at O3
    have hadd' : s0 ++ sp = sz := hadd.out
    have hself : ∀ s : ByteArray, (s.toList == s.toList) = true := fun s => by simp
    have X0 := Lib.hid (fun W (h : Below w3.heap.size w3 W) => (HP0.out W (HB3.out.trans (h.mono HB3.out.size))).conv)
    have X1 := Lib.hid (fun W (h : Below w3.heap.size w3 W) => (HP1.out W (HB3.out.trans (h.mono HB3.out.size))).conv)
    rw [hs0.out] at X0
    rw [hs1.out] at X1
    go_wp2_with fail
    refine wp_region_plans (fun W => Below w3.heap.size w3 W) [(1, true), (3, true), (6, true), (7, true), (8, true), (0, false), (2, false), (4, false), (5, true), (9, false), (10, true), (11, true), (12, true), (13, true), (14, true), (15, true), (16, true), (17, true), (18, true), (19, true), (20, true), (21, true), (22, true), (23, false), (24, true), (25, true), (26, true), (27, true), (28, true), (29, true), (30, true), (31, true), (32, false), (33, true), (34, true)] (by kernel_rfl) (by kernel_rfl) rfl (by kernel_rfl) (fun _ _ _ _ _ h => h) (Below.refl _ _).drew ?_
    iterate 5
      refine alongs_take (v := ?_) rfl (by rfl) ?_ ?_
      rotate_left
      · intro W hW; have x0 := X0.out W hW; clear hW; go_simp; try with_reducible rfl
      simp only [Act.put, List.setIfInBounds_toArray, List.set_cons_zero, List.set_cons_succ]
    refine alongs_step rfl (fun K hK => ?_)
    go_simp
    refine hK.out _ _ _ (fun W hW => hW) (((Below.refl _ _).drew).alloc (by simp) _) ?_
    clear hK K
    try simp only [Act.put, List.setIfInBounds_toArray, List.set_cons_zero, List.set_cons_succ]
    have ho0 : (w3.alloc (.cells #[] 5)).drew.ownsRow w3.heap.size 5 1 (.slice (some ⟨w3.heap.size, 0, none⟩) 0 0) 0 [] := World.ownsRow_lit w3 #[] 0 (Nat.le_refl _) (by decide) rfl
    have hba : Below w3.heap.size w3 (w3.alloc (.cells #[] 5)).drew := ((Below.refl w3.heap.size w3).alloc (Nat.le_refl _) _).drew
    refine alongs_step rfl (fun K hK => ?_)
    refine step_append_row byteT _ _ rfl rfl w3.heap.size _ 0 [] rfl ho0 len0 cap0 rfl HL0.out HN0.out (HS0.out _ (HB3.out.trans (hba.mono HB3.out.size))) (by omega) (by simp) ?_
    intro v4 w4 ho4 hg4
    rw [Nat.zero_add, List.nil_append] at ho4
    have hb4 : Below w3.heap.size w3 w4 := hba.grown hg4 (by simp) (fun k hk => (ho0.lt k hk).1)
    have HB4 := Lib.hid hb4
    refine hK.out _ _ _ (fun W hW => hW) hb4 ?_
    clear hK K hg4 ho0 hba hb4
    try simp only [Act.put, List.setIfInBounds_toArray, List.set_cons_zero, List.set_cons_succ]
    have ho4' : w4.ownsRow w3.heap.size 5 1 v4 l0.length (ints .u8 l0) := by rw [HL0.out]; exact ho4
    have CP4 := Lib.hid (CP.out w4 (HB3.out.trans (HB4.out.mono HB3.out.size)) w3.heap.size v4 l0 ho4' HB4.out.size (by rw [HL0.out]; omega) HB3.out.size)
    rw [hZ.out] at CP4
    clear ho4 ho4'
    refine alongs_step rfl (fun K hK => ?_)
    go_simp
    refine (CP4.out).mono ?_
    rintro e w5 ⟨v5, rfl, ho5, hb5⟩
    have HB5 := Lib.hid (HB4.out.trans hb5)
    have O5 := Lib.hid (fun W (h : Below w5.heap.size w5 W) => ((own_piece ho5).kept h).conv)
    rw [hsz.out] at O5
    obtain ⟨A5, c5, rfl, _⟩ := own_look ho5
    refine hK.out (fun W => Below w5.heap.size w5 W) _ _ (fun W hW => HB5.out.trans (hW.mono HB5.out.size)) (Below.refl _ _) ?_
    clear hK K CP4 hb5 ho5
    try simp only [Act.put, List.setIfInBounds_toArray, List.set_cons_zero, List.set_cons_succ]
    refine alongs_take (v := .string sz) rfl (by rfl) ?_ ?_
    · intro W hW; have x := O5.out W hW; clear hW; go_simp
    simp only [Act.put, List.setIfInBounds_toArray, List.set_cons_zero, List.set_cons_succ]
    have CR5 := Lib.hid (CR.out w5 (HB3.out.trans (HB5.out.mono HB3.out.size)))
    refine alongs_step rfl (fun K hK => ?_)
    go_simp
    refine (CR5.out).mono ?_
    rintro e w6 ⟨v6, rfl, ho6, hb6⟩
    have HB6 := Lib.hid (HB5.out.trans (hb6.mono HB5.out.size))
    have O6 := Lib.hid (fun W (h : Below w6.heap.size w6 W) => ((own_piece ho6).kept h).conv)
    rw [hsp.out] at O6
    obtain ⟨A6, c6, rfl, _⟩ := own_look ho6
    refine hK.out (fun W => Below w6.heap.size w6 W) _ _ (fun W hW => hb6.trans (hW.mono hb6.size)) (Below.refl _ _) ?_
    clear hK K CR5 hb6 ho6
    try simp only [Act.put, List.setIfInBounds_toArray, List.set_cons_zero, List.set_cons_succ]
    have X0' := Lib.hid (fun W (h : Below w6.heap.size w6 W) => X0.out W (HB6.out.trans (h.mono HB6.out.size)))
    have X1' := Lib.hid (fun W (h : Below w6.heap.size w6 W) => X1.out W (HB6.out.trans (h.mono HB6.out.size)))
    have O3' := Lib.hid (fun W (h : Below w6.heap.size w6 W) => O3.out W (HB6.out.trans (h.mono HB6.out.size)))
    iterate 13
      refine alongs_take (v := ?_) rfl (by rfl) ?_ ?_
      rotate_left
      · intro W hW; have x6 := O6.out W hW; have x0 := X0'.out W hW; have x1 := X1'.out W hW; have x3 := O3'.out W hW; clear hW; go_simp; try with_reducible rfl
      simp only [Act.put, List.setIfInBounds_toArray, List.set_cons_zero, List.set_cons_succ]
    have CR6 := Lib.hid (CR.out w6 (HB3.out.trans (HB6.out.mono HB3.out.size)))
    refine alongs_step rfl (fun K hK => ?_)
    go_simp
    refine (CR6.out).mono ?_
    rintro e w7 ⟨v7, rfl, ho7, hb7⟩
    have HB7 := Lib.hid (HB6.out.trans (hb7.mono HB6.out.size))
    rw [hnp.out] at ho7
    obtain ⟨A7, c7, rfl, _⟩ := own_look ho7
    refine hK.out (fun W => Below w7.heap.size w7 W) _ _ (fun W hW => hb7.trans (hW.mono hb7.size)) (Below.refl _ _) ?_
    clear hK K CR6 hb7 ho7
    try simp only [Act.put, List.setIfInBounds_toArray, List.set_cons_zero, List.set_cons_succ]
    iterate 8
      refine alongs_take (v := ?_) rfl (by rfl) ?_ ?_
      rotate_left
      · intro W hW; clear hW; go_simp; try with_reducible rfl
      simp only [Act.put, List.setIfInBounds_toArray, List.set_cons_zero, List.set_cons_succ]
    refine alongs_step rfl (fun K hK => ?_)
    go_simp
    refine (awake15 _).mono ?_
    rintro e w8 ⟨rfl, hb8⟩
    have HB8 := Lib.hid (HB7.out.trans (hb8.mono HB7.out.size))
    refine hK.out (fun W => Below w8.heap.size w8 W) _ _ (fun W hW => hb8.trans (hW.mono hb8.size)) (Below.refl _ _) ?_
    clear hK K hb8
    try simp only [Act.put, List.setIfInBounds_toArray, List.set_cons_zero, List.set_cons_succ]
    iterate 2
      refine alongs_take (v := ?_) rfl (by rfl) ?_ ?_
      rotate_left
      · intro W hW; clear hW; go_simp; try with_reducible rfl
      simp only [Act.put, List.setIfInBounds_toArray, List.set_cons_zero, List.set_cons_succ]
    refine alongs_done ?_
    go_wp2_with fail
    go_ret
    exact ⟨rfl, HB3.out.trans (HB8.out.mono HB3.out.size)⟩
end Go.Proofs.Ytocnfibpkpplgaa
