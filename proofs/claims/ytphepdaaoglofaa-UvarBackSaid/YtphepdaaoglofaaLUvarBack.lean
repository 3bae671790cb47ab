/- The walk of the law UvarBack: it answers true, and nothing that was there has turned. -/
import Derived.Test.YtphepdaaoglofaaRef1
import Derived.Test.YtphepdaaoglofaaAwake1
import Derived.Test.YtphepdaaoglofaaFrame
import Derived.Test.YtphepdaaoglofaaRegion
namespace Go.Proofs.Ytphepdaaoglofaa
open Go.RowKit
set_option linter.unusedVariables false

theorem put_bytes (n : Nat) (h : n < 18446744073709551616) : ∀ x ∈ Um.put n, x < 256 := Um.enc_byte 9 n (Um.fits9 h)

set_option maxRecDepth 100000 in
set_option maxHeartbeats 800000 in
theorem uvarBack_walk (n : Int) (a : Option Addr) (len cap : Nat) (l : List Nat) (w : World) (wn : (Lit.int .u64 n).wf = true) (h : Row .u8 w a len cap l) :
    Calls Try.prog 6 #[.int .u64 n, .slice a len cap] w fun e w' => e = .returned (.bool true) ∧ Below w.heap.size w w' := by
  have hbyte := h.byte
  obtain ⟨hl, hs, _, hle, hm, hnull⟩ := h
  unfold maxLen at hm
  obtain ⟨h0, h1⟩ := bounds_u64 wn
  clear wn
  obtain ⟨n, rfl⟩ := Int.eq_ofNat_of_zero_le h0
  have hlen : len ≤ 9223372036854775807 := by omega
  by_cases h300 : 300 < len
  · go_enter Try.func6, Try.ntmps6
    go_wp2_with fail
    refine (awake_any _).mono ?_
    rintro e w1 ⟨rfl, hb⟩
    have HB := Lib.hid hb
    clear hb
    go_wp2_with fail
    go_ret
    exact ⟨rfl, HB.out⟩
  · have Hl := Lib.hid hl
    have Hs := Lib.hid hs
    have Hbyte := Lib.hid hbyte
    clear hl hs hbyte
    have hput10 : (Um.put n).length ≤ 10 := Um.enc_le 9 n
    have Hback := Lib.hid (Um.get_put n l (by omega))
    have Hpb := Lib.hid (put_bytes n (by omega))
    obtain ⟨p, Hp⟩ : ∃ p, Hid (Um.put n = p) := ⟨_, rfl⟩
    rw [Hp.out] at hput10
    go_enter Try.func6, Try.ntmps6
    go_wp2_with fail
    refine (put_any w.heap.size _ [] n w (by omega) h1 (World.ownsRow_nil _ _ 5 1) (Nat.le_refl _) (by simp)).mono ?_
    rintro e w1 ⟨v, rfl, hown, hbel⟩
    rw [Int.toNat_natCast, List.nil_append, Hp.out] at hown
    have hs1 := Hs.out.below hbel
    have hz1 := hbel.size
    go_wp2_with (at_builtin; refine wpList_append_row byteT _ _ rfl rfl w.heap.size _ p.length _ rfl hown len cap rfl Hl.out hnull hs1 (by omega) hz1 ?_; intro v2 w2 ho2 hg2)
    have hb2 : Below w.heap.size w w2 := hbel.grown hg2 hz1 (fun k hk => (hown.lt k hk).1)
    rw [← ints_append, ← Hl.out, ← List.length_append] at ho2
    obtain ⟨A, c, rfl⟩ := own_shape ho2
    have hs2 := Sees.of_own ho2
    refine (get_any _ A _ _ c w2 rfl (by rw [List.length_append, Hl.out]; omega) hs2 (fun x hx => by
      rcases List.mem_append.1 hx with hx | hx
      · exact Hpb.out x (by rw [Hp.out]; exact hx)
      · exact Hbyte.out x hx)).mono ?_
    rintro e w3 ⟨rfl, rfl⟩
    rw [← Hp.out, Hback.out, Hp.out]
    clear hown hs1 hg2 hz1 hs2 ho2 hbel
    have Hb2 := Lib.hid hb2
    clear hb2
    go_wp2_with fail
    refine (size_any _ _ (by omega) h1).mono ?_
    rintro e w3 ⟨rfl, rfl⟩
    rw [Int.toNat_natCast, Hp.out]
    go_wp2_with fail
    refine (get_any _ a l len cap _ Hl.out hlen (Hs.out.below Hb2.out) Hbyte.out).mono ?_
    rintro e w3 ⟨rfl, rfl⟩
    have hg1 := Um.get_num l
    have hg2 := Um.get_used l
    have hg3 := Um.get_err l
    have Hg4 := Lib.hid (Um.put_get l Hbyte.out)
    rw [Hl.out] at hg2
    generalize Um.get l = g at *
    obtain ⟨k, u, f⟩ := g
    simp only at hg1 hg2 hg3
    dsimp only
    dsimp only at Hg4
    by_cases hf : f = 0
    · subst hf
      have hpk := Hg4.out rfl
      have hu1 : (0 : Int) ≤ (u : Int) := by omega
      have hu2 : (u : Int) ≤ (cap : Int) := by omega
      have hdec : decide ((u : Int) ≤ (len : Int)) = true := by simp; omega
      have hdec' : decide (u ≤ len) = true := by simp; omega
      have hpk' : strOf (Um.put k) = strOf (l.take u) := by rw [hpk]
      have Hpk := Lib.hid hpk'
      clear hpk hpk' Hg4 hg3
      have c1 : ∀ W, Below w2.heap.size w2 W → (convert 22 9 (.slice a u cap)).run Try.prog W = .ok (.string (strOf (l.take u))) W := fun W hW =>
        conv_sees Try.underlying22 Try.underlying5 Try.underlying9 u cap (by rw [List.length_take, Hl.out]; omega) (((Hs.out.below Hb2.out).below (hW.mono Hb2.out.size)).take u)
      have C1 := Lib.hid c1
      clear c1
      go_wp2_with fail
      refine wp_region_plan (S := fun W => (convert 22 9 (.slice a u cap)).run Try.prog W = .ok (.string (strOf (l.take u))) W) [(0, true), (1, true), (2, true), (3, true), (4, true), (5, true), (6, true), (7, true), (8, true), (11, true), (12, true), (13, true), (14, true), (9, false), (10, false), (15, true), (16, true), (17, true), (18, true), (19, false), (20, true), (21, true)] (by kernel_rfl) (by kernel_rfl) rfl (by kernel_rfl) (fun _ _ _ _ _ h => h) (C1.out _ (Below.refl _ _).drew) ?_
      iterate 13
        refine along_take (v := ?_) rfl (by rfl) ?_ ?_
        rotate_left
        · intro W hW; go_simp; try with_reducible rfl
        simp only [Act.put, List.setIfInBounds_toArray, List.set_cons_zero, List.set_cons_succ]
      refine along_step rfl (fun K hK => ?_)
      go_simp
      refine (put_any w2.heap.size _ [] k _ (by omega) (by omega) (World.ownsRow_nil _ _ 5 1) (by simp) (by simp)).mono ?_
      rintro e w3 ⟨v3, rfl, ho3, hb3⟩
      rw [Int.toNat_natCast, List.nil_append] at ho3
      have hb23 : Below w2.heap.size w2 w3 := ((Below.refl _ _).drew).trans hb3
      have hcv := conv_own (dst := 9) Try.underlying22 Try.underlying5 Try.underlying9 ho3
      rw [Hpk.out] at hcv
      refine hK.out _ _ (C1.out _ hb23) ?_
      clear hK K hb3 ho3
      refine along_step rfl (fun K hK => ?_)
      go_simp
      refine hK.out _ _ (C1.out _ hb23) ?_
      clear hK K hcv
      iterate 4
        refine along_take (v := ?_) rfl (by rfl) ?_ ?_
        rotate_left
        · intro W hW; go_simp; try with_reducible rfl
        simp only [Act.put, List.setIfInBounds_toArray, List.set_cons_zero, List.set_cons_succ]
      refine along_step rfl (fun K hK => ?_)
      go_simp
      refine (awake_any _).mono ?_
      rintro e w4 ⟨rfl, hb⟩
      have hb24 : Below w2.heap.size w2 w4 := hb23.trans (hb.mono hb23.size)
      refine hK.out _ _ (C1.out _ hb24) ?_
      clear hK K
      iterate 2
        refine along_take (v := ?_) rfl (by rfl) ?_ ?_
        rotate_left
        · intro W hW; go_simp; try with_reducible rfl
        simp only [Act.put, List.setIfInBounds_toArray, List.set_cons_zero, List.set_cons_succ]
      refine along_done ?_
      have HB := Lib.hid (Hb2.out.trans (hb24.mono Hb2.out.size))
      clear hb24 hb23 hb
      go_wp2_with fail
      go_ret
      exact ⟨rfl, HB.out⟩
    · have hfb : ((f : Int) != 0) = true := by simp; omega
      clear Hg4 hg3
      go_wp2_with fail
      refine wp_region_plan (S := fun _ => True) [(0, true), (1, true), (2, true), (3, true), (4, true), (5, true), (6, true), (7, true), (8, true), (9, true), (10, true), (11, true), (12, true), (13, true), (14, true), (15, true), (16, true), (17, true), (18, true), (19, false), (20, true), (21, true)] (by kernel_rfl) (by kernel_rfl) rfl (by kernel_rfl) (fun _ _ _ _ _ h => h) trivial ?_
      iterate 3
        refine along_take (v := ?_) rfl (by rfl) ?_ ?_
        rotate_left
        · intro W hW; go_simp; try with_reducible rfl
        simp only [Act.put, List.setIfInBounds_toArray, List.set_cons_zero, List.set_cons_succ]
      iterate 14
        refine along_skip rfl (by rfl) ?_
        simp only [Act.put, List.setIfInBounds_toArray, List.set_cons_zero, List.set_cons_succ]
      iterate 2
        refine along_take (v := ?_) rfl (by rfl) ?_ ?_
        rotate_left
        · intro W hW; go_simp; try with_reducible rfl
        simp only [Act.put, List.setIfInBounds_toArray, List.set_cons_zero, List.set_cons_succ]
      refine along_step rfl (fun K hK => ?_)
      go_simp
      refine (awake_any _).mono ?_
      rintro e w4 ⟨rfl, hb⟩
      refine hK.out _ _ trivial ?_
      clear hK K
      iterate 2
        refine along_take (v := ?_) rfl (by rfl) ?_ ?_
        rotate_left
        · intro W hW; go_simp; try with_reducible rfl
        simp only [Act.put, List.setIfInBounds_toArray, List.set_cons_zero, List.set_cons_succ]
      refine along_done ?_
      have HB := Lib.hid (Hb2.out.drew.trans (hb.mono Hb2.out.size))
      clear hb
      go_wp2_with fail
      go_ret
      exact ⟨rfl, HB.out⟩
end Go.Proofs.Ytphepdaaoglofaa
