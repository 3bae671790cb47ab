/- Contracts of the reference's Uvar, Text of layer 6. -/
import Derived.Test.YtigkgbknlclpgaaCurt
import Derived.Test.YtigkgbknlclpgaaTxt
namespace Go.Proofs.Ytigkgbknlclpgaa
open Go.RowKit
set_option linter.unusedVariables false

theorem quiet_more {P : Program} {f : FuncId} {args : Array Value} {w : World} {k n : Nat} {v : Value}
    (h : Calls P f args (w.drewN (k + n)) fun e w' => e = .returned v ∧ w' = w.drewN (k + n)) : Calls P f args (w.drewN (k + n)) fun e w'' => e = .returned v ∧ ∃ m, w'' = w.drewN (k + m) :=
  h.mono fun _ _ ⟨he, hm⟩ => ⟨he, n, hm⟩

set_option maxRecDepth 100000 in
theorem curuvar_any {w : World} {B h : Nat} {l : List Nat} {e : Int} (m : Nat) (hm : m < 18446744073709551616) (H : Cu w B h l e) :
    Calls Try.prog 28 #[.pointer (some ⟨h, 0, none⟩), .int .u64 (m : Int)] w fun en w' => en = .returned (.int .u64 ((Bm.uvar l e m).1 : Int)) ∧ Cu w' B h (Bm.uvar l e m).2.1 (Bm.uvar l e m).2.2 ∧ Only h w w' := by
  have HH := Lib.hid H
  obtain ⟨A, c, f, p, H, hl⟩ := H
  have c2 := H.c2
  have hf2 := H.free 2
  have HA := Lib.hid H
  have Hl := Lib.hid hl
  by_cases he : e = 0
  · subst he
    have c0 := H.c0
    have c1 := H.c1
    have hf1 := H.free 1
    have hp := H.at_
    have hfew := H.few
    have hle := H.le
    have hmax := H.max
    unfold maxLen at hmax
    have hg1 := Um.get_num l
    have hg2 := Um.get_used l
    have hlen : f.length - p = l.length := by rw [← hl, List.length_drop]
    have hsee := H.sees_rest
    rw [hl] at hsee
    obtain ⟨n, Hn⟩ : ∃ n, Hid (f.length = n) := ⟨_, rfl⟩
    obtain ⟨q, Hq⟩ : ∃ q, Hid (l.length = q) := ⟨_, rfl⟩
    obtain ⟨y, u, x, Hg⟩ : ∃ y u x, Hid (Um.get l = (y, u, x)) := ⟨_, _, _, rfl⟩
    have Hget : Hid (∀ k, Calls Try.prog 39 #[.slice (cutAt A c p) q (c - p)] (w.drewN k) fun e w' => e = .returned (.tuple #[.int .u64 ((Um.get l).1 : Int), .int .i64 ((Um.get l).2.1 : Int), .int .i64 ((Um.get l).2.2 : Int)]) ∧ w' = w.drewN k) := fun k =>
      (getr_any B (cutAt A c p) l q (c - p) (w.drewN k) Hq.out (by have := Hq.out; have := HH.out.few; omega) hsee HH.out.byte).mono fun _ _ ⟨h1, h2⟩ => ⟨h1, h2.symm⟩
    rw [Hg.out] at hg1 hg2 Hget
    rw [Hn.out] at c0 hp hfew hle hlen
    rw [Hq.out] at hlen hg2
    simp only at hg1 hg2
    have hAp : (if c = p then A else A.map (fun x => x.add p)) = cutAt A c p := rfl
    clear H hl hsee
    by_cases hx : x = 0
    · subst hx
      by_cases hy : m < y
      · rw [Bm.uvar_long Hg.out hy]
        go_enter Try.func28, Try.ntmps28
        go_wp2_with fail
        go_quiet (first | (with_reducible exact quiet_more (Hget.out _)) | (with_reducible exact Calls.quiet_of_same (Hget.out _)))
        go_wp2_with fail
        go_ret
        exact ⟨rfl, ⟨A, c, f, p, (HA.out.drewN _).fail 5, Hl.out⟩, ((Only.refl _ _).drewN _).setCell _ _⟩
      · rw [Bm.uvar_good Hg.out hy]
        go_enter Try.func28, Try.ntmps28
        go_wp2_with fail
        go_quiet (first | (with_reducible exact quiet_more (Hget.out _)) | (with_reducible exact Calls.quiet_of_same (Hget.out _)))
        go_wp2_with fail
        go_ret
        exact ⟨rfl, ⟨A, c, f, p + u, ((HA.out.drewN _).fail 0).on (by rw [Hn.out]; omega) (by omega), by rw [← Hl.out, List.drop_drop]⟩, (((Only.refl _ _).drewN _).setCell _ _).setCell _ _⟩
    · rw [Bm.uvar_get Hg.out hx]
      have hx1 : ((x : Int) == 0) = false := by simpa using hx
      have hx2 : ((x : Int) != 0) = true := by simpa using hx
      clear hx
      go_enter Try.func28, Try.ntmps28
      go_wp2_with fail
      go_quiet (first | (with_reducible exact quiet_more (Hget.out _)) | (with_reducible exact Calls.quiet_of_same (Hget.out _)))
      go_wp2_with fail
      go_ret
      exact ⟨rfl, ⟨A, c, f, p, (HA.out.drewN _).fail x, Hl.out⟩, ((Only.refl _ _).drewN _).setCell _ _⟩
  · rw [Bm.uvar_err he]
    have hne : (e != 0) = true := by simpa using he
    clear H hl he
    go_enter Try.func28, Try.ntmps28
    go_wp2_with fail
    go_ret
    exact ⟨rfl, HH.out, Only.refl _ _⟩

set_option maxRecDepth 100000 in
set_option maxHeartbeats 400000 in
theorem curtext_any {w : World} {B h : Nat} {l : List Nat} {e : Int} (most : Int) (hm1 : -9223372036854775808 ≤ most) (hm2 : most ≤ 9223372036854775807) (H : Cu w B h l e) :
    Calls Try.prog 31 #[.pointer (some ⟨h, 0, none⟩), .int .i64 most] w fun en w' => en = .returned (.string (strOf (Bm.text l e most).1)) ∧ Cu w' B h (Bm.text l e most).2.1 (Bm.text l e most).2.2 ∧ Only h w w' := by
  have HH := Lib.hid H
  obtain ⟨A, c, f, p, H, hl⟩ := H
  have c2 := H.c2
  have hf2 := H.free 2
  have HA := Lib.hid H
  have Hl := Lib.hid hl
  by_cases he : e = 0
  · subst he
    have c0 := H.c0
    have c1 := H.c1
    have hf1 := H.free 1
    have hp := H.at_
    have hfew := H.few
    have hle := H.le
    have hmax := H.max
    unfold maxLen at hmax
    have hg1 := Um.get_num l
    have hg2 := Um.get_used l
    have hlen : f.length - p = l.length := by rw [← hl, List.length_drop]
    have hsee := H.sees_rest
    rw [hl] at hsee
    obtain ⟨n, Hn⟩ : ∃ n, Hid (f.length = n) := ⟨_, rfl⟩
    obtain ⟨q, Hq⟩ : ∃ q, Hid (l.length = q) := ⟨_, rfl⟩
    obtain ⟨y, u, x, Hg⟩ : ∃ y u x, Hid (Um.get l = (y, u, x)) := ⟨_, _, _, rfl⟩
    have Hget : Hid (∀ k, Calls Try.prog 39 #[.slice (cutAt A c p) q (c - p)] (w.drewN k) fun e w' => e = .returned (.tuple #[.int .u64 ((Um.get l).1 : Int), .int .i64 ((Um.get l).2.1 : Int), .int .i64 ((Um.get l).2.2 : Int)]) ∧ w' = w.drewN k) := fun k =>
      (getr_any B (cutAt A c p) l q (c - p) (w.drewN k) Hq.out (by have := Hq.out; have := HH.out.few; omega) hsee HH.out.byte).mono fun _ _ ⟨h1, h2⟩ => ⟨h1, h2.symm⟩
    rw [Hg.out] at hg1 hg2 Hget
    rw [Hn.out] at c0 hp hfew hle hlen
    rw [Hq.out] at hlen hg2
    simp only at hg1 hg2
    have hAp : (if c = p then A else A.map (fun x => x.add p)) = cutAt A c p := rfl
    clear H hl hsee
    have Hcl := Lib.hid (fun k => curleft_any (HH.out.drewN k))
    rw [Hq.out] at Hcl
    by_cases hx : x = 0
    · subst hx
      by_cases hy : most < (y : Int)
      · rw [Bm.text_long Hg.out hy]
        by_cases hneg : most < 0
        · clear hy
          go_enter Try.func31, Try.ntmps31
          go_wp2_with fail
          go_quiet (first | (with_reducible exact quiet_more (Hget.out _)) | (with_reducible exact Calls.quiet_of_same (Hget.out _)))
          go_wp2_with fail
          go_ret
          exact ⟨rfl, ⟨A, c, f, p, (HA.out.drewN _).fail 5, Hl.out⟩, ((Only.refl _ _).drewN _).setCell _ _⟩
        · obtain ⟨m, rfl⟩ : ∃ m : Nat, most = (m : Int) := ⟨most.toNat, by omega⟩
          clear hneg
          go_enter Try.func31, Try.ntmps31
          go_wp2_with fail
          go_quiet (first | (with_reducible exact quiet_more (Hget.out _)) | (with_reducible exact Calls.quiet_of_same (Hget.out _)))
          go_wp2_with fail
          go_ret
          exact ⟨rfl, ⟨A, c, f, p, (HA.out.drewN _).fail 5, Hl.out⟩, ((Only.refl _ _).drewN _).setCell _ _⟩
      · obtain ⟨m, rfl⟩ : ∃ m : Nat, most = (m : Int) := ⟨most.toNat, by omega⟩
        obtain ⟨d, Hd⟩ : ∃ d, Hid (q - u = d) := ⟨_, rfl⟩
        have hd : (q : Int) - (u : Int) = (d : Int) := by rw [← Hd.out]; omega
        have hq3 : q ≤ 1000000000000 := by have := Hq.out; have := HH.out.few; omega
        have hd3 : d ≤ 1000000000000 := by have := Hd.out; omega
        by_cases hdy : d < y
        · rw [Bm.text_short Hg.out hy (by rw [Hq.out, Hd.out]; exact hdy)]
          go_enter Try.func31, Try.ntmps31
          go_wp2_with fail
          go_quiet (first | (with_reducible exact quiet_more (Hget.out _)) | (with_reducible exact Calls.quiet_of_same (Hget.out _)))
          go_wp2_with fail
          refine (Hcl.out _).mono ?_
          rintro en w1 ⟨rfl, k1, rfl⟩
          go_wp2_with fail
          go_ret
          exact ⟨rfl, ⟨A, c, f, p, (HA.out.drewN _).fail 2, Hl.out⟩, ((Only.refl _ _).drewN _).setCell _ _⟩
        · rw [Bm.text_good Hg.out hy (by rw [Hq.out, Hd.out]; exact hdy)]
          have Ht2 : Hid (Bm.take (l.drop u) 0 (y : Int) = ((l.drop u).take y, (l.drop u).drop y, 0)) := Bm.take_good (by rw [List.length_drop, Hq.out, Hd.out]; omega)
          obtain ⟨p2, Hp2⟩ : ∃ p2, Hid ((l.drop u).take y = p2) := ⟨_, rfl⟩
          rw [Hp2.out] at Ht2 ⊢
          have hy2 : y ≤ 9223372036854775807 := by omega
          go_enter Try.func31, Try.ntmps31
          go_wp2_with fail
          go_quiet (first | (with_reducible exact quiet_more (Hget.out _)) | (with_reducible exact Calls.quiet_of_same (Hget.out _)))
          go_wp2_with fail
          refine (Hcl.out _).mono ?_
          rintro en w1 ⟨rfl, k1, rfl⟩
          go_wp2_with fail
          have HC2 : Hid (Cu (((w.drewN (nq + k1)).setCell ⟨h, 2, none⟩ (.int .i64 0)).setCell ⟨h, 1, none⟩ (.int .i64 ((p : Int) + u))) B h (l.drop u) 0) :=
            ⟨A, c, f, p + u, ((HA.out.drewN _).fail 0).on (by rw [Hn.out]; omega) (by omega), by rw [← Hl.out, List.drop_drop]⟩
          have HO2 : Hid (Only h w (((w.drewN (nq + k1)).setCell ⟨h, 2, none⟩ (.int .i64 0)).setCell ⟨h, 1, none⟩ (.int .i64 ((p : Int) + u)))) := (((Only.refl _ _).drewN _).setCell _ _).setCell _ _
          refine (curtake_any (y : Int) (by omega) (by omega) HC2.out).mono ?_
          rintro en w3 ⟨v3, rfl, ho3, hcu3, hon3⟩
          rw [Ht2.out] at ho3 hcu3
          have hcv := conv_own (dst := 9) Try.underlying22 Try.underlying5 Try.underlying9 ho3
          have HCU := Lib.hid hcu3
          have HO3 := Lib.hid (HO2.out.trans hon3)
          clear ho3 hcu3 hon3
          dsimp only at hcv ⊢
          go_wp2_with fail
          go_ret
          exact ⟨rfl, by rw [← List.drop_drop]; exact HCU.out, HO3.out⟩
    · rw [Bm.text_get Hg.out hx]
      have hx1 : ((x : Int) == 0) = false := by simpa using hx
      have hx2 : ((x : Int) != 0) = true := by simpa using hx
      clear hx
      go_enter Try.func31, Try.ntmps31
      go_wp2_with fail
      go_quiet (first | (with_reducible exact quiet_more (Hget.out _)) | (with_reducible exact Calls.quiet_of_same (Hget.out _)))
      go_wp2_with fail
      go_ret
      exact ⟨rfl, ⟨A, c, f, p, (HA.out.drewN _).fail x, Hl.out⟩, ((Only.refl _ _).drewN _).setCell _ _⟩
  · rw [Bm.text_err he]
    have hne : (e != 0) = true := by simpa using he
    clear H hl he
    go_enter Try.func31, Try.ntmps31
    go_wp2_with fail
    go_ret
    exact ⟨rfl, HH.out, Only.refl _ _⟩
end Go.Proofs.Ytigkgbknlclpgaa
