/- Texts Cur, Curt, Curx, in one. -/
import Derived.Test.YtjkjhnpemhlbpaaDoorPC
import Derived.BigQuiet
import Derived.Deep.QuietTactic
import Derived.Test.YtjkjhnpemhlbpaaDoorPA
/- The reference's reader of layer 6 as memory, and contracts of its methods. -/
namespace Go.Proofs.YtjkjhnpemhlbpaaDoor
open Go.RowKit
set_option linter.unusedVariables false

/-- the reference's reader in block h reads the bytes f, in A (below B), stands at place p and has the error e -/
structure CuAt (w : World) (B h : Nat) (A : Option Addr) (c : Nat) (f : List Nat) (p : Nat) (e : Int) : Prop where
  whole : Whole w h 59 #[.slice A f.length c, .int .i64 (p : Int), .int .i64 e]
  sees : Sees .u8 w B A f
  base : B ≤ h
  byte : ∀ x ∈ f, x < 256
  le : f.length ≤ c
  max : c ≤ maxLen
  null : A = none → c = 0
  few : f.length ≤ 1000000000000
  at_ : p ≤ f.length
/-- .. what is left of them is l -/
def Cu (w : World) (B h : Nat) (l : List Nat) (e : Int) : Prop := ∃ A c f p, CuAt w B h A c f p e ∧ f.drop p = l
section
variable {w w' : World} {B B' g h c p j : Nat} {A : Option Addr} {f l : List Nat} {e x : Int}
theorem CuAt.c0 (H : CuAt w B h A c f p e) : w.cell? ⟨h, 0, none⟩ = some (.slice A f.length c) := H.whole.at_ 0
theorem CuAt.c1 (H : CuAt w B h A c f p e) : w.cell? ⟨h, 1, none⟩ = some (.int .i64 (p : Int)) := H.whole.at_ 1
theorem CuAt.c2 (H : CuAt w B h A c f p e) : w.cell? ⟨h, 2, none⟩ = some (.int .i64 e) := H.whole.at_ 2
theorem CuAt.free (H : CuAt w B h A c f p e) (i : Nat) : w.frozen? ⟨h, i, none⟩ = false := H.whole.free i
theorem CuAt.only (H : CuAt w B h A c f p e) (k : Only g w w') (hg : B ≤ g) (hne : h ≠ g) : CuAt w' B h A c f p e := ⟨H.whole.only k hne, H.sees.only k hg, H.base, H.byte, H.le, H.max, H.null, H.few, H.at_⟩
theorem CuAt.below (H : CuAt w B h A c f p e) (k : Below B' w w') (hg : h < B') : CuAt w' B h A c f p e := ⟨H.whole.below k hg, H.sees.below (k.mono (by have := H.base; omega)), H.base, H.byte, H.le, H.max, H.null, H.few, H.at_⟩
theorem CuAt.fail (H : CuAt w B h A c f p e) (x : Int) : CuAt (w.setCell ⟨h, 2, none⟩ (.int .i64 x)) B h A c f p x :=
  ⟨H.whole.put 2 _, H.sees.only ((Only.refl h w).setCell 2 _) H.base, H.base, H.byte, H.le, H.max, H.null, H.few, H.at_⟩
theorem CuAt.pass (H : CuAt w B h A c f p e) {q : Nat} (hq : q ≤ f.length) : CuAt (w.setCell ⟨h, 1, none⟩ (.int .i64 (q : Int))) B h A c f q e :=
  ⟨H.whole.put 1 _, H.sees.only ((Only.refl h w).setCell 1 _) H.base, H.base, H.byte, H.le, H.max, H.null, H.few, hq⟩
theorem CuAt.lt (H : CuAt w B h A c f p e) : h < w.heap.size := H.whole.lt
theorem CuAt.drew (H : CuAt w B h A c f p e) : CuAt w.drew B h A c f p e := ⟨H.whole, H.sees, H.base, H.byte, H.le, H.max, H.null, H.few, H.at_⟩
theorem CuAt.cell {b off : Nat} (H : CuAt w B h (some ⟨b, off, none⟩) c f p e) {i : Nat} (hi : i < f.length) : w.cell? ⟨b, off + i, none⟩ = some (.int .u8 ((f.getD i 0 : Nat) : Int)) := by
  obtain ⟨b2, off2, e2, _, hc⟩ := H.sees.at_ hi
  injection e2 with e2
  injection e2 with e3 e4 _
  subst e3 e4
  exact hc
theorem CuAt.on (H : CuAt w B h A c f p e) {q : Nat} {z : Int} (hq : q ≤ f.length) (hz : z = (q : Int)) : CuAt (w.setCell ⟨h, 1, none⟩ (.int .i64 z)) B h A c f q e := by
  subst hz
  exact H.pass hq
theorem Cu.only (H : Cu w B h l e) (k : Only g w w') (hg : B ≤ g) (hne : h ≠ g) : Cu w' B h l e := by obtain ⟨A, c, f, p, H, hl⟩ := H; exact ⟨A, c, f, p, H.only k hg hne, hl⟩
theorem Cu.below (H : Cu w B h l e) (k : Below B' w w') (hg : h < B') : Cu w' B h l e := by obtain ⟨A, c, f, p, H, hl⟩ := H; exact ⟨A, c, f, p, H.below k hg, hl⟩
theorem Cu.lt (H : Cu w B h l e) : h < w.heap.size := by obtain ⟨A, c, f, p, H, hl⟩ := H; exact H.lt
theorem Cu.base (H : Cu w B h l e) : B ≤ h := by obtain ⟨A, c, f, p, H, hl⟩ := H; exact H.base
theorem Cu.byte (H : Cu w B h l e) : ∀ x ∈ l, x < 256 := by obtain ⟨A, c, f, p, H, rfl⟩ := H; exact fun x hx => H.byte x (List.mem_of_mem_drop hx)
theorem Cu.few (H : Cu w B h l e) : l.length ≤ 1000000000000 := by obtain ⟨A, c, f, p, H, rfl⟩ := H; have := H.few; rw [List.length_drop]; omega
theorem CuAt.drewN (H : CuAt w B h A c f p e) (n : Nat) : CuAt (w.drewN n) B h A c f p e := ⟨H.whole, H.sees, H.base, H.byte, H.le, H.max, H.null, H.few, H.at_⟩
theorem Cu.drewN (H : Cu w B h l e) (n : Nat) : Cu (w.drewN n) B h l e := by obtain ⟨A, c, f, p, H, hl⟩ := H; exact ⟨A, c, f, p, H.drewN n, hl⟩
theorem Only.drewN (H : Only g w w') (n : Nat) : Only g w (w'.drewN n) := ⟨H.os, H.tape, H.output, H.size, H.block⟩
theorem Cu.drew (H : Cu w B h l e) : Cu w.drew B h l e := by obtain ⟨A, c, f, p, H, hl⟩ := H; exact ⟨A, c, f, p, H.drew, hl⟩
end

theorem curleft_any {w : World} {B h : Nat} {l : List Nat} {e : Int} (H : Cu w B h l e) :
    Calls Tryd.prog 56 #[.pointer (some ⟨h, 0, none⟩)] w fun en w' => en = .returned (.int .i64 (l.length : Int)) ∧ ∃ k, w' = w.drewN k := by
  obtain ⟨A, c, f, p, H, hl⟩ := H
  have h0 := H.c0
  have h1 := H.c1
  have hp := H.at_
  have hf := H.few
  have hlen : l.length = f.length - p := by rw [← hl, List.length_drop]
  obtain ⟨n, Hn⟩ : ∃ n, Hid (f.length = n) := ⟨_, rfl⟩
  obtain ⟨q, Hq⟩ : ∃ q, Hid (l.length = q) := ⟨_, rfl⟩
  rw [Hq.out, Hn.out] at hlen
  rw [Hn.out] at h0 hp hf
  rw [Hq.out]
  have hq : (n : Int) - (p : Int) = (q : Int) := by omega
  clear H hl hlen
  go_enter Tryd.func56, Tryd.ntmps56
  go_wp2_with fail
  go_quiet (fail)
  go_wp2_with fail
  go_ret
  exact ⟨rfl, _, rfl⟩
theorem curLeft_any {w : World} {B h : Nat} {l : List Nat} {e : Int} (H : Cu w B h l e) :
    Calls Tryd.prog 28 #[.pointer (some ⟨h, 0, none⟩)] w fun en w' => en = .returned (.int .i64 (Bm.left l e : Int)) ∧ ∃ k, w' = w.drewN k := by
  have h2 : w.cell? ⟨h, 2, none⟩ = some (.int .i64 e) := by obtain ⟨A, c, f, p, H, hl⟩ := H; exact H.c2
  have HH := Lib.hid H
  clear H
  by_cases he : e = 0
  · subst he
    rw [Bm.left_ok]
    go_enter Tryd.func28, Tryd.ntmps28
    go_wp2_with fail
    refine (curleft_any HH.out).mono ?_
    rintro e w1 ⟨rfl, k, rfl⟩
    go_wp2_with fail
    go_ret
    exact ⟨rfl, _, rfl⟩
  · rw [Bm.left_err he]
    have hne : (e != 0) = true := by simpa using he
    clear he
    go_enter Tryd.func28, Tryd.ntmps28
    go_wp2_with fail
    go_ret
    exact ⟨rfl, 0, rfl⟩
theorem curfail_any {w : World} {B h : Nat} {l : List Nat} {e : Int} (x : Int) (H : Cu w B h l e) :
    Calls Tryd.prog 27 #[.pointer (some ⟨h, 0, none⟩), .int .i64 x] w fun en w' => en = .returned (.tuple #[]) ∧ Cu w' B h l (Bm.fail e x) ∧ Only h w w' := by
  obtain ⟨A, c, f, p, H, hl⟩ := H
  have h2 := H.c2
  have hf := H.free 2
  have HH := Lib.hid H
  have Hl := Lib.hid hl
  clear H hl
  by_cases he : e = 0
  · subst he
    rw [Bm.fail_ok]
    go_enter Tryd.func27, Tryd.ntmps27
    go_wp2_with fail
    go_end0
    exact ⟨rfl, ⟨A, c, f, p, HH.out.fail x, Hl.out⟩, (Only.refl _ _).setCell _ _⟩
  · rw [Bm.fail_err he]
    have hne : (e == 0) = false := by simpa using he
    clear he
    go_enter Tryd.func27, Tryd.ntmps27
    go_wp2_with fail
    go_end0
    exact ⟨rfl, ⟨A, c, f, p, HH.out, Hl.out⟩, Only.refl _ _⟩

end Go.Proofs.YtjkjhnpemhlbpaaDoor
/- Contracts of the reference's Take, Fix, Uvar, Text of layer 6. -/
namespace Go.Proofs.YtjkjhnpemhlbpaaDoor
open Go.RowKit
set_option linter.unusedVariables false

/-- the bytes that are still to be read -/
theorem CuAt.sees_rest {w : World} {B h c p : Nat} {A : Option Addr} {f : List Nat} {e : Int} (H : CuAt w B h A c f p e) : Sees .u8 w B (cutAt A c p) (f.drop p) := H.sees.cut H.at_ H.le

set_option maxRecDepth 100000 in
theorem curtake_any {w : World} {B h : Nat} {l : List Nat} {e : Int} (n : Int) (h1 : -9223372036854775808 ≤ n) (h2 : n ≤ 9223372036854775807) (H : Cu w B h l e) :
    Calls Tryd.prog 72 #[.pointer (some ⟨h, 0, none⟩), .int .i64 n] w fun en w' => ∃ v, en = .returned v ∧ w'.ownsRow w.heap.size 5 1 v (Bm.take l e n).1.length (ints .u8 (Bm.take l e n).1) ∧ Cu w' B h (Bm.take l e n).2.1 (Bm.take l e n).2.2 ∧ Only h w w' := by
  have HH := Lib.hid H
  obtain ⟨A, c, f, p, H, hl⟩ := H
  have c2 := H.c2
  have hf2 := H.free 2
  have HA := Lib.hid H
  have Hl := Lib.hid hl
  by_cases he : e = 0
  · subst he
    by_cases hn : n < 0
    · rw [Bm.take_neg hn]
      clear H hl
      go_enter Tryd.func72, Tryd.ntmps72
      go_wp2_with fail
      go_ret
      exact ⟨_, rfl, World.ownsRow_nil _ _ 5 1, ⟨A, c, f, p, HA.out.fail 1, Hl.out⟩, (Only.refl _ _).setCell _ _⟩
    · obtain ⟨k, rfl⟩ : ∃ k : Nat, n = (k : Int) := ⟨n.toNat, by omega⟩
      have hcl := Lib.hid (curleft_any HH.out)
      by_cases hk : k ≤ l.length
      · rw [Bm.take_good hk]
        have hlen : l.length = f.length - p := by rw [← hl, List.length_drop]
        have hp := H.at_
        have hfew := H.few
        have hle := H.le
        have hmax := H.max
        unfold maxLen at hmax
        have c1 := H.c1
        have hf1 := H.free 1
        have hpk : p + k ≤ f.length := by omega
        have Hrest := Lib.hid (H.sees_rest)
        have Hlk : Hid ((l.take k).length = k) := by show (l.take k).length = k; rw [List.length_take]; omega
        obtain ⟨r, Hr⟩ : ∃ r, Hid (f.length = r) := ⟨_, rfl⟩
        obtain ⟨q, Hq⟩ : ∃ q, Hid (l.length = q) := ⟨_, rfl⟩
        rw [Hq.out] at hcl hk hlen
        rw [Hr.out] at hpk hlen hfew hle hp
        clear H hl
        go_enter Tryd.func72, Tryd.ntmps72
        go_wp2_with fail
        refine (hcl.out).mono ?_
        rintro e w1 ⟨rfl, m, rfl⟩
        go_wp2_with fail
        have H2 := (HA.out.drewN m).on (q := p + k) (z := (p : Int) + k) (by rw [Hr.out]; exact hpk) (by omega)
        have HO : Hid (Only h w ((w.drewN m).setCell ⟨h, 1, none⟩ (.int .i64 ((p : Int) + k)))) := ((Only.refl _ _).drewN _).setCell _ _
        have HS : Hid (Sees .u8 ((w.drewN m).setCell ⟨h, 1, none⟩ (.int .i64 ((p : Int) + k))) B (cutAt A c p) (f.drop p)) := Hrest.out.only (((Only.refl h w).drewN m).setCell 1 _) HA.out.base
        obtain ⟨w2, Hw2⟩ : ∃ w2, Hid ((w.drewN m).setCell ⟨h, 1, none⟩ (.int .i64 ((p : Int) + k)) = w2) := ⟨_, rfl⟩
        rw [Hw2.out] at H2 HO HS ⊢
        have d0 := H2.c0
        have d1 := H2.c1
        rw [Hr.out] at d0
        obtain ⟨s, Hs⟩ : ∃ s, Hid (p + k = s) := ⟨_, rfl⟩
        rw [Hs.out] at d1 H2 hpk
        have HH2 := Lib.hid H2
        have hsub : (s : Int) - (k : Int) = (p : Int) := by have := Hs.out; omega
        have hps : p ≤ s := by have := Hs.out; omega
        have hlt := H2.lt
        have HC : Hid (∀ W, Below w2.heap.size w2 W → W.cell? ⟨h, 0, none⟩ = some (.slice A r c) ∧ W.cell? ⟨h, 1, none⟩ = some (.int .i64 (s : Int))) := fun W hW => by
          have := H2.below hW hlt
          have e0 := this.c0
          rw [Hr.out] at e0
          exact ⟨e0, this.c1⟩
        have hAk : (if c = p then A else A.map (fun x => x.add p)) = cutAt A c p := rfl
        have hsp : s - p = k := by have := Hs.out; omega
        have hsc : s ≤ c := by omega
        have hwr : IntKind.i64.wrap (p : Int) = (p : Int) := by rw [IntKind.wrap_i64]; omega
        clear H2 c1 c2 hf1 hf2 h1
        refine wp_region_plans (fun W => Below w2.heap.size w2 W) [(1, true), (2, true), (3, true), (4, true), (5, true), (6, true), (7, true), (8, true), (9, true), (10, true), (11, true), (12, true), (13, true), (14, true), (15, true), (0, false), (16, false), (17, true)] (by kernel_rfl) (by kernel_rfl) rfl (by kernel_rfl) (fun _ _ _ _ _ h => h) (Below.refl _ _).drew ?_
        iterate 15
          refine alongs_take (v := ?_) rfl (by rfl) ?_ ?_
          rotate_left
          · intro W hW; obtain ⟨k0, k1⟩ := HC.out W hW; go_simp; try with_reducible rfl
          simp only [Act.put, List.setIfInBounds_toArray, List.set_cons_zero, List.set_cons_succ]
        refine alongs_step rfl (fun K hK => ?_)
        go_simp
        refine hK.out _ _ _ (fun W hW => hW) (((Below.refl _ _).drew).alloc (by simp) _) ?_
        clear hK K
        try simp only [Act.put, List.setIfInBounds_toArray, List.set_cons_zero, List.set_cons_succ]
        have ho0 : (w2.alloc (.cells #[] 5)).drew.ownsRow w2.heap.size 5 1 (.slice (some ⟨w2.heap.size, 0, none⟩) 0 0) 0 [] := World.ownsRow_lit w2 #[] 0 (Nat.le_refl _) (by decide) rfl
        have hsee : Sees .u8 (w2.alloc (.cells #[] 5)).drew B (cutAt A c p) (l.take k) := by
          rw [← Hl.out]
          exact (HS.out.below (((Below.refl w2.heap.size w2).alloc (Nat.le_refl _) _).drew.mono (by have := HA.out.base; omega))).take k
        refine alongs_step rfl (fun K hK => ?_)
        refine step_append_row byteT _ _ rfl rfl w2.heap.size _ 0 [] rfl ho0 k (c - p) rfl Hlk.out (cutAt_null HA.out.null) hsee (by omega) (by simp) ?_
        intro v2 w3 ho2 hg2
        rw [Nat.zero_add, List.nil_append] at ho2
        have hb2 : Below w2.heap.size w2 w3 := (((Below.refl _ _).alloc (Nat.le_refl _) _).drew).grown hg2 (by simp) (fun k hk => (ho0.lt k hk).1)
        refine hK.out _ _ _ (fun W hW => hW) hb2 ?_
        clear hK K hg2 ho0
        try simp only [Act.put, List.setIfInBounds_toArray, List.set_cons_zero, List.set_cons_succ]
        have Ho2 := Lib.hid ho2
        have Hb2 := Lib.hid hb2
        clear ho2 hb2
        refine alongs_take (v := ?_) rfl (by rfl) ?_ ?_
        rotate_left
        · intro W hW; go_simp; try with_reducible rfl
        simp only [Act.put, List.setIfInBounds_toArray, List.set_cons_zero, List.set_cons_succ]
        refine alongs_done ?_
        go_wp2_with fail
        go_ret
        exact ⟨_, rfl, own_lower (by rw [Hlk.out]; exact Ho2.out) HO.out.size, ⟨A, c, f, s, HH2.out.below Hb2.out hlt, by rw [← Hl.out, List.drop_drop, Hs.out]⟩, HO.out.trans (Only.of_below Hb2.out)⟩
      · rw [Bm.take_short (by omega)]
        obtain ⟨q, Hq⟩ : ∃ q, Hid (l.length = q) := ⟨_, rfl⟩
        have hq2 : q ≤ 1000000000000 := by have := Hq.out; have := HH.out.few; omega
        rw [Hq.out] at hcl hk
        clear H hl
        go_enter Tryd.func72, Tryd.ntmps72
        go_wp2_with fail
        refine (hcl.out).mono ?_
        rintro e w1 ⟨rfl, m, rfl⟩
        go_wp2_with fail
        go_ret
        exact ⟨_, rfl, World.ownsRow_nil _ _ 5 1, ⟨A, c, f, p, (HA.out.drewN m).fail 2, Hl.out⟩, ((Only.refl _ _).drewN m).setCell _ _⟩
  · rw [Bm.take_err he]
    have hne : (e != 0) = true := by simpa using he
    clear H hl he
    go_enter Tryd.func72, Tryd.ntmps72
    go_wp2_with fail
    go_ret
    exact ⟨_, rfl, World.ownsRow_nil _ _ 5 1, HH.out, Only.refl _ _⟩

end Go.Proofs.YtjkjhnpemhlbpaaDoor
/- Contracts of the reference's Uvar, Text of layer 6. -/
namespace Go.Proofs.YtjkjhnpemhlbpaaDoor
open Go.RowKit
set_option linter.unusedVariables false

theorem quiet_more {P : Program} {f : FuncId} {args : Array Value} {w : World} {k n : Nat} {v : Value}
    (h : Calls P f args (w.drewN (k + n)) fun e w' => e = .returned v ∧ w' = w.drewN (k + n)) : Calls P f args (w.drewN (k + n)) fun e w'' => e = .returned v ∧ ∃ m, w'' = w.drewN (k + m) :=
  h.mono fun _ _ ⟨he, hm⟩ => ⟨he, n, hm⟩

set_option maxRecDepth 100000 in
theorem curuvar_any {w : World} {B h : Nat} {l : List Nat} {e : Int} (m : Nat) (hm : m < 18446744073709551616) (H : Cu w B h l e) :
    Calls Tryd.prog 26 #[.pointer (some ⟨h, 0, none⟩), .int .u64 (m : Int)] w fun en w' => en = .returned (.int .u64 ((Bm.uvar l e m).1 : Int)) ∧ Cu w' B h (Bm.uvar l e m).2.1 (Bm.uvar l e m).2.2 ∧ Only h w w' := by
  have HH := Lib.hid H
  obtain ⟨A, c, f, p, H, hl⟩ := H
  have c2 := H.c2
  have hf2 := H.free 2
  have HA := Lib.hid H
  have Hl := Lib.hid hl
  by_cases he : e = 0
  · subst he
    have c0 := H.c0
    have c1 := H.c1
    have hf1 := H.free 1
    have hp := H.at_
    have hfew := H.few
    have hle := H.le
    have hmax := H.max
    unfold maxLen at hmax
    have hg1 := Um.get_num l
    have hg2 := Um.get_used l
    have hlen : f.length - p = l.length := by rw [← hl, List.length_drop]
    have hsee := H.sees_rest
    rw [hl] at hsee
    obtain ⟨n, Hn⟩ : ∃ n, Hid (f.length = n) := ⟨_, rfl⟩
    obtain ⟨q, Hq⟩ : ∃ q, Hid (l.length = q) := ⟨_, rfl⟩
    obtain ⟨y, u, x, Hg⟩ : ∃ y u x, Hid (Um.get l = (y, u, x)) := ⟨_, _, _, rfl⟩
    have Hget : Hid (∀ k, Calls Tryd.prog 55 #[.slice (cutAt A c p) q (c - p)] (w.drewN k) fun e w' => e = .returned (.tuple #[.int .u64 ((Um.get l).1 : Int), .int .i64 ((Um.get l).2.1 : Int), .int .i64 ((Um.get l).2.2 : Int)]) ∧ w' = w.drewN k) := fun k =>
      (getr_any B (cutAt A c p) l q (c - p) (w.drewN k) Hq.out (by have := Hq.out; have := HH.out.few; omega) hsee HH.out.byte).mono fun _ _ ⟨h1, h2⟩ => ⟨h1, h2.symm⟩
    rw [Hg.out] at hg1 hg2 Hget
    rw [Hn.out] at c0 hp hfew hle hlen
    rw [Hq.out] at hlen hg2
    simp only at hg1 hg2
    have hAp : (if c = p then A else A.map (fun x => x.add p)) = cutAt A c p := rfl
    clear H hl hsee
    by_cases hx : x = 0
    · subst hx
      by_cases hy : m < y
      · rw [Bm.uvar_long Hg.out hy]
        go_enter Tryd.func26, Tryd.ntmps26
        go_wp2_with fail
        go_quiet (first | (with_reducible exact quiet_more (Hget.out _)) | (with_reducible exact Calls.quiet_of_same (Hget.out _)))
        go_wp2_with fail
        go_ret
        exact ⟨rfl, ⟨A, c, f, p, (HA.out.drewN _).fail 5, Hl.out⟩, ((Only.refl _ _).drewN _).setCell _ _⟩
      · rw [Bm.uvar_good Hg.out hy]
        go_enter Tryd.func26, Tryd.ntmps26
        go_wp2_with fail
        go_quiet (first | (with_reducible exact quiet_more (Hget.out _)) | (with_reducible exact Calls.quiet_of_same (Hget.out _)))
        go_wp2_with fail
        go_ret
        exact ⟨rfl, ⟨A, c, f, p + u, ((HA.out.drewN _).fail 0).on (by rw [Hn.out]; omega) (by omega), by rw [← Hl.out, List.drop_drop]⟩, (((Only.refl _ _).drewN _).setCell _ _).setCell _ _⟩
    · rw [Bm.uvar_get Hg.out hx]
      have hx1 : ((x : Int) == 0) = false := by simpa using hx
      have hx2 : ((x : Int) != 0) = true := by simpa using hx
      clear hx
      go_enter Tryd.func26, Tryd.ntmps26
      go_wp2_with fail
      go_quiet (first | (with_reducible exact quiet_more (Hget.out _)) | (with_reducible exact Calls.quiet_of_same (Hget.out _)))
      go_wp2_with fail
      go_ret
      exact ⟨rfl, ⟨A, c, f, p, (HA.out.drewN _).fail x, Hl.out⟩, ((Only.refl _ _).drewN _).setCell _ _⟩
  · rw [Bm.uvar_err he]
    have hne : (e != 0) = true := by simpa using he
    clear H hl he
    go_enter Tryd.func26, Tryd.ntmps26
    go_wp2_with fail
    go_ret
    exact ⟨rfl, HH.out, Only.refl _ _⟩

set_option maxRecDepth 100000 in
set_option maxHeartbeats 400000 in
theorem curtext_any {w : World} {B h : Nat} {l : List Nat} {e : Int} (most : Int) (hm1 : -9223372036854775808 ≤ most) (hm2 : most ≤ 9223372036854775807) (H : Cu w B h l e) :
    Calls Tryd.prog 57 #[.pointer (some ⟨h, 0, none⟩), .int .i64 most] w fun en w' => en = .returned (.string (strOf (Bm.text l e most).1)) ∧ Cu w' B h (Bm.text l e most).2.1 (Bm.text l e most).2.2 ∧ Only h w w' := by
  have HH := Lib.hid H
  obtain ⟨A, c, f, p, H, hl⟩ := H
  have c2 := H.c2
  have hf2 := H.free 2
  have HA := Lib.hid H
  have Hl := Lib.hid hl
  by_cases he : e = 0
  · subst he
    have c0 := H.c0
    have c1 := H.c1
    have hf1 := H.free 1
    have hp := H.at_
    have hfew := H.few
    have hle := H.le
    have hmax := H.max
    unfold maxLen at hmax
    have hg1 := Um.get_num l
    have hg2 := Um.get_used l
    have hlen : f.length - p = l.length := by rw [← hl, List.length_drop]
    have hsee := H.sees_rest
    rw [hl] at hsee
    obtain ⟨n, Hn⟩ : ∃ n, Hid (f.length = n) := ⟨_, rfl⟩
    obtain ⟨q, Hq⟩ : ∃ q, Hid (l.length = q) := ⟨_, rfl⟩
    obtain ⟨y, u, x, Hg⟩ : ∃ y u x, Hid (Um.get l = (y, u, x)) := ⟨_, _, _, rfl⟩
    have Hget : Hid (∀ k, Calls Tryd.prog 55 #[.slice (cutAt A c p) q (c - p)] (w.drewN k) fun e w' => e = .returned (.tuple #[.int .u64 ((Um.get l).1 : Int), .int .i64 ((Um.get l).2.1 : Int), .int .i64 ((Um.get l).2.2 : Int)]) ∧ w' = w.drewN k) := fun k =>
      (getr_any B (cutAt A c p) l q (c - p) (w.drewN k) Hq.out (by have := Hq.out; have := HH.out.few; omega) hsee HH.out.byte).mono fun _ _ ⟨h1, h2⟩ => ⟨h1, h2.symm⟩
    rw [Hg.out] at hg1 hg2 Hget
    rw [Hn.out] at c0 hp hfew hle hlen
    rw [Hq.out] at hlen hg2
    simp only at hg1 hg2
    have hAp : (if c = p then A else A.map (fun x => x.add p)) = cutAt A c p := rfl
    clear H hl hsee
    have Hcl := Lib.hid (fun k => curleft_any (HH.out.drewN k))
    rw [Hq.out] at Hcl
    by_cases hx : x = 0
    · subst hx
      by_cases hy : most < (y : Int)
      · rw [Bm.text_long Hg.out hy]
        by_cases hneg : most < 0
        · clear hy
          go_enter Tryd.func57, Tryd.ntmps57
          go_wp2_with fail
          go_quiet (first | (with_reducible exact quiet_more (Hget.out _)) | (with_reducible exact Calls.quiet_of_same (Hget.out _)))
          go_wp2_with fail
          go_ret
          exact ⟨rfl, ⟨A, c, f, p, (HA.out.drewN _).fail 5, Hl.out⟩, ((Only.refl _ _).drewN _).setCell _ _⟩
        · obtain ⟨m, rfl⟩ : ∃ m : Nat, most = (m : Int) := ⟨most.toNat, by omega⟩
          clear hneg
          go_enter Tryd.func57, Tryd.ntmps57
          go_wp2_with fail
          go_quiet (first | (with_reducible exact quiet_more (Hget.out _)) | (with_reducible exact Calls.quiet_of_same (Hget.out _)))
          go_wp2_with fail
          go_ret
          exact ⟨rfl, ⟨A, c, f, p, (HA.out.drewN _).fail 5, Hl.out⟩, ((Only.refl _ _).drewN _).setCell _ _⟩
      · obtain ⟨m, rfl⟩ : ∃ m : Nat, most = (m : Int) := ⟨most.toNat, by omega⟩
        obtain ⟨d, Hd⟩ : ∃ d, Hid (q - u = d) := ⟨_, rfl⟩
        have hd : (q : Int) - (u : Int) = (d : Int) := by rw [← Hd.out]; omega
        have hq3 : q ≤ 1000000000000 := by have := Hq.out; have := HH.out.few; omega
        have hd3 : d ≤ 1000000000000 := by have := Hd.out; omega
        by_cases hdy : d < y
        · rw [Bm.text_short Hg.out hy (by rw [Hq.out, Hd.out]; exact hdy)]
          go_enter Tryd.func57, Tryd.ntmps57
          go_wp2_with fail
          go_quiet (first | (with_reducible exact quiet_more (Hget.out _)) | (with_reducible exact Calls.quiet_of_same (Hget.out _)))
          go_wp2_with fail
          refine (Hcl.out _).mono ?_
          rintro en w1 ⟨rfl, k1, rfl⟩
          go_wp2_with fail
          go_ret
          exact ⟨rfl, ⟨A, c, f, p, (HA.out.drewN _).fail 2, Hl.out⟩, ((Only.refl _ _).drewN _).setCell _ _⟩
        · rw [Bm.text_good Hg.out hy (by rw [Hq.out, Hd.out]; exact hdy)]
          have Ht2 : Hid (Bm.take (l.drop u) 0 (y : Int) = ((l.drop u).take y, (l.drop u).drop y, 0)) := Bm.take_good (by rw [List.length_drop, Hq.out, Hd.out]; omega)
          obtain ⟨p2, Hp2⟩ : ∃ p2, Hid ((l.drop u).take y = p2) := ⟨_, rfl⟩
          rw [Hp2.out] at Ht2 ⊢
          have hy2 : y ≤ 9223372036854775807 := by omega
          go_enter Tryd.func57, Tryd.ntmps57
          go_wp2_with fail
          go_quiet (first | (with_reducible exact quiet_more (Hget.out _)) | (with_reducible exact Calls.quiet_of_same (Hget.out _)))
          go_wp2_with fail
          refine (Hcl.out _).mono ?_
          rintro en w1 ⟨rfl, k1, rfl⟩
          go_wp2_with fail
          have HC2 : Hid (Cu (((w.drewN (nq + k1)).setCell ⟨h, 2, none⟩ (.int .i64 0)).setCell ⟨h, 1, none⟩ (.int .i64 ((p : Int) + u))) B h (l.drop u) 0) :=
            ⟨A, c, f, p + u, ((HA.out.drewN _).fail 0).on (by rw [Hn.out]; omega) (by omega), by rw [← Hl.out, List.drop_drop]⟩
          have HO2 : Hid (Only h w (((w.drewN (nq + k1)).setCell ⟨h, 2, none⟩ (.int .i64 0)).setCell ⟨h, 1, none⟩ (.int .i64 ((p : Int) + u)))) := (((Only.refl _ _).drewN _).setCell _ _).setCell _ _
          refine (curtake_any (y : Int) (by omega) (by omega) HC2.out).mono ?_
          rintro en w3 ⟨v3, rfl, ho3, hcu3, hon3⟩
          rw [Ht2.out] at ho3 hcu3
          have hcv := conv_own (dst := 9) Tryd.underlying33 Tryd.underlying5 Tryd.underlying9 ho3
          have HCU := Lib.hid hcu3
          have HO3 := Lib.hid (HO2.out.trans hon3)
          clear ho3 hcu3 hon3
          dsimp only at hcv ⊢
          go_wp2_with fail
          go_ret
          exact ⟨rfl, by rw [← List.drop_drop]; exact HCU.out, HO3.out⟩
    · rw [Bm.text_get Hg.out hx]
      have hx1 : ((x : Int) == 0) = false := by simpa using hx
      have hx2 : ((x : Int) != 0) = true := by simpa using hx
      clear hx
      go_enter Tryd.func57, Tryd.ntmps57
      go_wp2_with fail
      go_quiet (first | (with_reducible exact quiet_more (Hget.out _)) | (with_reducible exact Calls.quiet_of_same (Hget.out _)))
      go_wp2_with fail
      go_ret
      exact ⟨rfl, ⟨A, c, f, p, (HA.out.drewN _).fail x, Hl.out⟩, ((Only.refl _ _).drewN _).setCell _ _⟩
  · rw [Bm.text_err he]
    have hne : (e != 0) = true := by simpa using he
    clear H hl he
    go_enter Tryd.func57, Tryd.ntmps57
    go_wp2_with fail
    go_ret
    exact ⟨rfl, HH.out, Only.refl _ _⟩
end Go.Proofs.YtjkjhnpemhlbpaaDoor
