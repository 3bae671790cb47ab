/- The reference's reader of layer 6 as memory, and contracts of its methods. -/
import Derived.Test.YtbhdgfpaoghnbaaPC
import Derived.Test.YtbhdgfpaoghnbaaRef1
import Derived.BigQuiet
import Derived.Deep.QuietTactic
namespace Go.Proofs.Ytbhdgfpaoghnbaa
open Go.RowKit
set_option linter.unusedVariables false

/-- the reference's reader in block h reads the bytes f, in A (below B), stands at place p and has the error e -/
structure CuAt (w : World) (B h : Nat) (A : Option Addr) (c : Nat) (f : List Nat) (p : Nat) (e : Int) : Prop where
  whole : Whole w h 69 #[.slice A f.length c, .int .i64 (p : Int), .int .i64 e]
  sees : Sees .u8 w B A f
  base : B ≤ h
  byte : ∀ x ∈ f, x < 256
  le : f.length ≤ c
  max : c ≤ maxLen
  null : A = none → c = 0
  few : f.length ≤ 1000000000000
  at_ : p ≤ f.length
/-- .. what is left of them is l -/
def Cu (w : World) (B h : Nat) (l : List Nat) (e : Int) : Prop := ∃ A c f p, CuAt w B h A c f p e ∧ f.drop p = l
section
variable {w w' : World} {B B' g h c p j : Nat} {A : Option Addr} {f l : List Nat} {e x : Int}
theorem CuAt.c0 (H : CuAt w B h A c f p e) : w.cell? ⟨h, 0, none⟩ = some (.slice A f.length c) := H.whole.at_ 0
theorem CuAt.c1 (H : CuAt w B h A c f p e) : w.cell? ⟨h, 1, none⟩ = some (.int .i64 (p : Int)) := H.whole.at_ 1
theorem CuAt.c2 (H : CuAt w B h A c f p e) : w.cell? ⟨h, 2, none⟩ = some (.int .i64 e) := H.whole.at_ 2
theorem CuAt.free (H : CuAt w B h A c f p e) (i : Nat) : w.frozen? ⟨h, i, none⟩ = false := H.whole.free i
theorem CuAt.only (H : CuAt w B h A c f p e) (k : Only g w w') (hg : B ≤ g) (hne : h ≠ g) : CuAt w' B h A c f p e := ⟨H.whole.only k hne, H.sees.only k hg, H.base, H.byte, H.le, H.max, H.null, H.few, H.at_⟩
theorem CuAt.below (H : CuAt w B h A c f p e) (k : Below B' w w') (hg : h < B') : CuAt w' B h A c f p e := ⟨H.whole.below k hg, H.sees.below (k.mono (by have := H.base; omega)), H.base, H.byte, H.le, H.max, H.null, H.few, H.at_⟩
theorem CuAt.fail (H : CuAt w B h A c f p e) (x : Int) : CuAt (w.setCell ⟨h, 2, none⟩ (.int .i64 x)) B h A c f p x :=
  ⟨H.whole.put 2 _, H.sees.only ((Only.refl h w).setCell 2 _) H.base, H.base, H.byte, H.le, H.max, H.null, H.few, H.at_⟩
theorem CuAt.pass (H : CuAt w B h A c f p e) {q : Nat} (hq : q ≤ f.length) : CuAt (w.setCell ⟨h, 1, none⟩ (.int .i64 (q : Int))) B h A c f q e :=
  ⟨H.whole.put 1 _, H.sees.only ((Only.refl h w).setCell 1 _) H.base, H.base, H.byte, H.le, H.max, H.null, H.few, hq⟩
theorem CuAt.lt (H : CuAt w B h A c f p e) : h < w.heap.size := H.whole.lt
theorem CuAt.drew (H : CuAt w B h A c f p e) : CuAt w.drew B h A c f p e := ⟨H.whole, H.sees, H.base, H.byte, H.le, H.max, H.null, H.few, H.at_⟩
theorem CuAt.cell {b off : Nat} (H : CuAt w B h (some ⟨b, off, none⟩) c f p e) {i : Nat} (hi : i < f.length) : w.cell? ⟨b, off + i, none⟩ = some (.int .u8 ((f.getD i 0 : Nat) : Int)) := by
  obtain ⟨b2, off2, e2, _, hc⟩ := H.sees.at_ hi
  injection e2 with e2
  injection e2 with e3 e4 _
  subst e3 e4
  exact hc
theorem CuAt.on (H : CuAt w B h A c f p e) {q : Nat} {z : Int} (hq : q ≤ f.length) (hz : z = (q : Int)) : CuAt (w.setCell ⟨h, 1, none⟩ (.int .i64 z)) B h A c f q e := by
  subst hz
  exact H.pass hq
theorem Cu.only (H : Cu w B h l e) (k : Only g w w') (hg : B ≤ g) (hne : h ≠ g) : Cu w' B h l e := by obtain ⟨A, c, f, p, H, hl⟩ := H; exact ⟨A, c, f, p, H.only k hg hne, hl⟩
theorem Cu.below (H : Cu w B h l e) (k : Below B' w w') (hg : h < B') : Cu w' B h l e := by obtain ⟨A, c, f, p, H, hl⟩ := H; exact ⟨A, c, f, p, H.below k hg, hl⟩
theorem Cu.lt (H : Cu w B h l e) : h < w.heap.size := by obtain ⟨A, c, f, p, H, hl⟩ := H; exact H.lt
theorem Cu.base (H : Cu w B h l e) : B ≤ h := by obtain ⟨A, c, f, p, H, hl⟩ := H; exact H.base
theorem Cu.byte (H : Cu w B h l e) : ∀ x ∈ l, x < 256 := by obtain ⟨A, c, f, p, H, rfl⟩ := H; exact fun x hx => H.byte x (List.mem_of_mem_drop hx)
theorem Cu.few (H : Cu w B h l e) : l.length ≤ 1000000000000 := by obtain ⟨A, c, f, p, H, rfl⟩ := H; have := H.few; rw [List.length_drop]; omega
theorem CuAt.drewN (H : CuAt w B h A c f p e) (n : Nat) : CuAt (w.drewN n) B h A c f p e := ⟨H.whole, H.sees, H.base, H.byte, H.le, H.max, H.null, H.few, H.at_⟩
theorem Cu.drewN (H : Cu w B h l e) (n : Nat) : Cu (w.drewN n) B h l e := by obtain ⟨A, c, f, p, H, hl⟩ := H; exact ⟨A, c, f, p, H.drewN n, hl⟩
theorem Only.drewN (H : Only g w w') (n : Nat) : Only g w (w'.drewN n) := ⟨H.os, H.tape, H.output, H.size, H.block⟩
theorem Cu.drew (H : Cu w B h l e) : Cu w.drew B h l e := by obtain ⟨A, c, f, p, H, hl⟩ := H; exact ⟨A, c, f, p, H.drew, hl⟩
end

theorem curleft_any {w : World} {B h : Nat} {l : List Nat} {e : Int} (H : Cu w B h l e) :
    Calls Try.prog 45 #[.pointer (some ⟨h, 0, none⟩)] w fun en w' => en = .returned (.int .i64 (l.length : Int)) ∧ ∃ k, w' = w.drewN k := by
  obtain ⟨A, c, f, p, H, hl⟩ := H
  have h0 := H.c0
  have h1 := H.c1
  have hp := H.at_
  have hf := H.few
  have hlen : l.length = f.length - p := by rw [← hl, List.length_drop]
  obtain ⟨n, Hn⟩ : ∃ n, Hid (f.length = n) := ⟨_, rfl⟩
  obtain ⟨q, Hq⟩ : ∃ q, Hid (l.length = q) := ⟨_, rfl⟩
  rw [Hq.out, Hn.out] at hlen
  rw [Hn.out] at h0 hp hf
  rw [Hq.out]
  have hq : (n : Int) - (p : Int) = (q : Int) := by omega
  clear H hl hlen
  go_enter Try.func45, Try.ntmps45
  go_wp2_with fail
  go_quiet (fail)
  go_wp2_with fail
  go_ret
  exact ⟨rfl, _, rfl⟩
theorem curLeft_any {w : World} {B h : Nat} {l : List Nat} {e : Int} (H : Cu w B h l e) :
    Calls Try.prog 26 #[.pointer (some ⟨h, 0, none⟩)] w fun en w' => en = .returned (.int .i64 (Bm.left l e : Int)) ∧ ∃ k, w' = w.drewN k := by
  have h2 : w.cell? ⟨h, 2, none⟩ = some (.int .i64 e) := by obtain ⟨A, c, f, p, H, hl⟩ := H; exact H.c2
  have HH := Lib.hid H
  clear H
  by_cases he : e = 0
  · subst he
    rw [Bm.left_ok]
    go_enter Try.func26, Try.ntmps26
    go_wp2_with fail
    refine (curleft_any HH.out).mono ?_
    rintro e w1 ⟨rfl, k, rfl⟩
    go_wp2_with fail
    go_ret
    exact ⟨rfl, _, rfl⟩
  · rw [Bm.left_err he]
    have hne : (e != 0) = true := by simpa using he
    clear he
    go_enter Try.func26, Try.ntmps26
    go_wp2_with fail
    go_ret
    exact ⟨rfl, 0, rfl⟩
end Go.Proofs.Ytbhdgfpaoghnbaa
