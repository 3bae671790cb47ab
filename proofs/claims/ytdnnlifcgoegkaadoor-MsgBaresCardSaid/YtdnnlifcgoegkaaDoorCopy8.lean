/- Contracts of slices.Clone at peers and pairs, and of msg.Copy. -/
import Derived.Test.YtdnnlifcgoegkaaDoorTab
import Derived.Lib.SliceRun
namespace Go.Proofs.YtdnnlifcgoegkaaDoor
open Go.RowKit
set_option linter.unusedVariables false
open Gm

theorem clonepeers_any {w : World} {B : Nat} {v : Value} {l : List (Nat × Nat)} (h : Sl fPeer w B v l) (hl : l.length ≤ 1000000000) :
    Calls Tryd.prog 37 #[v] w fun e w' => ∃ v', e = .returned v' ∧ w'.ownsRow w.heap.size 26 2 v' l.length (two fPeer l) ∧ Below w.heap.size w w' := by
  have q22 : ∀ (w : World) (a : Option Addr) (n c n' c' : Nat), (binOp .eql 27 (.slice a n c) (.slice none n' c')).run Tryd.prog w = .ok (.bool a.isNone) w := fun w a n c n' c' => Lib.run_eql_slice_nil w _ _ a n c n' c' Tryd.underlying27
  obtain ⟨A, c, rfl, hs, hle, hmax, hnull⟩ := h.ex
  cases A with
  | none =>
    have hc := hnull rfl
    subst hc
    have h0 : l = [] := List.eq_nil_of_length_eq_zero (by omega)
    subst h0
    clear hnull hs hmax h
    go_enter Tryd.func37, Tryd.ntmps37
    go_wp2_with fail
    go_ret
    exact ⟨_, rfl, World.ownsRow_nil _ _ 26 2, Below.refl _ _⟩
  | some a =>
    have hb0 : Below w.heap.size w (w.alloc (.cells #[] 26)) := (Below.refl _ _).alloc (Nat.le_refl _) _
    have Hs := Lib.hid (hs.all.below hb0)
    have ho0 : (w.alloc (.cells #[] 26)).ownsRow w.heap.size 26 2 (.slice (some ⟨w.heap.size, 0, none⟩) 0 0) 0 [] := World.ownsRow_lit w #[] 0 (Nat.le_refl _) (by decide) rfl
    have Ho0 := Lib.hid ho0
    have Hb0 := Lib.hid hb0
    obtain ⟨n, Hn⟩ : ∃ n, Hid (l.length = n) := ⟨_, rfl⟩
    rw [Hn.out] at hl hle ⊢
    clear hs ho0 hnull hb0 h
    go_enter Tryd.func37, Tryd.ntmps37
    go_wp2_with (at_builtin; refine wpList_append_two peerT2 fPeer_one _ _ rfl rfl w.heap.size _ 0 [] rfl Ho0.out n c rfl Hn.out (fun h => by cases h) Hs.out (by omega) (by simp) ?_; intro v2 w2 ho2 hg2)
    go_ret
    rw [Nat.zero_add, List.nil_append] at ho2
    exact ⟨_, rfl, ho2, Hb0.out.grown hg2 (by simp) (fun k hk => (Ho0.out.lt k hk).1)⟩

theorem clonepairs_any {w : World} {B : Nat} {v : Value} {l : List (ByteArray × ByteArray)} (h : Sl fPair w B v l) (hl : l.length ≤ 1000000000) :
    Calls Tryd.prog 38 #[v] w fun e w' => ∃ v', e = .returned v' ∧ w'.ownsRow w.heap.size 40 2 v' l.length (two fPair l) ∧ Below w.heap.size w w' := by
  have q22 : ∀ (w : World) (a : Option Addr) (n c n' c' : Nat), (binOp .eql 28 (.slice a n c) (.slice none n' c')).run Tryd.prog w = .ok (.bool a.isNone) w := fun w a n c n' c' => Lib.run_eql_slice_nil w _ _ a n c n' c' Tryd.underlying28
  obtain ⟨A, c, rfl, hs, hle, hmax, hnull⟩ := h.ex
  cases A with
  | none =>
    have hc := hnull rfl
    subst hc
    have h0 : l = [] := List.eq_nil_of_length_eq_zero (by omega)
    subst h0
    clear hnull hs hmax h
    go_enter Tryd.func38, Tryd.ntmps38
    go_wp2_with fail
    go_ret
    exact ⟨_, rfl, World.ownsRow_nil _ _ 40 2, Below.refl _ _⟩
  | some a =>
    have hb0 : Below w.heap.size w (w.alloc (.cells #[] 40)) := (Below.refl _ _).alloc (Nat.le_refl _) _
    have Hs := Lib.hid (hs.all.below hb0)
    have ho0 : (w.alloc (.cells #[] 40)).ownsRow w.heap.size 40 2 (.slice (some ⟨w.heap.size, 0, none⟩) 0 0) 0 [] := World.ownsRow_lit w #[] 0 (Nat.le_refl _) (by decide) rfl
    have Ho0 := Lib.hid ho0
    have Hb0 := Lib.hid hb0
    obtain ⟨n, Hn⟩ : ∃ n, Hid (l.length = n) := ⟨_, rfl⟩
    rw [Hn.out] at hl hle ⊢
    clear hs ho0 hnull hb0 h
    go_enter Tryd.func38, Tryd.ntmps38
    go_wp2_with (at_builtin; refine wpList_append_two pairT2 fPair_one _ _ rfl rfl w.heap.size _ 0 [] rfl Ho0.out n c rfl Hn.out (fun h => by cases h) Hs.out (by omega) (by simp) ?_; intro v2 w2 ho2 hg2)
    go_ret
    rw [Nat.zero_add, List.nil_append] at ho2
    exact ⟨_, rfl, ho2, Hb0.out.grown hg2 (by simp) (fun k hk => (Ho0.out.lt k hk).1)⟩

theorem own2_from {w w' : World} {base n sz : Nat} {t : TypeId} {v : Value} {xs : List Value} (h : w.ownsRow base t sz v n xs) (hk : ∀ i, base ≤ i → i < w.heap.size → w'.heap[i]? = w.heap[i]?) : w'.ownsRow base t sz v n xs := by
  obtain ⟨h1, h2⟩ := h
  refine ⟨h1, ?_⟩
  rcases h2 with h2 | ⟨g, cap, cur, hv, hg, hh, r⟩
  · exact .inl h2
  · exact .inr ⟨g, cap, cur, hv, hg, by rw [hk g hg (Array.getElem?_eq_some_iff.1 hh).1]; exact hh, r⟩

/-- a message whose slices are the call's own, from base on -/
structure Mo (w : World) (base : Nat) (m : Ms) (v : Value) : Prop where
  ex : ∃ vp vq, v = .agg #[.int .i64 m.kind, .int .u32 (m.rid : Int), .int .u8 (m.code : Int), .bool m.has, .int .u64 (m.id : Int), .string m.key, .string m.val, .int .u64 (m.pid : Int), .int .u16 (m.pad : Int), vp, vq] ∧ w.ownsRow base 26 2 vp m.peers.length (two fPeer m.peers) ∧ w.ownsRow base 40 2 vq m.pairs.length (two fPair m.pairs)
  ok : Ok m
theorem Mo.mv {w : World} {base : Nat} {m : Ms} {v : Value} (h : Mo w base m v) : Mv w w.heap.size m v := by
  obtain ⟨⟨vp, vq, e, hp, hq⟩, ok⟩ := h
  exact ⟨⟨vp, vq, e, Sl.of_own hp, Sl.of_own hq⟩, ok⟩
/-- a new variable for a message -/
theorem msg_box (w : World) : ∃ b w0, w.heap.size = b ∧ w.alloc (.cells #[.int .i64 0, .int .u32 0, .int .u8 0, .bool false, .int .u64 0, .string ⟨#[]⟩, .string ⟨#[]⟩, .int .u64 0, .int .u16 0, .slice none 0 0, .slice none 0 0] 30) = w0 ∧ w0.heap.size = b + 1 ∧
    Whole w0 b 30 #[.int .i64 0, .int .u32 0, .int .u8 0, .bool false, .int .u64 0, .string ⟨#[]⟩, .string ⟨#[]⟩, .int .u64 0, .int .u16 0, .slice none 0 0, .slice none 0 0] ∧ Below b w w0 :=
  ⟨_, _, rfl, rfl, by simp, Whole.made _ _ _, (Below.refl _ _).alloc (Nat.le_refl _) _⟩

set_option maxRecDepth 100000 in
theorem copy_any {w : World} {B : Nat} {m : Ms} {v : Value} (H : Mv w B m v) (hlp : m.peers.length ≤ 1000000000) (hlq : m.pairs.length ≤ 1000000000) :
    Calls Tryd.prog 13 #[v] w fun e w' => ∃ v', e = .returned v' ∧ Mo w' w.heap.size m v' ∧ Below w.heap.size w w' := by
  obtain ⟨b, vp, vq, w0, rfl, hb, hal, hsz, hx, hb0⟩ := boxed H
  obtain ⟨b2, w1, hb2, hal2, hsz2, hy, hb1⟩ := msg_box w0
  have e2 : b2 = b + 1 := by omega
  subst e2
  have hx1 := hx.below hb1 (by omega)
  have HX := Lib.hid hx1
  have HY := Lib.hid hy
  have HB := Lib.hid (hb0.trans (hb1.mono (by omega)))
  have c9 : w1.cell? ⟨b, 9, none⟩ = some vp := hx1.bx.at_ 9
  have f9 : w1.frozen? ⟨b, 9, none⟩ = false := hx1.bx.free 9
  clear hx hx1 hy hb0 hb1 hb2 H
  go_enter Tryd.func13, Tryd.ntmps13
  go_wp2_with fail
  refine (clonepeers_any HX.out.peers hlp).mono ?_
  rintro e w2 ⟨up', rfl, hop, hb2⟩
  obtain ⟨upA, upc, rfl⟩ := own_shape hop
  obtain ⟨up, hup⟩ : ∃ up, up = Value.slice upA m.peers.length upc := ⟨_, rfl⟩
  rw [← hup] at hop
  have HB2 := Lib.hid hb2
  have HOp := Lib.hid hop
  clear hop hb2
  have hx2 := HX.out.kept HB2.out
  have hy2 := HY.out.below HB2.out (by omega)
  have k9 : w2.cell? ⟨b, 9, none⟩ = some vp := hx2.bx.at_ 9
  have g9 : w2.frozen? ⟨b, 9, none⟩ = false := hx2.bx.free 9
  have hb3 : Below b w1 (w2.setCell ⟨b, 9, none⟩ up) := (HB2.out.mono (by omega)).setCell (p := ⟨b, 9, none⟩) (Nat.le_refl b) up
  have HY3 := Lib.hid (hy2.other (p := ⟨b, 9, none⟩) (by show b + 1 ≠ b; omega) up)
  have HX3 : Hid (Bx (w2.setCell ⟨b, 9, none⟩ up) b m up vq) := Lib.hid (hx2.bx.put 9 up)
  have HQ3 := Lib.hid (HX.out.pairs.below hb3)
  have HOp3 := Lib.hid (ownsRow_setCell_below HOp.out (a := ⟨b, 9, none⟩) (by show b < w1.heap.size; omega) up)
  have HB3 := Lib.hid (HB.out.trans hb3)
  have hs3 : (w2.setCell ⟨b, 9, none⟩ up).heap.size = w2.heap.size := by simp [World.setCell]
  have hs2 := HB2.out.size
  clear hx2 hy2 hb3
  obtain ⟨w3, hw3⟩ : ∃ w3, w2.setCell ⟨b, 9, none⟩ up = w3 := ⟨_, rfl⟩
  rw [hw3] at HY3 HX3 HQ3 HOp3 HB3 hs3
  have c10 : w3.cell? ⟨b, 10, none⟩ = some vq := HX3.out.at_ 10
  rw [hup] at hw3
  have HUP := Lib.hid hup
  clear hup
  go_wp2_with fail
  refine (clonepairs_any HQ3.out hlq).mono ?_
  rintro e w4 ⟨uq', rfl, hoq, hb4⟩
  obtain ⟨uqA, uqc, rfl⟩ := own_shape hoq
  obtain ⟨uq, huq⟩ : ∃ uq, uq = Value.slice uqA m.pairs.length uqc := ⟨_, rfl⟩
  rw [← huq] at hoq
  have hx4 := HX3.out.below hb4 (by omega)
  have hy4 := HY3.out.below hb4 (by omega)
  have HOp4 := Lib.hid (own2_below HOp3.out hb4)
  have HOq := Lib.hid hoq
  have k10 : w4.cell? ⟨b, 10, none⟩ = some vq := hx4.at_ 10
  have g10 : w4.frozen? ⟨b, 10, none⟩ = false := hx4.free 10
  have hb5 : Below b w3 (w4.setCell ⟨b, 10, none⟩ uq) := (hb4.mono (by omega)).setCell (p := ⟨b, 10, none⟩) (Nat.le_refl b) uq
  have HX5 : Hid (Bx (w4.setCell ⟨b, 10, none⟩ uq) b m up uq) := Lib.hid (hx4.put 10 uq)
  have HY5 := Lib.hid (hy4.other (p := ⟨b, 10, none⟩) (by show b + 1 ≠ b; omega) uq)
  have HOp5 := Lib.hid (ownsRow_setCell_below HOp4.out (a := ⟨b, 10, none⟩) (by show b < w1.heap.size; omega) uq)
  have HOq5 := Lib.hid (ownsRow_setCell_below HOq.out (a := ⟨b, 10, none⟩) (by show b < w3.heap.size; omega) uq)
  have HB5 := Lib.hid (HB3.out.trans hb5)
  clear hx4 hy4 hb4 hb5 hoq
  obtain ⟨w5, hw5⟩ : ∃ w5, w4.setCell ⟨b, 10, none⟩ uq = w5 := ⟨_, rfl⟩
  rw [hw5] at HX5 HY5 HOp5 HOq5 HB5
  rw [huq] at hw5
  have HUQ := Lib.hid huq
  clear huq
  go_wp2_with (first | (refine wpList_load_struct Tryd.underlying30 (msgI rfl) rfl rfl rfl HX5.out ?_) | (refine wpList_store_whole rfl rfl rfl rfl rfl HY5.out (msgI rfl) rfl (by simp [Value.oneCell', HUP.out, HUQ.out]) ?_))
  have HY6 := Lib.hid (HY5.out.row #[.int .i64 m.kind, .int .u32 (m.rid : Int), .int .u8 (m.code : Int), .bool m.has, .int .u64 (m.id : Int), .string m.key, .string m.val, .int .u64 (m.pid : Int), .int .u16 (m.pad : Int), up, uq])
  refine bodyPost_ret (v := .agg #[.int .i64 m.kind, .int .u32 (m.rid : Int), .int .u8 (m.code : Int), .bool m.has, .int .u64 (m.id : Int), .string m.key, .string m.val, .int .u64 (m.pid : Int), .int .u16 (m.pad : Int), up, uq]) ?_ rfl ⟨_, rfl, ⟨⟨up, uq, rfl, ?_, ?_⟩, HX.out.ok⟩, ?_⟩
  · exact results_cell_row rfl _ _ _ _ _ (0, 0) _ rfl HY6.out Tryd.underlying30 rfl (msgI rfl)
  · exact own2_lower (own2_from HOp5.out (fun i hi _ => setRow_other w5 (b + 1) i _ (by omega))) (by omega)
  · exact own2_lower (own2_from HOq5.out (fun i hi _ => setRow_other w5 (b + 1) i _ (by omega))) (by omega)
  · rw [hb]; exact below_row HB5.out (by omega) _
end Go.Proofs.YtdnnlifcgoegkaaDoor
