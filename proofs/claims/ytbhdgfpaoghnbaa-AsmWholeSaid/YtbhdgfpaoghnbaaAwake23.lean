/- Contract of layer 23's law's awake. -/
import Derived.Test.YtbhdgfpaoghnbaaAw23
import Derived.Lib.SlBytesConst
namespace Go.Proofs.Ytbhdgfpaoghnbaa
open Go.RowKit
set_option linter.unusedVariables false
set_option maxRecDepth 100000
set_option linter.unusedSimpArgs false

theorem Piece.same {w W : World} {B b off n c : Nat} {l : List Nat} (h : Piece w B (.slice (some ⟨b, off, none⟩) n c) l) (e : W.heap[b]? = w.heap[b]?) : Piece W B (.slice (some ⟨b, off, none⟩) n c) l := by
  obtain ⟨A, c', e0, hs, k⟩ := h
  injection e0 with e1 e2 e3
  subst e1
  refine ⟨_, c', by rw [e2, e3], fun hl => ?_, k⟩
  obtain ⟨b', off', e1, h2, hc⟩ := hs hl
  cases e1
  exact ⟨_, _, rfl, h2, fun j hj => by
    have h3 := hc j hj
    unfold World.cell? at h3 ⊢
    rw [e]
    exact h3⟩
theorem Gx.same {w W : World} {b a c : Nat} {g : Gd} (h : Gx w b g (some ⟨a, 0, none⟩) c) (e1 : W.heap[b]? = w.heap[b]?) (e2 : W.heap[a]? = w.heap[a]?) : Gx W b g (some ⟨a, 0, none⟩) c := ⟨h.whole.same e1, h.piece.same e2, h.ok⟩
/-- a datagram that is stored in a new variable, its slice written out -/
theorem var_lit {w : World} {g : Gd} (hg : g.Ok) {A : Option Addr} {n c : Nat} (hn : g.body.length = n) (hp : Piece w w.heap.size (.slice A n c) g.body) : ∃ b w0 w1, w.heap.size = b ∧ w.alloc (.cells #[.int .u8 0, .int .u8 0, .int .u32 0, .int .u32 0, .int .u16 0, .int .u16 0, .slice none 0 0] 36) = w0 ∧ Whole w0 b 36 #[.int .u8 0, .int .u8 0, .int .u32 0, .int .u32 0, .int .u16 0, .int .u16 0, .slice none 0 0] ∧ w0.setRow b #[.int .u8 (g.kind : Int), .int .u8 (g.version : Int), .int .u32 (g.epoch : Int), .int .u32 (g.id : Int), .int .u16 (g.index : Int), .int .u16 (g.count : Int), .slice A n c] = w1 ∧ Gx w1 b g A c ∧ Below w.heap.size w w1 ∧ b < w1.heap.size := by
  subst hn
  obtain ⟨b, A', c', w0, w1, e, h⟩ := var_gv (⟨⟨A, c, rfl, hp⟩, hg⟩ : Gv w w.heap.size g _)
  injection e with e
  have := congrArg (fun a : Array Value => a[6]?) e
  simp at this
  obtain ⟨rfl, rfl⟩ := this
  exact ⟨b, w0, w1, h⟩
theorem Gx.takes {X : Nat → Prop} {W : World} {b a c n : Nat} {g : Gd} (hx : Gx W b g (some ⟨a, 0, none⟩) c) (hn : g.body.length = n) (hb : X b) (ha : X a) : ∀ W1 : World, (∀ b, X b → W1.heap[b]? = W.heap[b]?) → Gv W1 b g (.agg #[.int .u8 (g.kind : Int), .int .u8 (g.version : Int), .int .u32 (g.epoch : Int), .int .u32 (g.id : Int), .int .u16 (g.index : Int), .int .u16 (g.count : Int), .slice (some ⟨a, 0, none⟩) n c]) := fun W1 he => by
  subst hn
  exact (hx.same (he b hb) (he a ha)).gv
theorem seen_any (v : Bool) (a b c : Int) (w : World) : (Instr.field 51 (.agg #[.bool v, .int .u32 a, .int .u32 b, .int .u64 c]) 0).run Try.prog w = .ok (.bool v) w := by kernel_rfl
def bM : Tm.Lim := ⟨2, 100, 2⟩
def bGx : Gd := ⟨1, 0, 1, 3, 0, 2, [97]⟩
def bGy : Gd := ⟨1, 0, 1, 3, 1, 2, [98]⟩
def bGz : Gd := ⟨2, 0, 0, 0, 0, 1, []⟩
theorem bM_ok : bM.Ok := ⟨by decide, by decide, by decide, by decide, by decide, by decide⟩
theorem bGx_ok : bGx.Ok := ⟨by decide, by decide, by decide, by decide, by decide, by decide, by decide⟩
theorem bGy_ok : bGy.Ok := ⟨by decide, by decide, by decide, by decide, by decide, by decide, by decide⟩
theorem bGz_ok : bGz.Ok := ⟨by decide, by decide, by decide, by decide, by decide, by decide, by decide⟩
def bR1 : An.R := An.take bM An.zero 5 bGy
def bR2 : An.R := An.take bM bR1.s 5 bGy
def bR3 : An.R := An.take bM bR2.s 5 bGx
def bR4 : An.R := An.take bM bR3.s 5 bGx
def bR5 : An.R := An.take bM bR4.s 5 bGz
theorem b1_ok : bR1.s.Ok bM := An.take_ok (An.ok_zero _) bM_ok bGy_ok (by decide)
theorem b2_ok : bR2.s.Ok bM := An.take_ok b1_ok bM_ok bGy_ok (by decide)
theorem b3_ok : bR3.s.Ok bM := An.take_ok b2_ok bM_ok bGx_ok (by decide)
theorem b4_ok : bR4.s.Ok bM := An.take_ok b3_ok bM_ok bGx_ok (by decide)
theorem b5_ok : bR5.s.Ok bM := An.take_ok b4_ok bM_ok bGz_ok (by decide)
set_option maxHeartbeats 2000000 in
theorem awake23 (w : World) : Calls Try.prog 6 #[] w fun e w' => e = .returned (.bool true) ∧ Below w.heap.size w w' := by
  have N1 := Lib.hid (fun W => anew23_any bM bM_ok W)
  have A1 := Lib.hid (fun (W : World) p (X : Nat → Prop) b a (H : Kx23 w p bM An.zero X W) (hx : Gx W b bGy (some ⟨a, 0, none⟩) 1) (hb : X b) (ha : X a) => atake_kx H bM_ok (An.ok_zero _) 5 (by decide) (hx.takes (n := 1) rfl hb ha) (by decide))
  have A2 := Lib.hid (fun (W : World) p (X : Nat → Prop) b a (H : Kx23 w p bM bR1.s X W) (hx : Gx W b bGy (some ⟨a, 0, none⟩) 1) (hb : X b) (ha : X a) => atake_kx H bM_ok b1_ok 5 (by decide) (hx.takes (n := 1) rfl hb ha) (by decide))
  have A3 := Lib.hid (fun (W : World) p (X : Nat → Prop) b a (H : Kx23 w p bM bR2.s X W) (hx : Gx W b bGx (some ⟨a, 0, none⟩) 1) (hb : X b) (ha : X a) => atake_kx H bM_ok b2_ok 5 (by decide) (hx.takes (n := 1) rfl hb ha) (by decide))
  have A4 := Lib.hid (fun (W : World) p (X : Nat → Prop) b a (H : Kx23 w p bM bR3.s X W) (hx : Gx W b bGx (some ⟨a, 0, none⟩) 1) (hb : X b) (ha : X a) => atake_kx H bM_ok b3_ok 5 (by decide) (hx.takes (n := 1) rfl hb ha) (by decide))
  have A5 := Lib.hid (fun (W : World) p (X : Nat → Prop) (H : Kx23 w p bM bR4.s X W) => atake_kx H bM_ok b4_ok 5 (by decide) (B := 0) (g := bGz) (u := .agg #[.int .u8 2, .int .u8 0, .int .u32 0, .int .u32 0, .int .u16 0, .int .u16 1, .slice none 0 0]) (fun _ _ => ⟨⟨none, 0, rfl, Piece.nil _ _⟩, bGz_ok⟩) (by decide))
  have M5 := Lib.hid (fun (W : World) p (H : Lone23 w p bM bR5.s W) => amem_lone H b5_ok 5 (by decide))
  have M6 := Lib.hid (fun (W : World) p (H : Lone23 w p bM bR5.s W) => amem_lone H b5_ok 6 (by decide))
  have O0 := Lib.hid (fun W => aheld23_nil W)
  rw [show (An.take bM An.zero 5 bGy) = bR1 from rfl, show bR1.ok = false by decide +kernel, show bR1.err = 0 by decide +kernel] at A1
  rw [show (An.take bM bR1.s 5 bGy) = bR2 from rfl, show bR2.ok = false by decide +kernel, show bR2.err = 12 by decide +kernel] at A2
  rw [show (An.take bM bR2.s 5 bGx) = bR3 from rfl, show bR3.ok = true by decide +kernel, show bR3.err = 0 by decide +kernel, show bR3.told = [97, 98] by decide +kernel] at A3
  rw [show (An.take bM bR3.s 5 bGx) = bR4 from rfl, show bR4.ok = false by decide +kernel, show bR4.err = 12 by decide +kernel] at A4
  rw [show (An.take bM bR4.s 5 bGz) = bR5 from rfl, show bR5.ok = false by decide +kernel, show bR5.err = 9 by decide +kernel] at A5
  rw [show (bR5.s.mem 5).any = true by decide +kernel] at M5
  rw [show (bR5.s.mem 6).any = false by decide +kernel] at M6
  have kc := fun (w : World) (C : Array Value) (n c : Nat) => Lib.run_convert_bytes_const (P := Try.prog) w 34 5 C n c Try.underlying34 Try.underlying5
  go_enter Try.func6, Try.ntmps6
  go_wp2_with fail
  refine (N1.out _).mono ?_
  rintro e w1 ⟨p, rfl, H1, hb1⟩
  have HA1 := Lib.hid H1
  have HB1 := Lib.hid hb1
  clear H1 hb1
  obtain ⟨ax, hax⟩ : ∃ z, w1.heap.size = z := ⟨_, rfl⟩
  obtain ⟨wa, hwa⟩ : ∃ W, w1.alloc (.cells #[.int .u8 97] 5 (1, 2)) = W := ⟨_, rfl⟩
  have hpx : Piece wa wa.heap.size (.slice (some ⟨ax, 0, none⟩) 1 1) bGx.body := by
    rw [← hwa, ← hax]; exact (piece_litf w1 _ _ 1 (1, 2) rfl rfl (by omega)).all
  have hza : wa.heap.size = ax + 1 := by rw [← hwa, ← hax]; simp
  obtain ⟨bx, wb, wc, hbx, hwb, hWx, hwc, hGx, hbc, hlx⟩ := var_lit bGx_ok (n := 1) rfl hpx
  obtain ⟨ay, hay⟩ : ∃ z, wc.heap.size = z := ⟨_, rfl⟩
  obtain ⟨wd, hwd⟩ : ∃ W, wc.alloc (.cells #[.int .u8 98] 5 (1, 2)) = W := ⟨_, rfl⟩
  have hpy : Piece wd wd.heap.size (.slice (some ⟨ay, 0, none⟩) 1 1) bGy.body := by
    rw [← hwd, ← hay]; exact (piece_litf wc _ _ 1 (1, 2) rfl rfl (by omega)).all
  have hzd : wd.heap.size = ay + 1 := by rw [← hwd, ← hay]; simp
  obtain ⟨by_, we, wf, hby, hwe, hWy, hwf, hGy, hbf, hly⟩ := var_lit bGy_ok (n := 1) rfl hpy
  have hBa : Below w1.heap.size w1 wa := by rw [← hwa]; exact (Below.refl _ _).alloc (Nat.le_refl _) _
  have hBd : Below wc.heap.size wc wd := by rw [← hwd]; exact (Below.refl _ _).alloc (Nat.le_refl _) _
  have hBcf : Below wc.heap.size wc wf := hBd.trans (hbf.mono hBd.size)
  have hBc : Below w1.heap.size w1 wc := hBa.trans (hbc.mono hBa.size)
  have hBf : Below w1.heap.size w1 wf := hBc.trans (hBcf.mono hBc.size)
  have HWx := Lib.hid hWx
  have HWy := Lib.hid hWy
  have HGy := Lib.hid hGy
  have HGx : Hid (Gx wf bx bGx (some ⟨ax, 0, none⟩) 1) := Lib.hid (hGx.kept hBcf)
  have HK0 : Hid (Kx23 w p bM An.zero (fun b => ax ≤ b ∧ b < wf.heap.size) wf) := Lib.hid ⟨_, HA1.out.keep (fun b hb => hBf.block b (HA1.out.lt b hb)), fun b hb => hb.1, HB1.out.trans (hBf.mono HB1.out.size), fun b h1 => ⟨fun h3 => by omega, h1.2⟩⟩
  have hz1 := hbf.size
  have hz2 := hbc.size
  have hIx : Hid ((ax ≤ bx ∧ bx < wf.heap.size) ∧ ax ≤ ax ∧ ax < wf.heap.size) := Lib.hid (by have := hBcf.size; omega)
  have hIy : Hid ((ax ≤ by_ ∧ by_ < wf.heap.size) ∧ ax ≤ ay ∧ ay < wf.heap.size) := Lib.hid (by omega)
  clear hpx hpy hza hzd hBa hBd hBcf hBc hBf hbc hbf hlx hly hGx hGy hWx hWy hz1 hz2
  obtain ⟨zf, hzf⟩ : ∃ z, Hid (wf.heap.size = z) := ⟨_, Lib.hid rfl⟩
  rw [hzf.out] at HK0 hIx hIy
  obtain ⟨y0, y1, y2, y3, y4, y5, y6⟩ : wf.cell? ⟨by_, 0, none⟩ = some (.int .u8 1) ∧ wf.cell? ⟨by_, 1, none⟩ = some (.int .u8 0) ∧ wf.cell? ⟨by_, 2, none⟩ = some (.int .u32 1) ∧ wf.cell? ⟨by_, 3, none⟩ = some (.int .u32 3) ∧ wf.cell? ⟨by_, 4, none⟩ = some (.int .u16 1) ∧ wf.cell? ⟨by_, 5, none⟩ = some (.int .u16 2) ∧ wf.cell? ⟨by_, 6, none⟩ = some (.slice (some ⟨ay, 0, none⟩) 1 1) := HGy.out.cells
  have hkx : (convert 34 34 (.slice (some ⟨ax, 0, none⟩) 1 1)).run Try.prog (w1.alloc (.cells #[.int .u8 97] 5)) = .ok (.slice (some ⟨ax, 0, none⟩) 1 1) wa := by rw [← hax, ← hwa]; exact kc w1 _ 1 1
  have hky : (convert 34 34 (.slice (some ⟨ay, 0, none⟩) 1 1)).run Try.prog (wc.alloc (.cells #[.int .u8 98] 5)) = .ok (.slice (some ⟨ay, 0, none⟩) 1 1) wd := by rw [← hay, ← hwd]; exact kc wc _ 1 1
  clear kc
  have hwc' : wb.setRow bx #[.int .u8 1, .int .u8 0, .int .u32 1, .int .u32 3, .int .u16 0, .int .u16 2, .slice (some ⟨ax, 0, none⟩) 1 1] = wc := hwc
  have hwf' : we.setRow by_ #[.int .u8 1, .int .u8 0, .int .u32 1, .int .u32 3, .int .u16 1, .int .u16 2, .slice (some ⟨ay, 0, none⟩) 1 1] = wf := hwf
  clear hwc hwf
  go_wp2_with (first | (refine wpList_store_whole rfl rfl rfl rfl rfl HWx.out (gramI rfl) rfl (by simp [Value.oneCell']) ?_; rw [hwc']) | (refine wpList_store_whole rfl rfl rfl rfl rfl HWy.out (gramI rfl) rfl (by simp [Value.oneCell']) ?_; rw [hwf']))
  refine (A1.out _ _ _ _ _ HK0.out HGy.out hIy.out.1 hIy.out.2).mono ?_
  rintro e x1 ⟨v1, rfl, q1, h1, s1⟩
  have HK1 := Lib.hid (h1.less (fun b hb => Or.inl hb))
  have HGx1 := Lib.hid (HGx.out.same (s1 _ hIx.out.1) (s1 _ hIx.out.2))
  have HGy1 := Lib.hid (HGy.out.same (s1 _ hIy.out.1) (s1 _ hIy.out.2))
  clear h1 q1 s1 y0 y1 y2 y3 y4 y5 y6
  obtain ⟨y0, y1, y2, y3, y4, y5, y6⟩ : x1.cell? ⟨by_, 0, none⟩ = some (.int .u8 1) ∧ x1.cell? ⟨by_, 1, none⟩ = some (.int .u8 0) ∧ x1.cell? ⟨by_, 2, none⟩ = some (.int .u32 1) ∧ x1.cell? ⟨by_, 3, none⟩ = some (.int .u32 3) ∧ x1.cell? ⟨by_, 4, none⟩ = some (.int .u16 1) ∧ x1.cell? ⟨by_, 5, none⟩ = some (.int .u16 2) ∧ x1.cell? ⟨by_, 6, none⟩ = some (.slice (some ⟨ay, 0, none⟩) 1 1) := HGy1.out.cells
  go_wp2_with fail
  refine (A2.out _ _ _ _ _ HK1.out HGy1.out hIy.out.1 hIy.out.2).mono ?_
  rintro e x2 ⟨v2, rfl, q2, h2, s2⟩
  have HK2 := Lib.hid (h2.less (fun b hb => Or.inl hb))
  have HGx2 := Lib.hid (HGx1.out.same (s2 _ hIx.out.1) (s2 _ hIx.out.2))
  have HGy2 := Lib.hid (HGy1.out.same (s2 _ hIy.out.1) (s2 _ hIy.out.2))
  clear h2 q2 s2 y0 y1 y2 y3 y4 y5 y6
  obtain ⟨y0, y1, y2, y3, y4, y5, y6⟩ : x2.cell? ⟨bx, 0, none⟩ = some (.int .u8 1) ∧ x2.cell? ⟨bx, 1, none⟩ = some (.int .u8 0) ∧ x2.cell? ⟨bx, 2, none⟩ = some (.int .u32 1) ∧ x2.cell? ⟨bx, 3, none⟩ = some (.int .u32 3) ∧ x2.cell? ⟨bx, 4, none⟩ = some (.int .u16 0) ∧ x2.cell? ⟨bx, 5, none⟩ = some (.int .u16 2) ∧ x2.cell? ⟨bx, 6, none⟩ = some (.slice (some ⟨ax, 0, none⟩) 1 1) := HGx2.out.cells
  go_wp2_with fail
  refine (A3.out _ _ _ _ _ HK2.out HGx2.out hIx.out.1 hIx.out.2).mono ?_
  rintro e x3 ⟨v3, rfl, q3, h3, s3⟩
  have HK3 := Lib.hid h3
  have HGx3 := Lib.hid (HGx2.out.same (s3 _ hIx.out.1) (s3 _ hIx.out.2))
  have HR3 := Lib.hid q3
  have hIx3 : Hid (((ax ≤ bx ∧ bx < zf) ∨ v3.ownBlock = some bx) ∧ ((ax ≤ ax ∧ ax < zf) ∨ v3.ownBlock = some ax)) := Lib.hid ⟨.inl hIx.out.1, .inl hIx.out.2⟩
  clear h3 q3 s3 y0 y1 y2 y3 y4 y5 y6
  obtain ⟨y0, y1, y2, y3, y4, y5, y6⟩ : x3.cell? ⟨bx, 0, none⟩ = some (.int .u8 1) ∧ x3.cell? ⟨bx, 1, none⟩ = some (.int .u8 0) ∧ x3.cell? ⟨bx, 2, none⟩ = some (.int .u32 1) ∧ x3.cell? ⟨bx, 3, none⟩ = some (.int .u32 3) ∧ x3.cell? ⟨bx, 4, none⟩ = some (.int .u16 0) ∧ x3.cell? ⟨bx, 5, none⟩ = some (.int .u16 2) ∧ x3.cell? ⟨bx, 6, none⟩ = some (.slice (some ⟨ax, 0, none⟩) 1 1) := HGx3.out.cells
  go_wp2_with fail
  refine (A4.out _ _ _ _ _ HK3.out HGx3.out hIx3.out.1 hIx3.out.2).mono ?_
  rintro e x4 ⟨v4, rfl, q4, h4, s4⟩
  have HK4 := Lib.hid h4
  have HR4 := Lib.hid (own_same HR3.out (fun k hk => s4 k (.inr hk)))
  clear h4 q4 s4 y0 y1 y2 y3 y4 y5 y6
  go_wp2_with fail
  have hsf := seen_any
  refine (A5.out _ _ _ HK4.out).mono ?_
  rintro e x5 ⟨v5, rfl, q5, h5, s5⟩
  have H5 := Lib.hid h5.lone
  have p5 := own_piece (own_same HR4.out (fun k hk => s5 k (.inl (.inr hk))))
  have P5 := Lib.hid p5
  obtain ⟨D5, c5, rfl, _⟩ := p5
  have hcv : (convert 34 9 (.slice D5 2 c5)).run Try.prog x5 = .ok (.string (strOf [97, 98])) x5 := P5.out.conv
  have he : ((strOf [97, 98]).toList == [97, 98]) = true := by decide +kernel
  clear h5 q5 s5
  go_wp2_with fail
  refine (M5.out _ _ H5.out).mono ?_
  rintro e x6 ⟨rfl, h6⟩
  have H6 := Lib.hid (H5.out.stay h6)
  clear h6
  go_wp2_with fail
  refine (M6.out _ _ H6.out).mono ?_
  rintro e x7 ⟨rfl, h7⟩
  have H7 := Lib.hid (H6.out.stay h7)
  clear h7
  go_wp2_with fail
  refine (O0.out _).mono ?_
  rintro e x8 ⟨rfl, h8⟩
  have H8 := Lib.hid (H7.out.stay h8)
  clear h8
  go_wp2_with fail
  go_ret
  exact ⟨rfl, H8.out.below⟩
end Go.Proofs.Ytbhdgfpaoghnbaa
