/- Contracts of the reference's field, Put and Enc of layer 10. -/
import Derived.Test.YtjkjhnpemhlbpaaDoorRlist
import Derived.Test.YtjkjhnpemhlbpaaDoorTenc2
import Derived.Test.YtjkjhnpemhlbpaaDoorRright8
namespace Go.Proofs.YtjkjhnpemhlbpaaDoor
open Go.RowKit
set_option linter.unusedVariables false
set_option maxRecDepth 100000
set_option linter.unusedSimpArgs false
open Gm

theorem rfield_any {w : World} {B : Nat} {m : Ms} {vm : Value} (H : Mv w B m vm) (HF : Few m) (t : Nat) (h1 : 1 ≤ t) (h9 : t ≤ 9) :
    Calls Tryd.prog 30 #[vm, .int .i64 (t : Int)] w (Made .u8 5 w.heap.size (Tg.field m t) w) := by
  rcases Tg.tags h1 h9 with rfl | rfl | rfl | rfl | rfl | rfl | rfl | rfl | rfl
  · exact rfield_1 H HF
  · exact rfield_2 H HF
  · exact rfield_3 H HF
  · exact rfield_4 H HF
  · exact rfield_5 H HF
  · exact rfield_6 H HF
  · exact rfield_7 H HF
  · exact rfield_8 H HF
  · exact rfield_9 H HF

/-- the first j fields -/
def Tg.front (m : Ms) : Nat → List Nat
  | 0 => Um.put m.kind.toNat
  | j + 1 => Tg.front m j ++ Tg.field m (j + 1)
theorem Tg.front_put (m : Ms) : Tg.front m 9 = Tg.put m := by rw [Tg.put_eq]; rfl
theorem Tg.front_le {m : Ms} (HF : Few m) : ∀ j, (Tg.front m j).length ≤ 10 + 20000 * j
  | 0 => Um.put_le _
  | j + 1 => by
    have h1 := Tg.front_le HF j
    have h2 := Tg.field_few HF (j + 1)
    show (Tg.front m j ++ Tg.field m (j + 1)).length ≤ _
    rw [List.length_append]
    omega

set_option maxHeartbeats 1000000 in
theorem rput10_any {w : World} {B : Nat} {m : Ms} {vm : Value} (H : Mv w B m vm) (HF : Few m) (hkn : known m.kind = true) :
    Calls Tryd.prog 18 #[vm] w (Made .u8 5 w.heap.size (Tg.put m) w) := by
  obtain ⟨b, vp, vq, w0, rfl, hsb, hal, hsz, hx0, hb0⟩ := boxedk H.all (Nat.le_refl _)
  rw [hsb] at hx0
  obtain ⟨Ap, cp, rfl, _, hp1, hp2, _⟩ := hx0.peers.ex
  obtain ⟨Aq, cq, rfl, _, hq1, hq2, _⟩ := hx0.pairs.ex
  unfold maxLen at hp2 hq2
  have okm := HF.ok
  have HFF := Lib.hid HF
  have hb' : 0 < m.kind ∧ m.kind < 13 := by unfold known at hkn; simpa using hkn
  obtain ⟨K, hK⟩ : ∃ K : Nat, m.kind = (K : Int) := ⟨m.kind.toNat, by omega⟩
  have HN0 : Hid (On b b m (.slice Ap m.peers.length cp) (.slice Aq m.pairs.length cq) w (.slice none 0 0) [] (.slice none 0 0) w0) := Lib.hid ⟨World.ownsRow_nil _ _ _ _, hx0, Kept.of_below (by rw [hsb]; exact hb0) _, by simp [Value.ownBlock], by omega⟩
  obtain ⟨c0, c1, c2, c3, c4, c5, c6, c7, c8, c9, c10⟩ := Bx.cells hx0.bx
  rw [hK] at c0
  have hK13 : K < 13 := by omega
  have P := putr_any (K : Int) w0 (by omega) (by omega)
  rw [Int.toNat_natCast] at P
  have HP := Lib.hid P
  have hbw : b ≤ w0.heap.size := by omega
  have hFr : Um.put K = Tg.front m 0 := by show _ = Um.put m.kind.toNat; rw [hK, Int.toNat_natCast]
  rw [hFr] at HP
  have HMV : Hid (∀ {vb : Value} {wr : World} {xs : List Nat}, On b b m (.slice Ap m.peers.length cp) (.slice Aq m.pairs.length cq) w (.slice none 0 0) xs vb wr → Mv wr b m (.agg #[.int .i64 m.kind, .int .u32 (m.rid : Int), .int .u8 (m.code : Int), .bool m.has, .int .u64 (m.id : Int), .string m.key, .string m.val, .int .u64 (m.pid : Int), .int .u16 (m.pad : Int), .slice Ap m.peers.length cp, .slice Aq m.pairs.length cq])) := Lib.hid (fun h => ⟨⟨_, _, rfl, h.box.peers, h.box.pairs⟩, okm⟩)
  have HFew := Lib.hid (Tg.front_le HF)
  rw [← Tg.front_put]
  clear H hx0 hb0 HF hsz P hFr hb' hK hkn c1 c2 c3 c4 c5 c6 c7 c8 c9 c10
  go_enter Tryd.func18, Tryd.ntmps18
  go_wp2_with fail
  refine (HP.out).mono ?_
  rintro e w1 ⟨v1, rfl, ho1, hb1⟩
  have HN1 : Hid (On b b m (.slice Ap m.peers.length cp) (.slice Aq m.pairs.length cq) w (.slice none 0 0) (Tg.front m 0) v1 w1) := Lib.hid (by
    have h := HN0.out.behind hb1
    exact ⟨own_lower ho1 hbw, h.box, ⟨h.kept.grown, .inr fun k hk => by have := own_lt ho1 k hk; omega⟩, fun e => by have := own_lt ho1 b e; have := Whole.lt HN0.out.box.bx; omega, h.size⟩)
  clear ho1 hb1 c0
  go_wp2_with fail
  go_loopw [3, 4] (fun vb vi wr => ∃ (j : Nat), j ≤ 9 ∧ vi = .int .i64 ((j : Int) + 1) ∧ Hid (On b b m (.slice Ap m.peers.length cp) (.slice Aq m.pairs.length cq) w (.slice none 0 0) (Tg.front m j) vb wr)) (fun _ vi _ => 10 - (intOf vi).toNat)
  case atStart => exact ⟨0, by omega, by go_num, HN1⟩
  case round =>
    obtain ⟨j, hj, rfl, HR⟩ := hrel
    by_cases hlt : j < 9
    · obtain ⟨g0, g1, g2, g3, g4, g5, g6, g7, g8, g9, g10⟩ := Bx.cells HR.out.box.bx
      obtain ⟨t, ht⟩ : ∃ t, j + 1 = t := ⟨_, rfl⟩
      have e1 : (j : Int) + 1 = (t : Int) := by omega
      have ht10 : t < 10 := by omega
      have C := Lib.hid (rfield_any (HMV.out HR.out) HFF.out t (by omega) (by omega))
      have hle := HFew.out j
      have hq2 := Tg.field_few HFF.out t
      obtain ⟨k, hk⟩ : ∃ k, Hid ((Tg.front m j).length = k) := ⟨_, rfl⟩
      obtain ⟨q, hq⟩ : ∃ q, Hid ((Tg.field m t).length = q) := ⟨_, rfl⟩
      rw [hk.out] at hle
      rw [hq.out] at hq2
      have HT : Hid (Tg.front m j ++ Tg.field m t = Tg.front m t) := Lib.hid (by rw [← ht]; rfl)
      clear ht
      go_wp2_with fail
      refine (C.out).mono ?_
      rintro e w2 ⟨v2, rfl, ho2, hb2⟩
      rw [hq.out] at ho2
      obtain ⟨A, c, rfl⟩ := own_shape ho2
      have HSee := Lib.hid (Sees.of_own (l := Tg.field m t) (by rw [hq.out]; exact ho2))
      have HNil := Lib.hid (own_nil ho2)
      have HN2 := Lib.hid (HR.out.behind hb2)
      have HOw := Lib.hid HN2.out.own
      rw [hk.out] at HOw
      clear ho2 hb2 g0 g1 g2 g3 g4 g5 g6 g7 g8 g9 g10
      have hz2 := HN2.out.size
      go_wp2_with (at_builtin; refine wpList_append_rowk byteT _ _ rfl rfl b _ k _ rfl HOw.out q c rfl hq.out HNil.out HSee.out (by omega) hz2 ?_; intro v3 w3 ho3 hk3)
      have h3 := HN2.out.app (Tg.field m t) k q hk.out hq.out ho3 hk3
      rw [HT.out] at h3
      have HN3 := Lib.hid h3
      clear h3 ho3 hk3
      go_roundw
      case rel => exact ⟨t, by omega, by go_num, HN3⟩
      case measure => simp [intOf]; omega
    · have hjn : j = 9 := by omega
      subst hjn
      go_wp2_with fail
      go_ret
      exact ⟨_, rfl, by rw [hsb]; exact HR.out.own, by rw [hsb]; exact HR.out.kept.below (fun k hk => by cases hk) (by omega)⟩
set_option maxHeartbeats 1000000 in
theorem renc10_any {w : World} {B : Nat} {m : Ms} {v : Value} (H : Mv w B m v) (hlp : m.peers.length ≤ 1000000000) (hlq : m.pairs.length ≤ 1000000000) (hkey : m.key.size ≤ 1000) :
    Calls Tryd.prog 9 #[v] w (EncPost (Tg.enc m) w) := by
  obtain ⟨b, vp, vq, w0, rfl, hsb, hal, hsz, hx0, hb0⟩ := boxed H
  have okm := H.ok
  have HB0 := Lib.hid hb0
  have HX0 := Lib.hid hx0
  obtain ⟨c0, c1, c2, c3, c4, c5, c6, c7, c8, c9, c10⟩ := hx0.cells
  have R := Lib.hid (rright_any hx0.mv hlp hlq)
  obtain ⟨r, hr⟩ : ∃ r, Hid (right m = r) := ⟨_, rfl⟩
  rw [hr.out] at R
  by_cases hr0 : r = 0
  case neg =>
    have E : Tg.enc m = ([], r) := by rw [← hr.out]; exact Tg.enc_bad (by rw [hr.out]; exact hr0)
    rw [E]
    have hlt : ¬ (r : Int) = 0 := by omega
    clear H hx0 hb0 okm E
    go_enter Tryd.func9, Tryd.ntmps9
    go_wp2_with fail
    refine (R.out).mono ?_
    rintro e w1 ⟨rfl, hb1⟩
    have HB1 := Lib.hid (HB0.out.trans (hb1.mono (by omega)))
    clear hb1
    go_wp2_with fail
    go_ret2
    exact ⟨_, rfl, World.ownsRow_nil _ _ _ _, by first | exact HB1.out | (rw [hsb]; exact HB1.out)⟩
  subst hr0
  have hright : right m = 0 := hr.out
  have HF := few_right okm hkey hright
  have hkn := (Fm.right_parts hright).1
  have E : Tg.enc m = (Tg.put m, 0) := Tg.enc_good hright
  rw [E]
  clear H hx0 hb0 E hright okm
  go_enter Tryd.func9, Tryd.ntmps9
  go_wp2_with fail
  refine (R.out).mono ?_
  rintro e w1 ⟨rfl, hb1⟩
  have hx1 := HX0.out.kept hb1
  have hw1 := hb1.size
  have HB1 := Lib.hid (HB0.out.trans (hb1.mono (by omega)))
  clear hb1 c0 c1 c2 c3 c4 c5 c6 c7 c8 c9 c10
  obtain ⟨c0, c1, c2, c3, c4, c5, c6, c7, c8, c9, c10⟩ := hx1.cells
  have P := Lib.hid (rput10_any hx1.mv HF hkn)
  clear hx1
  go_wp2_with fail
  refine (P.out).mono ?_
  rintro e w2 ⟨v2, rfl, ho2, hb2⟩
  have HO2 := Lib.hid (own_lower ho2 (by omega : b ≤ w1.heap.size))
  have HB2 := Lib.hid (HB1.out.trans (hb2.mono (by omega)))
  clear ho2 hb2
  go_wp2_with fail
  go_ret2
  exact ⟨_, rfl, by first | exact HO2.out | (rw [hsb]; exact HO2.out), by first | exact HB2.out | (rw [hsb]; exact HB2.out)⟩
end Go.Proofs.YtjkjhnpemhlbpaaDoor
