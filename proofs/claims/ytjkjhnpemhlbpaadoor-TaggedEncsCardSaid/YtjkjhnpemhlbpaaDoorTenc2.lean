/- Contract of tagged.Enc. -/
import Derived.Test.YtjkjhnpemhlbpaaDoorTenc
namespace Go.Proofs.YtjkjhnpemhlbpaaDoor
open Go.RowKit
set_option linter.unusedVariables false
set_option maxRecDepth 100000
set_option linter.unusedSimpArgs false
open Gm

theorem Tg.put_eq (m : Ms) : Tg.put m = (((((((((Um.put m.kind.toNat ++ Tg.field m 1) ++ Tg.field m 2) ++ Tg.field m 3) ++ Tg.field m 4) ++ Tg.field m 5) ++ Tg.field m 6) ++ Tg.field m 7) ++ Tg.field m 8) ++ Tg.field m 9) := by
  show Um.put m.kind.toNat ++ (Tg.field m 1 ++ (Tg.field m 2 ++ (Tg.field m 3 ++ (Tg.field m 4 ++ (Tg.field m 5 ++ (Tg.field m 6 ++ (Tg.field m 7 ++ (Tg.field m 8 ++ (Tg.field m 9 ++ []))))))))) = _
  simp only [List.append_assoc, List.append_nil]

set_option maxHeartbeats 1000000 in
theorem tenc_any {w : World} {B : Nat} {m : Ms} {v : Value} (H : Mv w B m v) (T : Tab w) (hkey : m.key.size ≤ 1000) :
    Calls Tryd.prog 8 #[v] w (EncPost (Tg.enc m) w) := by
  obtain ⟨b, vp, vq, w0, rfl, hsb, hal, hsz, hx0, hb0⟩ := boxedk H.all (Nat.le_refl _)
  rw [hsb] at hx0
  have hT0 := T.below hb0 (by rw [← hsb]; exact T.lt)
  have okm := H.ok
  have HM0 : Hid (Mv w0 b m (.agg #[.int .i64 m.kind, .int .u32 (m.rid : Int), .int .u8 (m.code : Int), .bool m.has, .int .u64 (m.id : Int), .string m.key, .string m.val, .int .u64 (m.pid : Int), .int .u16 (m.pad : Int), vp, vq])) := Lib.hid ⟨⟨vp, vq, rfl, hx0.peers, hx0.pairs⟩, okm⟩
  have HB0 := Lib.hid hb0
  have HX0 := Lib.hid hx0
  obtain ⟨c0, c1, c2, c3, c4, c5, c6, c7, c8, c9, c10⟩ := Bx.cells hx0.bx
  have R := Lib.hid (right_any HM0.out hT0)
  obtain ⟨r, hr⟩ : ∃ r, Hid (right m = r) := ⟨_, rfl⟩
  rw [hr.out] at R
  by_cases hr0 : r = 0
  case neg =>
    have E : Tg.enc m = ([], r) := by rw [← hr.out]; exact Tg.enc_bad (by rw [hr.out]; exact hr0)
    rw [E]
    have hlt : ¬ (r : Int) = 0 := by omega
    clear H hx0 T hT0 hb0 okm E
    go_enter Tryd.func8, Tryd.ntmps8
    go_wp2_with fail
    refine (R.out).mono ?_
    rintro e w1 ⟨rfl, hb1⟩
    have HB1 := Lib.hid (HB0.out.trans (hb1.mono (by omega)))
    clear hb1
    go_wp2_with fail
    go_ret2
    exact ⟨_, rfl, World.ownsRow_nil _ _ _ _, by rw [hsb]; exact HB1.out⟩
  subst hr0
  have hright : right m = 0 := hr.out
  have HF := few_right okm hkey hright
  have hkn := (Fm.right_parts hright).1
  have hb' : 0 < m.kind ∧ m.kind < 13 := by unfold known at hkn; simpa using hkn
  obtain ⟨K, hK⟩ : ∃ K : Nat, m.kind = (K : Int) := ⟨m.kind.toNat, by omega⟩
  have hK13 : K < 13 := by omega
  have HFF := Lib.hid HF
  have E : Tg.enc m = (((((((((((Um.put K ++ Tg.field m 1) ++ Tg.field m 2) ++ Tg.field m 3) ++ Tg.field m 4) ++ Tg.field m 5) ++ Tg.field m 6) ++ Tg.field m 7) ++ Tg.field m 8) ++ Tg.field m 9)), 0) := by rw [Tg.enc_good hright, Tg.put_eq, hK, Int.toNat_natCast]
  rw [E]
  have HKK := Lib.hid hK
  have f1 := Tg.field_few HF 1
  have f2 := Tg.field_few HF 2
  have f3 := Tg.field_few HF 3
  have f4 := Tg.field_few HF 4
  have hp := Um.put_le K
  have L4 : ((((Um.put K ++ Tg.field m 1) ++ Tg.field m 2) ++ Tg.field m 3) ++ Tg.field m 4).length ≤ 1000000000 := by
    rw [List.length_append, List.length_append, List.length_append, List.length_append]
    omega
  have hsz0 := hsz
  clear H hx0 T hT0 hb0 E hright hb' hK f1 f2 f3 f4 HF
  go_enter Tryd.func8, Tryd.ntmps8
  go_wp2_with fail
  refine (R.out).mono ?_
  rintro e w1 ⟨rfl, hb1⟩
  have hw1 := hb1.size
  have HX1 : Hid (Boxk w1 b b m vp vq) := Lib.hid ⟨Whole.below HX0.out.bx hb1 (Whole.lt HX0.out.bx), HX0.out.peers.below (hb1.mono (by omega)), HX0.out.pairs.below (hb1.mono (by omega))⟩
  have HN1 : Hid (On b b m vp vq w (.slice none 0 0) [] (.slice none 0 0) w1) := Lib.hid ⟨World.ownsRow_nil _ _ _ _, HX1.out, Kept.of_below (by rw [hsb]; exact HB0.out.trans (hb1.mono (by omega))) _, by simp [Value.ownBlock], by omega⟩
  clear hb1 c0 c1 c2 c3 c4 c5 c6 c7 c8 c9 c10
  obtain ⟨c0, c1, c2, c3, c4, c5, c6, c7, c8, c9, c10⟩ := Bx.cells HX1.out.bx
  rw [HKK.out] at c0
  have C1 := Lib.hid (HN1.out.nums [K] (cs := #[.int .u64 (K : Int)]) rfl 1 rfl (by omega) (by intro x hx; simp at hx; omega) (by simp))
  rw [one_put, List.nil_append] at C1
  clear hsz hsz0 hw1
  go_wp2_with fail
  refine (C1.out).mono ?_
  rintro e w2 ⟨v2, rfl, h2⟩
  have hm2 : Mv w2 b m (.agg #[.int .i64 m.kind, .int .u32 (m.rid : Int), .int .u8 (m.code : Int), .bool m.has, .int .u64 (m.id : Int), .string m.key, .string m.val, .int .u64 (m.pid : Int), .int .u16 (m.pad : Int), vp, vq]) := ⟨⟨vp, vq, rfl, h2.box.peers, h2.box.pairs⟩, okm⟩
  have P := Lib.hid (putsmall_any hm2 HFF.out h2.own h2.size (by omega))
  have HN2 := Lib.hid h2
  clear h2 hm2 c0 c1 c2 c3 c4 c5 c6 c7 c8 c9 c10
  obtain ⟨c0, c1, c2, c3, c4, c5, c6, c7, c8, c9, c10⟩ := Bx.cells HN2.out.box.bx
  go_wp2_with fail
  refine (P.out).mono ?_
  rintro e w3 ⟨v3, rfl, ho3, hk3⟩
  have h3 := HN2.out.next ⟨v3, rfl, ho3, hk3⟩
  obtain ⟨v3', e3, h3⟩ := h3
  injection e3 with e3
  subst e3
  have hm3 : Mv w3 b m (.agg #[.int .i64 m.kind, .int .u32 (m.rid : Int), .int .u8 (m.code : Int), .bool m.has, .int .u64 (m.id : Int), .string m.key, .string m.val, .int .u64 (m.pid : Int), .int .u16 (m.pad : Int), vp, vq]) := ⟨⟨vp, vq, rfl, h3.box.peers, h3.box.pairs⟩, okm⟩
  have P2 := Lib.hid (putlarge_any hm3 HFF.out h3.own h3.size L4)
  have HN3 := Lib.hid h3
  clear h3 hm3 ho3 hk3 c0 c1 c2 c3 c4 c5 c6 c7 c8 c9 c10
  obtain ⟨c0, c1, c2, c3, c4, c5, c6, c7, c8, c9, c10⟩ := Bx.cells HN3.out.box.bx
  go_wp2_with fail
  refine (P2.out).mono ?_
  rintro e w4 ⟨v4, rfl, ho4, hk4⟩
  have HO4 := Lib.hid ho4
  have HK4 := Lib.hid (HN3.out.kept.trans hk4)
  clear ho4 hk4
  go_wp2_with fail
  go_ret2
  exact ⟨_, rfl, by rw [hsb]; exact HO4.out, by rw [hsb]; exact HK4.out.below (fun k hk => by cases hk) (by omega)⟩
end Go.Proofs.YtjkjhnpemhlbpaaDoor
