/- Contracts of the program's putList, putDict, putTree and Print of layer 12. -/
import Derived.Test.YtphanlkobkkgfaaWr12
import Derived.Test.YtphanlkobkkgfaaRben12
import Derived.Test.YtphanlkobkkgfaaRprint12
import Derived.Test.YtphanlkobkkgfaaTright
import Derived.Test.YtphanlkobkkgfaaMk11
import Derived.Deep.CutRange
namespace Go.Proofs.Ytphanlkobkkgfaa
open Go.RowKit
set_option linter.unusedVariables false
set_option maxRecDepth 100000
set_option linter.unusedSimpArgs false

namespace Bn
theorem pre_le {t : Tn} (h1 : t.kind ≠ 1) (h2 : t.kind ≠ 2) {i : Nat} (hi : i ≤ t.kids.length) : (pre t i).length + 1 ≤ (ben t).length := by
  have := body_pre (decide (t.kind = 4)) t.keys (t.kids.map ben) i (by simpa using hi)
  rw [ben_eq, if_neg h1, if_neg h2]
  unfold pre
  simp
  omega
theorem Ints.of_tv {w : World} {B : Nat} {t : Tn} {vk vq : Value} (h : Tv w B t vk vq) : Ints t := by
  induction h with
  | mk K Q rk rn rs hk hl hm hn hc ht ih =>
    refine .mk rn (fun u hu => ?_)
    obtain ⟨i, hi, rfl⟩ := List.mem_iff_getElem.1 hu
    exact ih i hi
end Bn
abbrev PutTree (base : Nat) (B : Nat) (x : Tn) : Prop := ∀ (w : World) (vk vq v : Value) (xs : List Nat), Tv w B x vk vq → w.ownsRow base 5 1 v xs.length (ints .u8 xs) → base ≤ w.heap.size → xs.length + (Bn.ben x).length ≤ 1000000000 →
  Calls Try.prog 16 #[v, tval x vk vq] w (MadeK base (xs ++ Bn.ben x) v w)
set_option maxHeartbeats 4000000 in
theorem putlist12_any {t : Tn} (h1 : t.kind ≠ 1) (h2 : t.kind ≠ 2) (h4 : ¬ t.kind = 4) {B base : Nat} (hBb : B ≤ base) (IH0 : ∀ i (hi : i < t.kids.length), PutTree base B t.kids[i])
    {w : World} {vk vq v : Value} {xs : List Nat} (H : Tv w B t vk vq) (ho : w.ownsRow base 5 1 v xs.length (ints .u8 xs)) (hb : base ≤ w.heap.size) (hx : xs.length + (Bn.ben t).length ≤ 1000000000) :
    Calls Try.prog 26 #[v, vq] w (MadeK base (xs ++ Bn.ben t) v w) := by
  have IH := Lib.hid IH0
  have hlt0 := own_lt ho
  have HLt : Hid (∀ k, v.ownBlock = some k → B ≤ k) := Lib.hid (fun k hk => Nat.le_trans hBb (hlt0 k hk))
  have hBw : B ≤ w.heap.size := Nat.le_trans hBb hb
  have P0 : Hid (Bn.pre t 0 = [108]) := Lib.hid (by rw [Bn.pre_zero, if_neg h4])
  have PN := Lib.hid (fun i hi => Bn.pre_plain (t := t) (i := i) hi (fun e => h4 e.1))
  have PA := Lib.hid (Bn.pre_all h1 h2)
  have PL := Lib.hid (fun i hi => Bn.pre_le (t := t) h1 h2 (i := i) hi)
  obtain ⟨A, c, rfl, hl1, hl2, _, K, Q, hK⟩ := H.kids
  unfold maxLen at hl2
  have HK := Lib.hid hK
  have Ho := Lib.hid ho
  have HX := Lib.hid hx
  have hq : xs.length ≤ 1000000000 := by omega
  obtain ⟨q, hqe⟩ : ∃ q, Hid (xs.length = q) := ⟨_, rfl⟩
  rw [hqe.out] at Ho hq
  obtain ⟨n, hn⟩ : ∃ n, Hid (t.kids.length = n) := ⟨_, rfl⟩
  rw [hn.out] at hl1 ⊢
  clear hK ho hx H IH0 h1 h2 h4 hlt0
  go_enter Try.func26, Try.ntmps26
  go_upto_region 2 with (at_builtin; refine wpList_append1k byteT _ _ rfl rfl base v q (ints .u8 xs) rfl rfl rfl Ho.out (by omega) hb ?_; intro v1 w1 ho1 hk1)
  have HS : Hid (w1.ownsRow base 5 1 v1 (xs ++ Bn.pre t 0).length (ints .u8 (xs ++ Bn.pre t 0)) ∧ Kept w w1 v v1) := Lib.hid ⟨by
    rw [P0.out, ints_append, List.length_append, hqe.out]
    exact ho1, hk1⟩
  clear ho1 hk1
  go_wp2_with fail
  go_loopw [0, 12] (fun vx vi wr => ∃ (i : Nat) (vb : Value), i ≤ n ∧ vi = .int .i64 i ∧ vb = vx ∧ Hid (wr.ownsRow base 5 1 vb (xs ++ Bn.pre t i).length (ints .u8 (xs ++ Bn.pre t i)) ∧ Kept w wr v vb)) (fun _ vi _ => n - (intOf vi).toNat)
  case atStart => exact ⟨0, v1, by omega, rfl, rfl, HS⟩
  case round =>
    obtain ⟨i, vb, hi, rfl, rfl, HP⟩ := hrel
    by_cases hlt : i < n
    · have hia : i < t.kids.length := by rw [hn.out]; exact hlt
      have hW : Below B w wr := HP.out.2.below HLt.out hBw
      obtain ⟨x1, o1, rfl, hx1, h5, hv⟩ := HK.out i hia
      obtain ⟨g0, g1, g2, g3, g4⟩ := h5.below hW hx1
      have hvw := hv.keep hW
      have hi64 : (i : Int) < (n : Int) := by omega
      obtain ⟨Ak, ck, ek, _⟩ := hvw.keys
      obtain ⟨Aq, cq, eq, _⟩ := hvw.kids
      rw [ek] at g3
      rw [eq] at g4
      rw [ek, eq] at hvw
      have HIH := Lib.hid (IH.out i hia)
      have PNi := Lib.hid (PN.out i hia)
      have hlen : (xs ++ Bn.pre t i).length + (Bn.ben t.kids[i]).length ≤ 1000000000 := by
        have h1 := PL.out (i + 1) (by omega)
        have h2 := HX.out
        have h3 := PNi.out
        have h4 := congrArg List.length h3
        rw [List.length_append] at h4
        rw [List.length_append]
        omega
      have HLen := Lib.hid hlen
      obtain ⟨x, hxe⟩ : ∃ x, Hid (t.kids[i] = x) := ⟨t.kids[i], Lib.hid rfl⟩
      rw [hxe.out] at g0 g1 g2 g3 g4 hvw HIH PNi HLen
      have HVw := Lib.hid hvw
      obtain ⟨u, w2, hu, hal2, hU, hb2, hs2⟩ := var_tree wr
      have hb2s : Below wr.heap.size wr w2 := by rw [hu]; exact hb2
      obtain ⟨w3, hst⟩ : ∃ w3, w2.setRow u #[.int .i64 x.kind, .int .i64 x.n, .string x.s, .slice Ak x.keys.length ck, .slice Aq x.kids.length cq] = w3 := ⟨_, rfl⟩
      have hU3 : Whole w3 u 25 #[.int .i64 x.kind, .int .i64 x.n, .string x.s, .slice Ak x.keys.length ck, .slice Aq x.kids.length cq] := by rw [← hst]; exact hU.row _
      have hb3 : Below wr.heap.size wr w3 := by rw [← hst]; exact below_row hb2s (by omega) _
      have hbr : base ≤ wr.heap.size := Nat.le_trans hb HP.out.2.size
      have HU := Lib.hid hU
      have u0 := hU3.at_ 0
      have u1 := hU3.at_ 1
      have u2 := hU3.at_ 2
      have u3 := hU3.at_ 3
      have u4 := hU3.at_ 4
      simp at u0 u1 u2 u3 u4
      have CB := Lib.hid (HIH.out w3 _ _ vb (xs ++ Bn.pre t i) (HVw.out.keep (hb3.mono (Nat.le_trans hBw HP.out.2.size))) (own_below HP.out.1 hb3) (Nat.le_trans hbr hb3.size) HLen.out)
      have HK3 := Lib.hid (HP.out.2.behind hb3)
      unfold tval at CB
      clear hU hU3 hb2 hb2s hb3 hs2 h5 hv hvw hlen hW ek eq
      go_upto_region 5 with (refine wpList_store_whole rfl rfl rfl rfl rfl HU.out (treeI rfl) rfl (by simp [Value.oneCell']) ?_; rw [hst])
      clear hu hal2 hst g0 g1 g2 g3 g4
      go_wp2_with fail
      refine (CB.out).mono ?_
      rintro e w4 ⟨v4, rfl, ho4, hk4⟩
      have HN : Hid (w4.ownsRow base 5 1 v4 (xs ++ Bn.pre t (i + 1)).length (ints .u8 (xs ++ Bn.pre t (i + 1))) ∧ Kept w w4 v v4) := Lib.hid ⟨by rw [PNi.out, ← List.append_assoc]; exact ho4, HK3.out.trans hk4⟩
      clear ho4 hk4 u0 u1 u2 u3 u4
      go_wp2_with fail
      go_roundw
      case rel => exact ⟨i + 1, _, by omega, by go_num, rfl, HN⟩
      case measure => simp [intOf]; omega
    · have hin : i = n := by omega
      have hPn : Bn.ben t = Bn.pre t i ++ [101] := by rw [PA.out, hn.out, hin]
      have HPn := Lib.hid hPn
      have hql : (xs ++ Bn.pre t i).length ≤ 1000000000 := by
        have h1 := HX.out
        rw [hPn, List.length_append] at h1
        rw [List.length_append]
        omega
      have hbr : base ≤ wr.heap.size := Nat.le_trans hb HP.out.2.size
      obtain ⟨q2, hq2⟩ : ∃ q, Hid ((xs ++ Bn.pre t i).length = q) := ⟨_, rfl⟩
      have HO := Lib.hid HP.out.1
      rw [hq2.out] at hql HO
      clear hin hPn
      go_wp2_with (at_builtin; refine wpList_append1k byteT _ _ rfl rfl base vb q2 _ rfl rfl rfl HO.out (by omega) hbr ?_; intro v5 w5 ho5 hk5)
      have HO5 := Lib.hid ho5
      have HK5 := Lib.hid (HP.out.2.trans hk5)
      clear ho5 hk5
      go_ret
      refine ⟨_, rfl, ?_, HK5.out⟩
      have h := HO5.out
      rw [HPn.out, ← List.append_assoc, List.length_append, hq2.out, ints_append]
      exact h
set_option maxHeartbeats 4000000 in
theorem putdict12_any {t : Tn} (h4 : t.kind = 4) (hkl : t.keys.length = t.kids.length) {B base : Nat} (hBb : B ≤ base) (IH0 : ∀ i (hi : i < t.kids.length), PutTree base B t.kids[i])
    {w : World} {vk vq v : Value} {xs : List Nat} (H : Tv w B t vk vq) (ho : w.ownsRow base 5 1 v xs.length (ints .u8 xs)) (hb : base ≤ w.heap.size) (hx : xs.length + (Bn.ben t).length ≤ 1000000000) :
    Calls Try.prog 27 #[v, vk, vq] w (MadeK base (xs ++ Bn.ben t) v w) := by
  have IH := Lib.hid IH0
  have h1 : t.kind ≠ 1 := by omega
  have h2 : t.kind ≠ 2 := by omega
  have hlt0 := own_lt ho
  have HLt : Hid (∀ k, v.ownBlock = some k → B ≤ k) := Lib.hid (fun k hk => Nat.le_trans hBb (hlt0 k hk))
  have hBw : B ≤ w.heap.size := Nat.le_trans hBb hb
  have P0 : Hid (Bn.pre t 0 = [100]) := Lib.hid (by rw [Bn.pre_zero, if_pos h4])
  have PN := Lib.hid (fun i hi h => Bn.pre_key (t := t) (i := i) hi h4 h)
  have PA := Lib.hid (Bn.pre_all h1 h2)
  have PL := Lib.hid (fun i hi => Bn.pre_le (t := t) h1 h2 (i := i) hi)
  obtain ⟨A, c, rfl, hl1, hl2, _, K, Q, hK⟩ := H.kids
  obtain ⟨Ay, cy, rfl, hSk⟩ := H.keys
  have HSk := Lib.hid hSk.1
  have hsk := hSk.2
  unfold maxLen at hl2 hsk
  obtain ⟨hsk1, hsk2, _, _⟩ := hsk
  have HK := Lib.hid hK
  have Ho := Lib.hid ho
  have HX := Lib.hid hx
  have hq : xs.length ≤ 1000000000 := by omega
  obtain ⟨q, hqe⟩ : ∃ q, Hid (xs.length = q) := ⟨_, rfl⟩
  rw [hqe.out] at Ho hq
  obtain ⟨n, hn⟩ : ∃ n, Hid (t.kids.length = n) := ⟨_, rfl⟩
  have hnk : Hid (t.keys.length = n) := Lib.hid (by rw [hkl, hn.out])
  rw [hnk.out] at hsk1 ⊢
  rw [hn.out] at hl1 ⊢
  clear hK ho hx H IH0 h1 h2 h4 hlt0 hkl hSk
  go_enter Try.func27, Try.ntmps27
  go_upto_region 2 with (at_builtin; refine wpList_append1k byteT _ _ rfl rfl base v q (ints .u8 xs) rfl rfl rfl Ho.out (by omega) hb ?_; intro v1 w1 ho1 hk1)
  have HS : Hid (w1.ownsRow base 5 1 v1 (xs ++ Bn.pre t 0).length (ints .u8 (xs ++ Bn.pre t 0)) ∧ Kept w w1 v v1) := Lib.hid ⟨by
    rw [P0.out, ints_append, List.length_append, hqe.out]
    exact ho1, hk1⟩
  clear ho1 hk1
  go_wp2_with fail
  go_loopw [0, 14] (fun vx vi wr => ∃ (i : Nat) (vb : Value), i ≤ n ∧ vi = .int .i64 i ∧ vb = vx ∧ Hid (wr.ownsRow base 5 1 vb (xs ++ Bn.pre t i).length (ints .u8 (xs ++ Bn.pre t i)) ∧ Kept w wr v vb)) (fun _ vi _ => n - (intOf vi).toNat)
  case atStart => exact ⟨0, v1, by omega, rfl, rfl, HS⟩
  case round =>
    obtain ⟨i, vb, hi, rfl, rfl, HP⟩ := hrel
    by_cases hlt : i < n
    · have hia : i < t.kids.length := by rw [hn.out]; exact hlt
      have hka : i < t.keys.length := by rw [hnk.out]; exact hlt
      have hW : Below B w wr := HP.out.2.below HLt.out hBw
      obtain ⟨x1, o1, rfl, hx1, h5, hv⟩ := HK.out i hia
      obtain ⟨g0, g1, g2, g3, g4⟩ := h5.below hW hx1
      obtain ⟨y1, z1, rfl, hy1, dk⟩ := Sc.below HSk.out hW i hka
      have hvw := hv.keep hW
      have hi64 : (i : Int) < (n : Int) := by omega
      obtain ⟨Ak, ck, ek, _⟩ := hvw.keys
      obtain ⟨Aq, cq, eq, _⟩ := hvw.kids
      rw [ek] at g3
      rw [eq] at g4
      rw [ek, eq] at hvw
      have HIH := Lib.hid (IH.out i hia)
      have PNi := Lib.hid (PN.out i hia hka)
      have hlen : (xs ++ Bn.pre t i).length + (Bn.text t.keys[i]).length + (Bn.ben t.kids[i]).length ≤ 1000000000 := by
        have h1 := PL.out (i + 1) (by omega)
        have h2 := HX.out
        have h3 := PNi.out
        have h4 := congrArg List.length h3
        rw [List.length_append, List.length_append] at h4
        rw [List.length_append]
        omega
      have HLen := Lib.hid hlen
      obtain ⟨x, hxe⟩ : ∃ x, Hid (t.kids[i] = x) := ⟨t.kids[i], Lib.hid rfl⟩
      obtain ⟨kx, hkx⟩ : ∃ x, Hid (t.keys[i] = x) := ⟨t.keys[i], Lib.hid rfl⟩
      rw [hxe.out] at g0 g1 g2 g3 g4 hvw HIH PNi HLen
      rw [hkx.out] at dk PNi HLen
      have hks : kx.size ≤ 1000000000 := by
        have h1 := HLen.out
        have h2 : (Bn.text kx).length = (Nm.put (kx.size : Int)).length + 1 + kx.size := by
          unfold Bn.text
          rw [List.length_append, List.length_cons, Bn.nums_len]; omega
        omega
      have HVw := Lib.hid hvw
      obtain ⟨u, w2, hu, hal2, hU, hb2, hs2⟩ := var_tree wr
      have hb2s : Below wr.heap.size wr w2 := by rw [hu]; exact hb2
      obtain ⟨w3, hst⟩ : ∃ w3, w2.setRow u #[.int .i64 x.kind, .int .i64 x.n, .string x.s, .slice Ak x.keys.length ck, .slice Aq x.kids.length cq] = w3 := ⟨_, rfl⟩
      have hU3 : Whole w3 u 25 #[.int .i64 x.kind, .int .i64 x.n, .string x.s, .slice Ak x.keys.length ck, .slice Aq x.kids.length cq] := by rw [← hst]; exact hU.row _
      have hb3 : Below wr.heap.size wr w3 := by rw [← hst]; exact below_row hb2s (by omega) _
      have hbr : base ≤ wr.heap.size := Nat.le_trans hb HP.out.2.size
      have HU := Lib.hid hU
      have HU3 := Lib.hid hU3
      have HOb : Hid (w3.ownsRow base 5 1 vb (xs ++ Bn.pre t i).length (ints .u8 (xs ++ Bn.pre t i))) := Lib.hid (own_below HP.out.1 hb3)
      have hb33 : base ≤ w3.heap.size := Nat.le_trans hbr hb3.size
      have hxl : (xs ++ Bn.pre t i).length ≤ 1000000000 := by omega
      have CTx : Hid (∀ W : World, W.ownsRow base 5 1 vb (xs ++ Bn.pre t i).length (ints .u8 (xs ++ Bn.pre t i)) → base ≤ W.heap.size → Calls Try.prog 25 #[vb, .string kx] W (MadeK base (xs ++ Bn.pre t i ++ Bn.text kx) vb W)) := Lib.hid (fun W h1 h2 => puttext12_any base vb _ kx W (by omega) h1 h2 (by omega))
      have HK3 := Lib.hid (HP.out.2.behind hb3)
      have hBwr : B ≤ wr.heap.size := Nat.le_trans hBw HP.out.2.size
      have hub : u ≠ y1 := by omega
      have HVb : Hid (∀ k, vb.ownBlock = some k → base ≤ k) := Lib.hid (own_lt HP.out.1)
      have HVu : Hid (vb.ownBlock ≠ some u) := Lib.hid (fun e => by have := (HP.out.1.lt u e).2; omega)
      have HDk : Hid (w3.cell? ⟨y1, z1 + i, none⟩ = some (.string kx)) := Lib.hid ((hb3.cell (p := ⟨y1, z1 + i, none⟩) (by show y1 < wr.heap.size; omega)).trans dk)
      have HV3 : Hid (Tv w3 B x (.slice Ak x.keys.length ck) (.slice Aq x.kids.length cq)) := Lib.hid (HVw.out.keep (hb3.mono hBwr))
      have hy1B : y1 < B := hy1
      clear hU hU3 hb2 hb2s hb3 hs2 h5 hv hvw hlen hW ek eq dk
      go_upto_region 5 with (refine wpList_store_whole rfl rfl rfl rfl rfl HU.out (treeI rfl) rfl (by simp [Value.oneCell']) ?_; rw [hst])
      clear hu hal2 hst g0 g1 g2 g3 g4
      have HT : Hid (∀ W, Kept w3 W vb vb ∨ (∃ v', Kept w3 W vb v') → W.cell? ⟨y1, z1 + i, none⟩ = some (.string kx) ∧ Whole W u 25 #[.int .i64 x.kind, .int .i64 x.n, .string x.s, .slice Ak x.keys.length ck, .slice Aq x.kids.length cq]) := Lib.hid (fun W h => by
        have h' : ∃ v', Kept w3 W vb v' := by rcases h with h | h; exact ⟨_, h⟩; exact h
        obtain ⟨v', h'⟩ := h'
        have hlt : y1 < w3.heap.size := lt_of_cell HDk.out
        exact ⟨(World.cell?_of_block (a := ⟨y1, _, none⟩) (h'.block hlt (fun e => by have : base ≤ y1 := HVb.out y1 e; omega))).trans HDk.out, HU3.out.kept h' HVu.out⟩)
      go_wp2_with fail
      refine wp_region_plan (S := fun W => ∃ v', Kept w3 W vb v') [(0, true), (1, true), (2, true), (3, true), (4, true), (6, true), (5, false), (7, false), (8, true)] (by kernel_rfl) (by kernel_rfl) rfl (by kernel_rfl) (fun _ _ _ _ _ h => h) ⟨vb, (Kept.refl _ _).drew⟩ ?_
      iterate 6
        refine along_take (v := ?_) rfl (by rfl) ?_ ?_
        rotate_left
        · intro W hW
          obtain ⟨k1, k2⟩ := HT.out W (.inr hW)
          have u0 := k2.at_ 0
          have u1 := k2.at_ 1
          have u2 := k2.at_ 2
          have u3 := k2.at_ 3
          have u4 := k2.at_ 4
          simp at u0 u1 u2 u3 u4
          go_simp; try with_reducible rfl
        simp only [Act.put, List.setIfInBounds_toArray, List.set_cons_zero, List.set_cons_succ]
      refine along_step rfl (fun K hK => ?_)
      go_simp
      refine (CTx.out _ (own_below HOb.out (Below.refl _ _).drew) hb33).mono ?_
      rintro e w4 ⟨v4, rfl, ho4, hk4⟩
      have hk34 : Kept w3 w4 vb v4 := (Kept.refl w3 vb).drew.trans hk4
      have Hk34 := Lib.hid hk34
      refine hK.out _ _ ⟨v4, hk34⟩ ?_
      clear hK K hk4
      refine along_step rfl (fun K hK => ?_)
      go_simp
      have CB := HIH.out w4 _ _ v4 (xs ++ Bn.pre t i ++ Bn.text kx) (HV3.out.keep (Hk34.out.below (fun k hk => Nat.le_trans hBb (HVb.out k hk)) (by omega))) ho4 (Nat.le_trans hb33 Hk34.out.size) (by rw [List.length_append]; exact HLen.out)
      unfold tval at CB
      refine CB.mono ?_
      rintro e w5 ⟨v5, rfl, ho5, hk5⟩
      have Hk35 := Lib.hid (Hk34.out.trans hk5)
      refine hK.out _ _ ⟨v5, Hk35.out⟩ ?_
      clear hK K hk5 CB
      refine along_take (v := ?_) rfl (by rfl) ?_ ?_
      rotate_left
      · intro W hW; go_simp; try with_reducible rfl
      simp only [Act.put, List.setIfInBounds_toArray, List.set_cons_zero, List.set_cons_succ]
      refine along_done ?_
      have HN : Hid (w5.ownsRow base 5 1 v5 (xs ++ Bn.pre t (i + 1)).length (ints .u8 (xs ++ Bn.pre t (i + 1))) ∧ Kept w w5 v v5) := Lib.hid ⟨by rw [PNi.out, ← List.append_assoc, ← List.append_assoc]; exact ho5, HK3.out.trans Hk35.out⟩
      clear ho5 ho4 hk34
      go_wp2_with fail
      go_roundw
      case rel => exact ⟨i + 1, _, by omega, by go_num, rfl, HN⟩
      case measure => simp [intOf]; omega
    · have hin : i = n := by omega
      have hPn : Bn.ben t = Bn.pre t i ++ [101] := by rw [PA.out, hn.out, hin]
      have HPn := Lib.hid hPn
      have hql : (xs ++ Bn.pre t i).length ≤ 1000000000 := by
        have h1 := HX.out
        rw [hPn, List.length_append] at h1
        rw [List.length_append]
        omega
      have hbr : base ≤ wr.heap.size := Nat.le_trans hb HP.out.2.size
      obtain ⟨q2, hq2⟩ : ∃ q, Hid ((xs ++ Bn.pre t i).length = q) := ⟨_, rfl⟩
      have HO := Lib.hid HP.out.1
      rw [hq2.out] at hql HO
      clear hin hPn
      go_wp2_with (at_builtin; refine wpList_append1k byteT _ _ rfl rfl base vb q2 _ rfl rfl rfl HO.out (by omega) hbr ?_; intro v5 w5 ho5 hk5)
      have HO5 := Lib.hid ho5
      have HK5 := Lib.hid (HP.out.2.trans hk5)
      clear ho5 hk5
      go_ret
      refine ⟨_, rfl, ?_, HK5.out⟩
      have h := HO5.out
      rw [HPn.out, ← List.append_assoc, List.length_append, hq2.out, ints_append]
      exact h

theorem Tn.right_parts {t : Tn} {a : Nat} (h : t.right a = 0) : t.own = 0 ∧ ∀ u ∈ t.kids, u.right (a + 1) = 0 := by
  rw [Tn.right_eq] at h
  split at h
  · cases h
  · split at h
    · rename_i h2; exact absurd h h2
    · rename_i h2; exact ⟨by simpa using h2, Tn.rights_zero.1 h⟩
set_option maxHeartbeats 4000000 in
theorem puttree12_any {B base : Nat} (hBb : B ≤ base) (k : Nat) : ∀ (t : Tn), SizeOf.sizeOf t < k → (∃ a, t.right a = 0) → PutTree base B t := by
  induction k with
  | zero => intro t h; omega
  | succ k ih =>
    intro t hk ⟨a, hr⟩ w vk vq v xs H ho hb hx
    obtain ⟨hown, hkr⟩ := Tn.right_parts hr
    obtain ⟨o1, o2, o3, o4⟩ := Tn.own_zero.1 hown
    obtain ⟨_, _, _, _, q5⟩ := Bn.odd_parts o2 o1
    have IH : ∀ i (hi : i < t.kids.length), PutTree base B t.kids[i] := fun i hi => ih t.kids[i] (by have := Tn.kid_lt hi; omega) ⟨a + 1, hkr _ (List.getElem_mem hi)⟩
    obtain ⟨b, w1, hs, hal, hT, hb1⟩ := boxedT H
    have hb1s : Below w.heap.size w w1 := by rw [hs]; exact hb1
    have hBw : B ≤ w.heap.size := Nat.le_trans hBb hb
    have H1 : Tv w1 B t vk vq := H.keep (hb1s.mono hBw)
    obtain ⟨c0, c1, c2, c3, c4⟩ := hT.cells
    have hin : Nm.In t.n := H.num
    have Ho1 := Lib.hid (own_below ho hb1s)
    have Hk1 := Lib.hid (Kept.of_below hb1s v)
    have hbb : base ≤ w1.heap.size := Nat.le_trans hb hb1s.size
    have HBe := Lib.hid (Bn.ben_eq t)
    obtain ⟨Ak, ck, rfl, _⟩ := H.keys
    obtain ⟨A, c, rfl, _⟩ := H.kids
    have hxs : xs.length ≤ 1000000000 := by omega
    unfold tcells at hal
    unfold tval
    rcases (show t.kind = 1 ∨ t.kind = 2 ∨ t.kind = 3 ∨ t.kind = 4 by omega) with e1 | e1 | e1 | e1
    · have C := Lib.hid (putint12_any base v xs t.n w1 hin Ho1.out hbb (by omega))
      have HE : Hid (Bn.ben t = 105 :: (Nm.put t.n ++ [101])) := Lib.hid (by rw [HBe.out, if_pos e1])
      rw [HE.out]
      rw [e1] at hal c0 ⊢
      clear hT hb1 hb1s IH ih o1 o2 o3 o4 q5 e1 hown hkr hr H1 H ho hx
      go_enter Try.func16, Try.ntmps16
      go_wp2_with fail
      refine (C.out).mono ?_
      rintro e w2 ⟨v2, rfl, ho2, hk2⟩
      have HO := Lib.hid ho2
      have HK := Lib.hid (Hk1.out.trans hk2)
      clear ho2 hk2
      go_wp2_with fail
      go_ret
      exact ⟨_, rfl, HO.out, HK.out⟩
    · have hsz : t.s.size ≤ 1000000000 := by
        have h2 : (Bn.text t.s).length = (Nm.put (t.s.size : Int)).length + 1 + t.s.size := by
          unfold Bn.text
          rw [List.length_append, List.length_cons, Bn.nums_len]; omega
        rw [HBe.out, if_neg (by omega), if_pos e1] at hx
        omega
      have C := Lib.hid (puttext12_any base v xs t.s w1 (by omega) Ho1.out hbb (by omega))
      have HE : Hid (Bn.ben t = Bn.text t.s) := Lib.hid (by rw [HBe.out, if_neg (by omega), if_pos e1])
      rw [HE.out]
      rw [e1] at hal c0 ⊢
      clear hT hb1 hb1s IH ih o1 o2 o3 o4 q5 e1 hown hkr hr H1 H ho hx
      go_enter Try.func16, Try.ntmps16
      go_wp2_with fail
      refine (C.out).mono ?_
      rintro e w2 ⟨v2, rfl, ho2, hk2⟩
      have HO := Lib.hid ho2
      have HK := Lib.hid (Hk1.out.trans hk2)
      clear ho2 hk2
      go_wp2_with fail
      go_ret
      exact ⟨_, rfl, HO.out, HK.out⟩
    · have C := Lib.hid (putlist12_any (by omega) (by omega) (by omega) hBb IH H1 Ho1.out hbb hx)
      rw [e1] at hal c0 ⊢
      clear hT hb1 hb1s IH ih o1 o2 o3 o4 q5 e1 hown hkr hr H1 H ho hx HBe
      go_enter Try.func16, Try.ntmps16
      go_wp2_with fail
      refine (C.out).mono ?_
      rintro e w2 ⟨v2, rfl, ho2, hk2⟩
      have HO := Lib.hid ho2
      have HK := Lib.hid (Hk1.out.trans hk2)
      clear ho2 hk2
      go_wp2_with fail
      go_ret
      exact ⟨_, rfl, HO.out, HK.out⟩
    · have C := Lib.hid (putdict12_any e1 (q5 e1) hBb IH H1 Ho1.out hbb hx)
      rw [e1] at hal c0 ⊢
      clear hT hb1 hb1s IH ih o1 o2 o3 o4 q5 e1 hown hkr hr H1 H ho hx HBe
      go_enter Try.func16, Try.ntmps16
      go_wp2_with fail
      refine (C.out).mono ?_
      rintro e w2 ⟨v2, rfl, ho2, hk2⟩
      have HO := Lib.hid ho2
      have HK := Lib.hid (Hk1.out.trans hk2)
      clear ho2 hk2
      go_wp2_with fail
      go_ret
      exact ⟨_, rfl, HO.out, HK.out⟩
theorem Pc.of_own {w : World} {base : Nat} {v : Value} {l : List Nat} (h : w.ownsRow base 5 1 v l.length (ints .u8 l)) : Pc w w.heap.size v l := by
  obtain ⟨A, c, rfl, h1, h2, h3, h4⟩ := own_look h
  refine ⟨A, c, rfl, fun hl => ?_, h3, h1, h2⟩
  obtain ⟨b, e, _, hlt, _⟩ := h4 0 _ (ints_get .u8 l 0 hl)
  refine ⟨b, 0, e, hlt, fun i hi => ?_⟩
  obtain ⟨b', e', _, _, hc⟩ := h4 i _ (ints_get .u8 l i hi)
  rw [e] at e'
  injection e' with e'
  injection e' with e'
  subst e'
  rw [Nat.zero_add]
  exact hc
theorem cprint12_any {t : Tn} {w : World} {B : Nat} {vk vq : Value} (H : Tv w B t vk vq) (hlen : (Bn.ben t).length ≤ 1000000000) :
    Calls Try.prog 9 #[tval t vk vq] w fun e w' => ∃ v, e = .returned (.tuple #[v, .int .i64 ((Bn.print t).2 : Int)]) ∧ Pc w' w'.heap.size v (Bn.print t).1 ∧ Below w.heap.size w w' := by
  obtain ⟨b, w1, hs, hal, hT, hb1⟩ := boxedT H
  have hb1s : Below w.heap.size w w1 := by rw [hs]; exact hb1
  have HT := Lib.hid hT
  have HB1 := Lib.hid hb1s
  obtain ⟨c0, c1, c2, c3, c4⟩ := hT.cells
  have HCt := Lib.hid (fun W (h : Below w1.heap.size w1 W) => (HT.out.keep h).cells)
  have C1 := Lib.hid (right11_any hT.tv)
  have HTv : Hid (Tv w w.heap.size t vk vq) := Lib.hid H.all
  have C2 := Lib.hid (fun (h : t.right 0 = 0) (W : World) (hW : Below w.heap.size w W) => puttree12_any (B := w.heap.size) (base := W.heap.size) hW.size (SizeOf.sizeOf t + 1) t (Nat.lt_succ_self _) ⟨0, h⟩ W vk vq (.slice none 0 0) [] (HTv.out.keep hW) (World.ownsRow_nil _ _ 5 1) (Nat.le_refl _) (by simpa using hlen))
  have HP1 : Hid (t.right 0 = 0 → Bn.print t = (Bn.ben t, 0)) := Lib.hid (fun h => by unfold Bn.print; rw [if_pos h])
  have HP2 : Hid (¬ t.right 0 = 0 → Bn.print t = ([], t.right 0)) := Lib.hid (fun h => by unfold Bn.print; rw [if_neg h])
  obtain ⟨Ak, ck, ek, _⟩ := hT.tv.keys
  obtain ⟨A, c, eq, _⟩ := hT.tv.kids
  subst ek eq
  obtain ⟨r, hr⟩ : ∃ r, Hid (t.right 0 = r) := ⟨_, rfl⟩
  rw [hr.out] at C1 HP1 HP2 C2
  unfold tcells at hal
  unfold tval at C1 C2
  unfold tval
  clear hT H hb1 hb1s hlen
  by_cases h0 : r = 0
  case neg =>
    rw [HP2.out h0]
    have q1 : ((r : Int) != 0) = true := by simp; omega
    have q2 : ((r : Int) == 0) = false := by simp; omega
    go_enter Try.func9, Try.ntmps9
    go_wp2_with fail
    refine (C1.out).mono ?_
    rintro e w2 ⟨rfl, hb2⟩
    have HB2 := Lib.hid (HB1.out.trans (hb2.mono HB1.out.size))
    clear hb2
    go_wp2_with fail
    go_ret2
    exact ⟨_, rfl, Pc.nil _ _, HB2.out⟩
  rw [HP1.out h0]
  have C3 := Lib.hid (C2.out h0)
  subst h0
  clear HP1 HP2 C2
  go_enter Try.func9, Try.ntmps9
  go_wp2_with fail
  refine (C1.out).mono ?_
  rintro e w2 ⟨rfl, hb2⟩
  have HB2 := Lib.hid (HB1.out.trans (hb2.mono HB1.out.size))
  obtain ⟨d0, d1, d2, d3, d4⟩ := HCt.out w2 hb2
  clear hb2 c0 c1 c2 c3 c4
  go_wp2_with fail
  refine (C3.out _ HB2.out).mono ?_
  rintro e w3 ⟨v3, rfl, ho3, hk3⟩
  rw [List.nil_append] at ho3
  have HPc := Lib.hid (Pc.of_own ho3)
  have HB3 := Lib.hid (HB2.out.trans ((hk3.below (B := w2.heap.size) (fun k hk => by cases hk) (Nat.le_refl _)).mono HB2.out.size))
  clear ho3 hk3
  go_wp2_with fail
  go_ret2
  exact ⟨_, rfl, HPc.out, HB3.out⟩
end Go.Proofs.Ytphanlkobkkgfaa
