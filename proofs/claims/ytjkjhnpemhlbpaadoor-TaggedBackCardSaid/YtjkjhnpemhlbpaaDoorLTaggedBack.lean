/- The walk of the law TaggedBack. -/
import Derived.Test.YtjkjhnpemhlbpaaDoorAwake10
import Derived.Test.YtjkjhnpemhlbpaaDoorRenc10
import Derived.Test.YtjkjhnpemhlbpaaDoorPiece
import Derived.Test.YtjkjhnpemhlbpaaDoorPF
namespace Go.Proofs.YtjkjhnpemhlbpaaDoor
open Go.RowKit
set_option linter.unusedVariables false
set_option maxRecDepth 100000
open Gm

namespace Tg
theorem bytes_append {a b : List Nat} (h : Fm.Bytes a) (k : Fm.Bytes b) : Fm.Bytes (a ++ b) := fun x hx => (List.mem_append.1 hx).elim (h x) (k x)
theorem bytes_flat {α : Type} {f : α → List Nat} (h : ∀ x, Fm.Bytes (f x)) (l : List α) : Fm.Bytes (l.flatMap f) := fun x hx => by
  obtain ⟨y, _, hy⟩ := List.mem_flatMap.1 hx
  exact h y x hy
theorem bytes_num (n : Nat) (h : n < 18446744073709551616) : Fm.Bytes (Um.put n) := Um.enc_byte 9 n (Um.fits9 h)
theorem bytes_txt (s : ByteArray) (h : s.size ≤ 1000) : Fm.Bytes (txtB s) := bytes_append (bytes_num _ (by omega)) (Fm.nums_bytes s)
theorem bytes_enc {m : Ms} (ok : Ok m) (hk : m.key.size ≤ 1000) : Fm.Bytes (enc m).1 := by
  unfold enc
  split
  · rename_i hr
    have HF := few_right ok hk hr
    have h1 := HF.val
    have hkn := (Fm.right_parts hr).1
    have hb' : 0 < m.kind ∧ m.kind < 13 := by unfold known at hkn; simpa using hkn
    have hB : ∀ t, Fm.Bytes (body m t) := fun t => by
      have hP : ∀ p : Nat × Nat, p.1 < 18446744073709551616 → p.2 < 65536 → Fm.Bytes (peerB p) := fun p h1 h2 => bytes_append (bytes_num _ h1) (bytes_num _ (by omega))
      unfold body
      repeat' split
      · exact bytes_num _ (by have := ok.rid; omega)
      · exact bytes_num _ (by have := ok.code; omega)
      · exact fun x hx => by cases hx
      · exact bytes_num _ ok.id
      · exact bytes_txt _ HF.key
      · exact bytes_txt _ HF.val
      · exact hP _ ok.pid ok.pad
      · refine bytes_append (bytes_num _ (by have := HF.peers; omega)) (fun x hx => ?_)
        obtain ⟨y, hy1, hy⟩ := List.mem_flatMap.1 hx
        exact hP y (ok.peers y hy1).1 (ok.peers y hy1).2 x hy
      · refine bytes_append (bytes_num _ (by have := HF.pairs; omega)) (fun x hx => ?_)
        obtain ⟨y, hy1, hy⟩ := List.mem_flatMap.1 hx
        exact bytes_append (bytes_txt _ (HF.pair y hy1).1) (bytes_txt _ (HF.pair y hy1).2) x hy
      · exact fun x hx => by cases hx
    have hFd : ∀ t, t < 256 → Fm.Bytes (field m t) := fun t ht => by
      unfold field
      split
      · intro x hx
        rcases List.mem_cons.1 hx with rfl | hx
        · exact ht
        · exact hB t x hx
      · exact fun x hx => by cases hx
    have hFs : ∀ n t, t + n < 256 → Fm.Bytes (fields m n t) := by
      intro n
      induction n with
      | zero => exact fun t _ x hx => by cases hx
      | succ n ih => exact fun t ht => bytes_append (hFd (t + 1) (by omega)) (ih (t + 1) (by omega))
    exact bytes_append (bytes_num _ (by omega)) (hFs 9 0 (by omega))
  · exact fun x hx => by cases hx
theorem len_enc {m : Ms} (ok : Ok m) (hk : m.key.size ≤ 1000) : (enc m).1.length ≤ 200000 := by
  unfold enc
  split
  · rename_i h
    have HF := few_right ok hk h
    rw [← Tg.front_put]
    have := Tg.front_le HF 9
    show (Tg.front m 9).length ≤ _
    omega
  · exact Nat.zero_le _
end Tg
set_option maxHeartbeats 2000000 in
theorem taggedBack_walk (m : Ms) (v : Value) (a : Option Addr) (len cap : Nat) (l : List Nat) (w : World) (H : Mv w w.heap.size m v) (R : Row .u8 w a len cap l) (T : Tab w) :
    Calls Tryd.prog 5 #[v, .slice a len cap] w fun e w' => e = .returned (.bool true) ∧ Below w.heap.size w w' := by
  obtain ⟨hP, hlen, hby⟩ := row_piece R
  have hcap : len ≤ 9223372036854775807 := by
    obtain ⟨A, c, _, _, _, h1, h2⟩ := hP
    unfold maxLen at h2
    omega
  obtain ⟨b, vp, vq, w00, rfl, hb, hal, hsz, hx, hb0⟩ := boxed H
  have hT0 := T.below hb0 (by rw [← hb]; exact T.lt)
  have hP0 := hP.kept (by rw [hb]; exact hb0)
  have okm := H.ok
  have hx00 := Lib.hid hx
  obtain ⟨c0, c1, c2, c3, c4, c5, c6, c7, c8, c9, c10⟩ := hx.cells
  have HB0 := Lib.hid hb0
  have HT0 := Lib.hid hT0
  have HP0 := Lib.hid hP0
  have HBy : Hid (Fm.Bytes l) := Lib.hid hby
  have Hlen := Lib.hid hlen
  have HOD := Lib.hid (Tg.ok_dec HBy.out).1
  have HKD := Lib.hid (Tg.ok_dec HBy.out).2
  have HDP := Lib.hid (fun h => Tg.dec_put okm h)
  have HPD := Lib.hid (fun h => Tg.put_dec HBy.out h)
  have OKM := Lib.hid okm
  clear hx hb0 H R T hT0 hP hP0 hby hlen okm
  go_enter Tryd.func5, Tryd.ntmps5
  go_wp2_with fail
  refine (large_any hx00.out.mv).mono ?_
  rintro e w0 ⟨rfl, hb1⟩
  have HBs : Hid (Below b w w0) := Lib.hid (HB0.out.trans (hb1.mono (by omega)))
  have HX0 := Lib.hid (hx00.out.kept hb1)
  have HT1 := Lib.hid (HT0.out.kept hb1)
  have HP1 := Lib.hid (HP0.out.kept hb1)
  have hlt0 := HX0.out.lt
  clear hb1 c0 c1 c2 c3 c4 c5 c6 c7 c8 c9 c10
  cases hL : large m
  case true =>
    go_wp2_with fail
    refine (awake10 _ HT1.out).mono ?_
    rintro e w2 ⟨rfl, hb2⟩
    have HB2 := Lib.hid (HBs.out.trans (hb2.mono (by omega)))
    clear hb2
    go_wp2_with fail
    go_ret
    exact ⟨rfl, by first | exact HB2.out | (rw [hb]; exact HB2.out)⟩
  by_cases h6 : 6000 < len
  · go_wp2_with fail
    refine (awake10 _ HT1.out).mono ?_
    rintro e w2 ⟨rfl, hb2⟩
    have HB2 := Lib.hid (HBs.out.trans (hb2.mono (by omega)))
    clear hb2
    go_wp2_with fail
    go_ret
    exact ⟨rfl, by first | exact HB2.out | (rw [hb]; exact HB2.out)⟩
  obtain ⟨hke, _, hlp, hlq, _⟩ := large_off hL
  have hle := Tg.len_enc OKM.out (m := m) (by omega)
  have HEB := Lib.hid (Tg.bytes_enc OKM.out (m := m) (by omega))
  have C1 := Lib.hid (tenc_any HX0.out.mv HT1.out (by omega))
  have HC := Lib.hid (fun W (h : Below w0.heap.size w0 W) => (HX0.out.kept h).cells)
  obtain ⟨Bp, dp, hvp⟩ := HX0.out.peers.ex
  obtain ⟨dp2, rfl, _⟩ := (⟨dp, hvp.1, trivial⟩ : ∃ c, vp = .slice Bp m.peers.length c ∧ True)
  obtain ⟨Bq, dq, hvq⟩ := HX0.out.pairs.ex
  obtain ⟨dq2, rfl, _⟩ := (⟨dq, hvq.1, trivial⟩ : ∃ c, vq = .slice Bq m.pairs.length c ∧ True)
  clear hvp hvq
  have HEG : Hid (right m = 0 → Tg.enc m = (Tg.put m, 0)) := Lib.hid Tg.enc_good
  have HEZ : Hid (right m ≠ 0 → Tg.enc m = ([], right m)) := Lib.hid Tg.enc_bad
  obtain ⟨L, hLL⟩ : ∃ L, Hid ((Tg.enc m).1 = L) := ⟨_, rfl⟩
  obtain ⟨r, hr⟩ : ∃ r, Hid ((Tg.enc m).2 = r) := ⟨_, rfl⟩
  have HE : Hid (Tg.enc m = (L, r)) := Lib.hid (by rw [← hLL.out, ← hr.out])
  rw [HE.out] at C1
  rw [hLL.out] at HEB hle
  obtain ⟨c0, c1, c2, c3, c4, c5, c6, c7, c8, c9, c10⟩ := HC.out w0 (Below.refl _ _)
  go_wp2_with fail
  refine (C1.out).mono ?_
  rintro e w1 ⟨v1, rfl, ho1, hb1⟩
  have HB1 := Lib.hid hb1
  have D1 := Lib.hid (tdec_any (own_piece ho1) (show L.length ≤ _ by omega) HEB.out (HT1.out.kept hb1))
  obtain ⟨X, hX⟩ : ∃ X, Hid (Tg.dec L = X) := ⟨_, rfl⟩
  obtain ⟨mx, fx⟩ := X
  rw [hX.out] at D1
  clear ho1 hb1 c0 c1 c2 c3 c4 c5 c6 c7 c8 c9 c10
  go_wp2_with fail
  refine (D1.out).mono ?_
  rintro e w2 ⟨v2, rfl, hm2, hb2⟩
  have HB2 : Hid (Below w0.heap.size w0 w2) := Lib.hid (HB1.out.trans (hb2.mono HB1.out.size))
  obtain ⟨g1, Ap, cp, Aq, cq, u0, u1, rfl, hg1, hal1, hW1, hst1, hx1, hc1, hz1⟩ := var9 hm2
  have HW1 := Lib.hid hW1
  have HX1 := Lib.hid hx1
  have HC1 : Hid (Below w0.heap.size w0 u1) := Lib.hid (HB2.out.trans (hc1.mono (by rw [← hg1]; exact HB2.out.size)))
  clear hm2 hb2 hW1 hx1 hc1 hz1
  have REST : Hid (∀ W, Below w0.heap.size w0 W → Calls Tryd.prog 10 #[.slice a len cap] W (DecPost (Tg.dec l) W)) := Lib.hid (fun W h => tdec_any (HP1.out.kept h) (by have := Hlen.out; omega) HBy.out (HT1.out.kept h))
  have HBX := Lib.hid (HX0.out.kept HC1.out)
  have hsm := Lib.hid (rmsame_any HX1.out.mv HBX.out.mv)
  have FIRST : Hid ((r = 0 → fx = 0 ∧ same mx m = true)) := Lib.hid (fun h0 => by
    have hrt : right m = 0 := by
      by_cases h : right m = 0
      · exact h
      · have := HEZ.out h
        rw [HE.out] at this
        injection this with _ h2
        omega
    have h1 := HEG.out hrt
    rw [HE.out] at h1
    injection h1 with h1 _
    have h2 := HDP.out hrt
    rw [← h1, hX.out] at h2
    injection h2 with h2 h3
    exact ⟨h3, by rw [h2]; exact same_refl _⟩)
  clear HEG HEZ HDP
  obtain ⟨Y, hY⟩ : ∃ Y, Hid (Tg.dec l = Y) := ⟨_, rfl⟩
  obtain ⟨my, gy⟩ := Y
  rw [hY.out] at REST HKD HOD HPD
  simp only at HKD HOD HPD
  have TAIL : Hid (∀ W3, Below w0.heap.size w0 W3 → Hid (Below b w W3)) := Lib.hid (fun W3 h => Lib.hid (HBs.out.trans (h.mono (by omega))))
  by_cases hr0 : r = 0
  case' pos =>
    obtain ⟨f0, s0⟩ := FIRST.out hr0
    subst hr0 f0
    rw [s0] at hsm
    obtain ⟨x0, x1, x2, x3, x4, x5, x6, x7, x8, x9, x10⟩ := HX1.out.cells
    obtain ⟨y0, y1, y2, y3, y4, y5, y6, y7, y8, y9, y10⟩ := HBX.out.cells
    go_wp2_with (first | (refine wpList_store_whole rfl rfl rfl rfl rfl HW1.out (msgI rfl) rfl (by simp [Value.oneCell']) ?_; rw [hst1]) | (refine wpList_load_struct Tryd.underlying30 (msgI rfl) rfl rfl rfl HX1.out.bx.load ?_) | (refine wpList_load_struct Tryd.underlying30 (msgI rfl) rfl rfl rfl HBX.out.bx.load ?_))
    refine (hsm.out).mono ?_
    rintro e w3 ⟨rfl, hb3⟩
    have HC3 : Hid (Below w0.heap.size w0 w3) := Lib.hid (HC1.out.trans (hb3.mono HC1.out.size))
    clear hb3 x0 x1 x2 x3 x4 x5 x6 x7 x8 x9 x10 y0 y1 y2 y3 y4 y5 y6 y7 y8 y9 y10
    go_wp2_with fail
  case' neg =>
    have hr1 : ¬ (r : Int) = 0 := by omega
    have hr2 : ((r : Int) == 0) = false := by rw [beq_eq_false_iff_ne]; omega
    obtain ⟨w3, hw3⟩ : ∃ w3, w3 = u1 := ⟨_, rfl⟩
    have HC3 : Hid (Below w0.heap.size w0 w3) := by rw [hw3]; exact HC1
    rw [← hw3] at hst1
    clear hw3
    go_wp2_with (refine wpList_store_whole rfl rfl rfl rfl rfl HW1.out (msgI rfl) rfl (by simp [Value.oneCell']) ?_; rw [hst1])
  all_goals
    refine (REST.out w3 HC3.out).mono ?_
    rintro e w4 ⟨v4, rfl, hm4, hb4⟩
    have HB4 : Hid (Below w0.heap.size w0 w4) := Lib.hid (HC3.out.trans (hb4.mono HC3.out.size))
    obtain ⟨g4, Ep, ep, Eq, eq, u4, u5, rfl, hg4, hal4, hW4, hst4, hx4, hc4, hz4⟩ := var9 hm4
    have HW4 := Lib.hid hW4
    have HX4 := Lib.hid hx4
    have HC5 : Hid (Below w0.heap.size w0 u5) := Lib.hid (HB4.out.trans (hc4.mono (by rw [← hg4]; exact HB4.out.size)))
    have E5 := Lib.hid (tenc_any hx4.mv (HT1.out.kept HC5.out) (show my.key.size ≤ 1000 by have := HKD.out; omega))
    clear hm4 hb4 hW4 hx4 hc4 hz4
    go_wp2_with (first | (refine wpList_store_whole rfl rfl rfl rfl rfl HW4.out (msgI rfl) rfl (by simp [Value.oneCell']) ?_; rw [hst4]) | (refine wpList_load_struct Tryd.underlying30 (msgI rfl) rfl rfl rfl HX4.out.bx.load ?_))
    refine (E5.out).mono ?_
    rintro e w6 ⟨v6, rfl, ho6, hb6⟩
    have HC6 : Hid (Below w0.heap.size w0 w6) := Lib.hid (HC5.out.trans (hb6.mono HC5.out.size))
    have A6 := Lib.hid (awake10 w6 (HT1.out.kept HC6.out))
    have hcvb : (convert 33 9 (.slice a len cap)).run Tryd.prog w6 = .ok (.string (strOf l)) w6 := by
      obtain ⟨A, c, hv, hse, _⟩ := HP1.out.kept HC6.out
      have h := conv_sees (P := Tryd.prog) Tryd.underlying33 Tryd.underlying5 Tryd.underlying9 l.length c rfl hse
      rw [← hv] at h
      exact h
    have HO6 := Lib.hid ho6
    clear ho6 hb6
    by_cases hg : gy = 0
    · obtain ⟨p1, p2⟩ := HPD.out hg
      have he : Tg.enc my = (l, 0) := by rw [Tg.enc_good p1, p2]
      have ho := HO6.out
      rw [he] at ho
      have hcv6 : (convert 33 9 v6).run Tryd.prog w6 = .ok (.string (strOf l)) w6 := conv_own Tryd.underlying33 Tryd.underlying5 Tryd.underlying9 ho
      obtain ⟨S, hS⟩ : ∃ S, Hid (strOf l = S) := ⟨_, rfl⟩
      rw [hS.out] at hcv6 hcvb
      have heq : (S.toList == S.toList) = true := beq_self_eq_true _
      subst hg
      rw [he]
      clear p1 p2 he ho
      go_wp2_with fail
      refine (A6.out).mono ?_
      rintro e w7 ⟨rfl, hb7⟩
      have HF := TAIL.out w7 (HC6.out.trans (hb7.mono HC6.out.size))
      clear hb7
      go_wp2_with fail
      go_ret
      exact ⟨rfl, by first | exact HF.out | (rw [hb]; exact HF.out)⟩
    · have hg1 : (gy != 0) = true := by simpa using hg
      clear hcvb
      go_wp2_with fail
      refine (A6.out).mono ?_
      rintro e w7 ⟨rfl, hb7⟩
      have HF := TAIL.out w7 (HC6.out.trans (hb7.mono HC6.out.size))
      clear hb7
      go_wp2_with fail
      go_ret
      exact ⟨rfl, by first | exact HF.out | (rw [hb]; exact HF.out)⟩
end Go.Proofs.YtjkjhnpemhlbpaaDoor
