/- The walk of the law PartsOrder. -/
import Derived.Test.YtlbejddmnflmbaaAwake21
import Derived.Test.YtlbejddmnflmbaaPm2
import Derived.Test.YtlbejddmnflmbaaBl
namespace Go.Proofs.Ytlbejddmnflmbaa
open Go.RowKit
set_option linter.unusedVariables false
set_option maxRecDepth 100000
set_option linter.unusedSimpArgs false

/-- what the law's loop has done when k parts came -/
structure Ords (w : World) (l : List (List Nat)) (p q k : Nat) (wr : World) : Prop where
  duo : Duo21 w p q (Pm.fwd l k) (Pm.bwd l k) wr
  few : ∀ i, i < k → (l.getD i []).length ≤ 300
theorem getD_mem {l : List (List Nat)} {i : Nat} (h : i < l.length) : l.getD i [] = l[i] := by simp [List.getD, List.getElem?_eq_getElem h]
theorem getD_le {l : List (List Nat)} {m : Nat} (h : ∀ x ∈ l, x.length ≤ m) (i : Nat) : (l.getD i []).length ≤ m := by
  by_cases hi : i < l.length
  · rw [getD_mem hi]; exact h _ (List.getElem_mem hi)
  · simp [List.getD, List.getElem?_eq_none (show l.length ≤ i by omega)]
set_option maxHeartbeats 4000000 in
theorem partsOrder_walk (V : Value) (l : List (List Nat)) (w : World) (H : Bl w w.heap.size V l ∧ (∀ x ∈ l, ∀ y ∈ x, y < 256) ∧ ∀ x ∈ l, x.length ≤ 140737488351232) :
    Calls Try.prog 4 #[V] w fun e w' => e = .returned (.bool true) ∧ Below w.heap.size w w' := by
  obtain ⟨H, hby, hreach⟩ := H
  obtain ⟨A, c, rfl, hle, hmx, hA0⟩ := H.shape
  unfold maxLen at hmx
  have HAt := Lib.hid (fun i (hi : i < l.length) => H.all_ hi)
  have HBy := Lib.hid (fun i (hi : i < l.length) => hby _ (List.getElem_mem hi))
  have HRe := Lib.hid (fun i (hi : i < l.length) => hreach _ (List.getElem_mem hi))
  have HFe := Lib.hid (fun k hk => Pm.fwd_err l k hk)
  have HFp := Lib.hid (fun k hk => Pm.fwd_put l k hk)
  have HBe := Lib.hid (fun k hk => Pm.bwd_err l k hk)
  have HBp := Lib.hid (fun k hk => Pm.bwd_put l k hk)
  have HFs := Lib.hid (fun k => Pm.fwd_size_le l k 140737488351232 (fun i _ => getD_le hreach i))
  have HBs := Lib.hid (fun k => Pm.bwd_size l k 140737488351232 (getD_le hreach))
  obtain ⟨n, hn⟩ : ∃ n, Hid (l.length = n) := ⟨_, Lib.hid rfl⟩
  rw [hn.out] at hle ⊢
  clear H hby hreach
  by_cases hout : n < 1 ∨ 60 < n
  · have AW := Lib.hid (awake21 w)
    rcases hout with ho | ho
    · have hd : decide ((n : Int) < 1) = true := decide_eq_true (by omega)
      go_enter Try.func4, Try.ntmps4
      go_wp2_with fail
      refine (AW.out).mono ?_
      rintro e w1 ⟨rfl, hb⟩
      have HB := Lib.hid hb
      clear hb
      go_wp2_with fail
      go_ret
      exact ⟨rfl, HB.out⟩
    · have hd : decide ((n : Int) < 1) = false := decide_eq_false (by omega)
      have hd2 : 60 < (n : Int) := by omega
      go_enter Try.func4, Try.ntmps4
      go_wp2_with fail
      refine (AW.out).mono ?_
      rintro e w1 ⟨rfl, hb⟩
      have HB := Lib.hid hb
      clear hb
      go_wp2_with fail
      go_ret
      exact ⟨rfl, HB.out⟩
  have hn1 : 1 ≤ n := by omega
  have hn2 : n ≤ 60 := by omega
  have hd : decide ((n : Int) < 1) = false := decide_eq_false (by omega)
  have hd2 : ¬ 60 < (n : Int) := by omega
  have N := Lib.hid (fun W => pnew21_any n (by omega) (by omega) W)
  clear hout
  go_enter Try.func4, Try.ntmps4
  go_wp2_with fail
  refine (N.out _).mono ?_
  rintro e w1 ⟨p, rfl, hp, hb1⟩
  have HP1 := Lib.hid hp
  have HB1 := Lib.hid hb1
  clear hp hb1
  go_wp2_with fail
  refine (N.out _).mono ?_
  rintro e w2 ⟨q, rfl, hq, hb2⟩
  have HD : Hid (Duo21 w p q ⟨n, []⟩ ⟨n, []⟩ w2) := Lib.hid ⟨_, _, HP1.out.keep (fun b hb => hb2.block b (HP1.out.lt b hb)), hq, fun b h1 h2 => by omega, fun b hb => hb.1, fun b hb => by have := HB1.out.size; omega, HB1.out.trans (hb2.mono HB1.out.size)⟩
  have HO : Hid (Ords w l p q 0 w2) := Lib.hid ⟨by
    have e1 : Pm.fwd l 0 = ⟨n, []⟩ := by simp [Pm.fwd, hn.out]
    have e2 : Pm.bwd l 0 = ⟨n, []⟩ := by simp [Pm.bwd, hn.out]
    rw [e1, e2]; exact HD.out, fun i hi => by omega⟩
  clear hq hb2 HP1 HB1 HD
  go_wp2_with fail
  go_loopw [7, 8] (fun u v wr => ∃ (k : Nat) (t : ByteArray), v = .int .i64 k ∧ u = .string t ∧ k ≤ n ∧ Hid (t = strOf ((l.take k).flatten)) ∧ Hid (Ords w l p q k wr)) (fun _ v _ => n - (intOf v).toNat)
  case atStart => exact ⟨0, _, rfl, rfl, Nat.zero_le _, Lib.hid (by simp [strOf]), HO⟩
  case round =>
    obtain ⟨k, t, rfl, rfl, hk, HT, HR⟩ := hrel
    by_cases hlt : k < n
    · have hkl : k < l.length := by rw [hn.out]; exact hlt
      have hql : l.length - 1 - k < l.length := by omega
      obtain ⟨b, off, u, rfl, hb, hU⟩ := HAt.out k hkl
      obtain ⟨b', off', u', e', _, hU'⟩ := HAt.out _ hql
      cases e'
      have hby := HBy.out k hkl
      have hby' := HBy.out _ hql
      have hre := HRe.out k hkl
      have hre' := HRe.out _ hql
      have HSf : Hid ((Pm.fwd l k).size ≤ 1152921504606846976) := Lib.hid (by have := HFs.out k; omega)
      have HSb : Hid ((Pm.bwd l k).size ≤ 1152921504606846976) := Lib.hid (by have := HBs.out k; omega)
      have E1 := HFe.out k hkl
      have E2 := HBe.out k hkl
      have P1 := HFp.out k hkl
      have P2 := HBp.out k hkl
      have G1 := getD_mem hkl
      rw [G1] at P1
      rw [getD_mem hql] at P2
      obtain ⟨x, hx⟩ : ∃ x, Hid (l[k] = x) := ⟨_, Lib.hid rfl⟩
      obtain ⟨y, hy⟩ : ∃ y, Hid (l[l.length - 1 - k] = y) := ⟨_, Lib.hid rfl⟩
      rw [hx.out] at hU hby hre P1 G1
      rw [hy.out] at hU' hby' hre' P2
      obtain ⟨j, hj⟩ : ∃ j, Hid (l.length - 1 - k = j) := ⟨_, Lib.hid rfl⟩
      have hjn : Hid (n - 1 - k = j) := Lib.hid (by rw [← hn.out]; exact hj.out)
      have hjn2 : j < n := by have := hjn.out; omega
      have hw1 : IntKind.i64.wrap ((n : Int) - 1) = (n : Int) - 1 := by rw [IntKind.wrap_i64]; omega
      have hw2 : IntKind.i64.wrap ((n : Int) - 1 - (k : Int)) = (j : Int) := by have := hjn.out; rw [IntKind.wrap_i64]; omega
      rw [hj.out] at hU' E2 P2
      have AP := Lib.hid (fun (W : World) (t : Pm.S) (h : Duo21 w p q (Pm.fwd l k) t W) (v : Value) (B : Nat) (P : Piece W B v x) => padd_duo h HSf.out (k : Int) (by omega) (by omega) P hby hre)
      have AQ := Lib.hid (fun (W : World) (s : Pm.S) (h : Duo21 w q p (Pm.bwd l k) s W) (v : Value) (B : Nat) (P : Piece W B v y) => padd_duo h HSb.out (j : Int) (by omega) (by omega) P hby' hre')
      rw [E1, P1] at AP
      rw [E2, P2] at AQ
      obtain ⟨A1, a1, rfl, _, _, ha1, ha2⟩ := (hU w (Below.refl _ _)).2
      obtain ⟨A2, a2, rfl, _, _, ha3, ha4⟩ := (hU' w (Below.refl _ _)).2
      have HU := Lib.hid hU
      have HU' := Lib.hid hU'
      have hc := (hU wr HR.out.duo.below).1
      have hc' := (hU' wr HR.out.duo.below).1
      clear hU hU'
      unfold maxLen at ha2 ha4
      obtain ⟨xl, hxl⟩ : ∃ xl, Hid (x.length = xl) := ⟨_, Lib.hid rfl⟩
      obtain ⟨yl, hyl⟩ : ∃ yl, Hid (y.length = yl) := ⟨_, Lib.hid rfl⟩
      rw [hxl.out] at hc HU ha1 hre
      rw [hyl.out] at hc' HU' ha3 hre'
      have HX := Lib.hid (Txt.of hby)
      by_cases hlong : 300 < xl
      · have h300 : 300 < (xl : Int) := by omega
        go_wp2_with fail
        refine (awake21 _).mono ?_
        rintro e w3 ⟨rfl, hb3⟩
        have HB := Lib.hid (HR.out.duo.below.trans (hb3.mono HR.out.duo.below.size))
        clear hb3
        go_wp2_with fail
        go_ret
        exact ⟨rfl, HB.out⟩
      · have h300 : ¬ 300 < (xl : Int) := by omega
        go_wp2_with fail
        refine (AP.out _ _ HR.out.duo _ _ (HU.out _ HR.out.duo.below).2).mono ?_
        rintro e w3 ⟨rfl, h3⟩
        have H3 := Lib.hid h3
        have hc3 := (HU'.out _ H3.out.below).1
        clear h3
        go_wp2_with fail
        refine (AQ.out _ _ H3.out.symm _ _ (HU'.out _ H3.out.below).2).mono ?_
        rintro e w4 ⟨rfl, h4⟩
        have H4 := Lib.hid h4.symm
        have hc4 := (HU.out _ H4.out.below).1
        have hcv := (HU.out _ H4.out.below).2.conv
        clear h4
        have HN : Hid (t ++ strOf x = strOf ((l.take (k + 1)).flatten)) := Lib.hid (by
          rw [HT.out, strOf_append, List.take_succ_eq_append_getElem hkl, List.flatten_append, ← hx.out]; simp)
        have hts : t.size = ((l.take k).flatten).length := by rw [HT.out, strOf_size]
        have hxs : (strOf x).size = xl := by rw [strOf_size, hxl.out]
        have hfew := HR.out.few
        have hfl : ((l.take k).flatten).length ≤ k * 300 := by rw [← Pm.fwd_size l k (by omega)]; exact Pm.fwd_size_le l k 300 hfew
        have HO2 : Hid (Ords w l p q (k + 1) w4) := Lib.hid ⟨H4.out, fun i hi => by
          rcases Nat.lt_or_ge i k with h1 | h1
          · exact hfew i h1
          · obtain rfl : i = k := by omega
            rw [G1, hxl.out]; omega⟩
        obtain ⟨T, hT⟩ : ∃ T, Hid (strOf x = T) := ⟨_, Lib.hid rfl⟩
        rw [hT.out] at hcv hxs HN
        have hjo : ¬ 9223372036854775807 < t.size + T.size := by omega
        clear hts hxs hfl hfew
        go_wp2_with fail
        go_roundw
        case rel => exact ⟨k + 1, _, by go_num, rfl, by omega, HN, HO2⟩
        case measure => simp [intOf]; omega
    · obtain rfl : k = n := by omega
      have hn9 : l.length = k := hn.out
      have hfew := HR.out.few
      have hm : ∀ i, (l.getD i []).length ≤ 300 := fun i => by
        rcases Nat.lt_or_ge i k with h1 | h1
        · exact hfew i h1
        · simp [List.getD, List.getElem?_eq_none (show l.length ≤ i by rw [hn.out]; exact h1)]
      have hs1 := Pm.fwd_size_le l k 300 hfew
      have hs2 := Pm.bwd_size l k 300 hm
      obtain ⟨f1, f2⟩ := Pm.told_flat l (Pm.fwd l k) rfl (by rw [Pm.fwd_len, hn.out]) (fun i hi => Pm.fwd_at l k (by omega) i (by omega))
      obtain ⟨g1, g2⟩ := Pm.told_flat l (Pm.bwd l k) rfl (by rw [Pm.bwd_len, hn.out]) (fun i hi => Pm.bwd_at l k (by omega) i (by omega) hi)
      have hsz := Pm.fwd_size l k (by omega)
      rw [List.take_of_length_le (by omega)] at hsz
      have HT2 : Hid (t = strOf l.flatten) := Lib.hid (by rw [HT.out, List.take_of_length_le (by omega)])
      have W1 := Lib.hid (pwhole_duo HR.out.duo (by omega))
      have W2 := Lib.hid (fun (W : World) (h : Duo21 w p q (Pm.fwd l k) (Pm.bwd l k) W) => pwhole_duo h.symm (by omega))
      have SZ := Lib.hid (fun (W : World) (h : Duo21 w p q (Pm.fwd l k) (Pm.bwd l k) W) => psize_duo h (by omega))
      have MI := Lib.hid (fun (W : World) (h : Duo21 w p q (Pm.fwd l k) (Pm.bwd l k) W) => pmissing_duo h)
      rw [f1, show (Pm.fwd l k).told = l.flatten from f2] at W1
      rw [g1, show (Pm.bwd l k).told = l.flatten from g2] at W2
      rw [hsz] at SZ
      rw [Pm.fwd_len, show (Pm.fwd l k).count = k from hn.out] at MI
      have hts : t.size = l.flatten.length := by rw [HT2.out, strOf_size]
      obtain ⟨L, hL⟩ : ∃ L, Hid (l.flatten = L) := ⟨_, Lib.hid rfl⟩
      rw [hL.out] at W1 W2 SZ HT2 hts
      obtain ⟨z, hz⟩ : ∃ z, Hid (L.length = z) := ⟨_, Lib.hid rfl⟩
      rw [hz.out] at SZ hts
      have hwk : IntKind.i64.wrap ((k : Int) - (k : Int)) = 0 := by rw [IntKind.wrap_i64]; omega
      clear hm hs1 hs2 f1 f2 g1 g2 hsz hfew hn9
      go_wp2_with fail
      refine (W1.out).mono ?_
      rintro e w3 ⟨v3, rfl, p3, h3, _⟩
      have H3 := Lib.hid h3
      have P3 := Lib.hid p3
      obtain ⟨A3, a3, rfl, _⟩ := p3
      clear h3
      go_wp2_with fail
      refine (W2.out _ H3.out).mono ?_
      rintro e w4 ⟨v4, rfl, p4, h4, hb4⟩
      have H4 := Lib.hid h4.symm
      have P4 := Lib.hid p4
      obtain ⟨A4, a4, rfl, _⟩ := p4
      have hcv3 : (convert 33 9 (.slice A3 L.length a3)).run Try.prog w4 = .ok (.string t) w4 := by rw [HT2.out]; exact (P3.out.kept hb4).conv
      have hcv4 : (convert 33 9 (.slice A4 L.length a4)).run Try.prog w4 = .ok (.string t) w4 := by rw [HT2.out]; exact P4.out.conv
      rw [hz.out] at hcv3 hcv4 ⊢
      clear h4 hb4
      go_wp2_with fail
      refine (SZ.out _ H4.out).mono ?_
      rintro e w5 ⟨rfl, h5⟩
      have H5 := Lib.hid h5
      clear h5
      go_wp2_with fail
      refine (MI.out _ H5.out).mono ?_
      rintro e w6 ⟨rfl, h6⟩
      have H6 := Lib.hid h6
      have hkk : (k : Int) - (k : Int) = 0 := by omega
      rw [hkk]
      clear h6
      go_wp2_with fail
      refine (awake21 _).mono ?_
      rintro e w7 ⟨rfl, h7⟩
      have HB := Lib.hid (H6.out.below.trans (h7.mono H6.out.below.size))
      clear h7
      go_wp2_with fail
      go_ret
      exact ⟨rfl, HB.out⟩
end Go.Proofs.Ytlbejddmnflmbaa
