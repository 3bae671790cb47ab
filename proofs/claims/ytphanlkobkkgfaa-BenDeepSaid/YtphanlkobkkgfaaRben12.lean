/- Contracts of the reference's text, Bytes and Print of layer 12. -/
import Derived.Test.YtphanlkobkkgfaaBsz
import Derived.Test.YtphanlkobkkgfaaRef7
import Derived.Test.YtphanlkobkkgfaaRright11
import Derived.Test.YtphanlkobkkgfaaRsame11
namespace Go.Proofs.Ytphanlkobkkgfaa
open Go.RowKit
set_option linter.unusedVariables false
set_option maxRecDepth 100000
set_option linter.unusedSimpArgs false

theorem strOf_is (s : ByteArray) : strOf (nums s) = s := (Txt.nums s).str.symm
theorem rtext12_any (s : ByteArray) (hs : s.size ≤ 1000000000) (w : World) :
    Calls Try.prog 30 #[.string s] w fun e w' => e = .returned (.string (strOf (Bn.text s))) ∧ Below w.heap.size w w' := by
  have C := Lib.hid (fun W => rput_any' (s.size : Int) (by omega) (by omega) W)
  have hl := Nm.put_length (n := (s.size : Int)) (by omega) (by omega)
  have s1 : (strOf (Nm.put (s.size : Int))).size ≤ 20 := by rw [strOf_size]; exact hl
  have Hj : Hid (strOf (Nm.put (s.size : Int)) ++ (⟨#[58]⟩ : ByteArray) ++ s = strOf (Bn.text s)) := Lib.hid (by
    unfold Bn.text
    conv => lhs; rhs; rw [← strOf_is s]
    rw [show (⟨#[58]⟩ : ByteArray) = strOf [58] from rfl, strOf_append, strOf_append, List.append_assoc]
    rfl)
  obtain ⟨n, hn⟩ : ∃ n, s.size = n := ⟨_, rfl⟩
  rw [hn] at C s1 Hj hs
  obtain ⟨a, Ha⟩ : ∃ a, Hid (strOf (Nm.put (n : Int)) = a) := ⟨_, rfl⟩
  rw [Ha.out] at C s1 Hj
  clear hl
  go_enter Try.func30, Try.ntmps30
  go_wp2_with fail
  refine (C.out _).mono ?_
  rintro e w1 ⟨rfl, hb⟩
  have HB1 := Lib.hid hb
  clear hb
  go_wp2_with fail
  go_ret
  exact ⟨by rw [Hj.out]; rfl, HB1.out⟩

/-- what Bytes has written ahead of kid i -/
def Bn.pre (t : Tn) (i : Nat) : List Nat := (if t.kind = 4 then 100 else 108) :: Bn.body (decide (t.kind = 4)) t.keys ((t.kids.map Bn.ben).take i)
theorem Bn.pre_zero (t : Tn) : Bn.pre t 0 = [if t.kind = 4 then 100 else 108] := by unfold Bn.pre; simp [Bn.body]
theorem Bn.pre_key {t : Tn} {i : Nat} (hi : i < t.kids.length) (hk : t.kind = 4) (h : i < t.keys.length) : Bn.pre t (i + 1) = Bn.pre t i ++ (Bn.text t.keys[i] ++ Bn.ben t.kids[i]) := by
  unfold Bn.pre
  rw [Bn.body_take _ i _ _ (by simpa using hi), dif_pos h, if_pos (decide_eq_true hk)]
  simp
theorem Bn.pre_plain {t : Tn} {i : Nat} (hi : i < t.kids.length) (h : ¬ (t.kind = 4 ∧ i < t.keys.length)) : Bn.pre t (i + 1) = Bn.pre t i ++ Bn.ben t.kids[i] := by
  unfold Bn.pre
  rw [Bn.body_take _ i _ _ (by simpa using hi)]
  by_cases h2 : i < t.keys.length
  · rw [dif_pos h2, decide_eq_false (show ¬ t.kind = 4 from fun e => h ⟨e, h2⟩)]; simp
  · rw [dif_neg h2]; simp
theorem Bn.pre_all {t : Tn} (h1 : t.kind ≠ 1) (h2 : t.kind ≠ 2) : Bn.ben t = Bn.pre t t.kids.length ++ [101] := by
  rw [Bn.ben_eq, if_neg h1, if_neg h2]
  unfold Bn.pre
  rw [List.take_of_length_le (by simp)]
  rfl
theorem Bn.pre_len {t : Tn} (h1 : t.kind ≠ 1) (h2 : t.kind ≠ 2) {i : Nat} (hi : i ≤ t.kids.length) (h : (Bn.ben t).length ≤ 3200000) : (Bn.pre t i).length ≤ 3200000 := by
  have := Bn.body_pre (decide (t.kind = 4)) t.keys (t.kids.map Bn.ben) i (by simpa using hi)
  rw [Bn.ben_eq, if_neg h1, if_neg h2] at h
  unfold Bn.pre
  simp at h ⊢
  omega

set_option maxHeartbeats 2000000 in
theorem rbytes12_any (k : Nat) : ∀ (t : Tn), SizeOf.sizeOf t < k → t.Lim → Bn.Ints t → t.nodes ≤ 400 → ∀ {w : World} {B : Nat} {vk vq : Value}, Tv w B t vk vq →
    Calls Try.prog 18 #[tval t vk vq] w fun e w' => e = .returned (.string (strOf (Bn.ben t))) ∧ Below w.heap.size w w' := by
  induction k with
  | zero => intro t h; omega
  | succ k ih =>
    intro t hk hlim hint hnod w B vk vq H
    obtain ⟨b, w1, hs, hal, hT, hb1⟩ := boxedT H
    have HT := Lib.hid hT
    have HB1 := Lib.hid hb1
    have hbw := hT.lt
    obtain ⟨c0, c1, c2, c3, c4⟩ := hT.cells
    have hlen : (Bn.ben t).length ≤ 3200000 := by have := Bn.ben_len t hlim hint; omega
    obtain ⟨A, c, rfl, h1, h2, _, K, Q, hK⟩ := hT.tv.kids
    have HK := Lib.hid hK
    obtain ⟨Ak, ck, rfl, hSk⟩ := hT.tv.keys
    have HSk := Lib.hid hSk.1
    have hsk := hSk.2
    unfold maxLen at h2 hsk
    obtain ⟨hsk1, hsk2, _, hsk4⟩ := hsk
    have hlk : t.s.size ≤ 300 ∧ ∀ x ∈ t.keys, x.size ≤ 300 := by cases hlim with | mk a b c d e => exact ⟨a, d⟩
    have hin : Nm.In t.n := by cases hint with | mk hn hl => exact hn
    have HLK := Lib.hid hlk.2
    have hss := hlk.1
    have IH := Lib.hid (fun i (hi : i < t.kids.length) {w : World} {B : Nat} {vk vq : Value} (h : Tv w B t.kids[i] vk vq) => ih t.kids[i] (by have := Tn.kid_lt hi; omega) (hlim.kid hi) (hint.kid hi) (by have := Tn.nodess_mem (List.getElem_mem hi); have := t.nodes_eq; omega) h)
    have HKl := Lib.hid (fun i (hi : i < t.kids.length) => (show (Bn.ben t.kids[i]).length ≤ 3200000 by have h1 := Bn.ben_len _ (hlim.kid hi) (hint.kid hi); have := Tn.nodess_mem (List.getElem_mem hi); have := t.nodes_eq; omega))
    have HCt := Lib.hid (fun W (h : Below w1.heap.size w1 W) => (HT.out.keep h).cells)
    have P0 := Lib.hid (Bn.pre_zero t)
    have PK := Lib.hid (fun i hi hk h => Bn.pre_key (t := t) (i := i) hi hk h)
    have PP := Lib.hid (fun i hi h => Bn.pre_plain (t := t) (i := i) hi h)
    have PA := Lib.hid (fun h1 h2 => Bn.pre_all (t := t) h1 h2)
    have PL := Lib.hid (fun h1 h2 i hi => Bn.pre_len (t := t) h1 h2 (i := i) hi hlen)
    have HBe := Lib.hid (Bn.ben_eq t)
    have CT := Lib.hid (fun W => rtext12_any t.s (by omega) W)
    obtain ⟨X, hX⟩ : ∃ X, Hid (Bn.ben t = X) := ⟨_, rfl⟩
    rw [hX.out] at PA HBe ⊢
    obtain ⟨nk, hnk⟩ : ∃ n, Hid (t.keys.length = n) := ⟨_, rfl⟩
    obtain ⟨n, hn⟩ : ∃ n, Hid (t.kids.length = n) := ⟨_, rfl⟩
    rw [hnk.out] at c3 hsk1 hal HCt ⊢
    rw [hn.out] at h1 c4 hal HCt PA PL ⊢
    unfold tcells at hal
    unfold tval
    clear hT H hK hSk hb1 ih hsk4 hlk
    by_cases e1 : t.kind = 1
    case pos =>
      have hpl := Nm.put_length (n := t.n) hin.1 hin.2
      have s1 : (strOf (Nm.put t.n)).size ≤ 20 := by rw [strOf_size]; exact hpl
      have C := Lib.hid (fun W => rput_any' t.n hin.1 hin.2 W)
      have Hj : Hid ((⟨#[105]⟩ : ByteArray) ++ strOf (Nm.put t.n) ++ (⟨#[101]⟩ : ByteArray) = strOf X) := Lib.hid (by
        rw [HBe.out, if_pos e1, show (⟨#[105]⟩ : ByteArray) = strOf [105] from rfl, show (⟨#[101]⟩ : ByteArray) = strOf [101] from rfl, strOf_append, strOf_append]; rfl)
      obtain ⟨a, Ha⟩ : ∃ a, Hid (strOf (Nm.put t.n) = a) := ⟨_, rfl⟩
      rw [Ha.out] at C s1 Hj
      rw [e1] at hal c0 ⊢
      clear hpl e1
      go_enter Try.func18, Try.ntmps18
      go_wp2_with fail
      refine (C.out _).mono ?_
      rintro e w2 ⟨rfl, hb⟩
      have HB2 := Lib.hid (HB1.out.trans (hb.mono (by omega)))
      clear hb
      go_wp2_with fail
      go_ret
      exact ⟨by rw [Hj.out]; rfl, by first | (rw [hs]; exact HB2.out) | exact HB2.out⟩
    by_cases e2 : t.kind = 2
    case pos =>
      have Hj : Hid (Bn.text t.s = X) := Lib.hid (by rw [HBe.out, if_neg e1, if_pos e2])
      rw [Hj.out] at CT
      rw [e2] at hal c0 ⊢
      clear e1 e2
      go_enter Try.func18, Try.ntmps18
      go_wp2_with fail
      refine (CT.out _).mono ?_
      rintro e w2 ⟨rfl, hb⟩
      have HB2 := Lib.hid (HB1.out.trans (hb.mono (by omega)))
      clear hb
      go_wp2_with fail
      go_ret
      exact ⟨rfl, by first | (rw [hs]; exact HB2.out) | exact HB2.out⟩
    have q1 : (t.kind == 1) = false := by simpa using e1
    have q2 : (t.kind == 2) = false := by simpa using e2
    have HAll := Lib.hid (PA.out e1 e2)
    have HLn := Lib.hid (fun i hi => PL.out e1 e2 i hi)
    have hE := Lib.hid (And.intro e1 e2)
    clear PA PL CT HBe e1 e2
    by_cases e4 : t.kind = 4
    · have q4 : (t.kind == 4) = true := by simpa using e4
      have P0' : Hid ((⟨#[100]⟩ : ByteArray) = strOf (Bn.pre t 0)) := Lib.hid (by rw [P0.out, if_pos e4]; rfl)
      have PKe := Lib.hid (fun i hi h => PK.out i hi e4 h)
      have PPe := Lib.hid (fun i hi (h : ¬ i < t.keys.length) => PP.out i hi (fun e => h e.2))
      rw [e4] at hal c0 q1 q2 ⊢
      have HCt' := Lib.hid (fun W h => by have := HCt.out W h; rw [e4] at this; exact this)
      clear e4 q4 HCt PK PP P0
      go_enter Try.func18, Try.ntmps18
      go_wp2_with fail
      go_loopw [3, 4] (fun vs vi wr => ∃ (i : Nat) (a : ByteArray), i ≤ n ∧ vi = .int .i64 i ∧ vs = .string a ∧ a.size ≤ 3200000 ∧ Hid (a = strOf (Bn.pre t i)) ∧ Hid (Below b w wr) ∧ Hid (Below w1.heap.size w1 wr)) (fun _ vi _ => n - (intOf vi).toNat)
      case atStart => exact ⟨0, _, by omega, rfl, rfl, by simp [ByteArray.size], P0', HB1, Lib.hid (Below.refl _ _)⟩
      case round =>
        obtain ⟨i, a, hi, rfl, rfl, ha, HA, HB, HC⟩ := hrel
        obtain ⟨d0, d1, d2, d3, d4⟩ := HCt'.out wr HC.out
        have hsb := HB.out.size
        by_cases hlt : i < n
        · have hia : i < t.kids.length := by rw [hn.out]; exact hlt
          obtain ⟨x1, o1, rfl, hx1, h5, hv⟩ := HK.out i hia
          have hW : Below b w1 wr := HC.out.mono (Nat.le_of_lt hbw)
          have hkl := HKl.out i hia
          have hnx := HLn.out (i + 1) (by omega)
          by_cases hik : i < nk
          · have hika : i < t.keys.length := by rw [hnk.out]; exact hik
            have PN := Lib.hid (PKe.out i hia hika)
            obtain ⟨y1, z1, rfl, hy1, dk⟩ := Sc.below HSk.out hW i hika
            have hks := HLK.out _ (List.getElem_mem hika)
            have CK := Lib.hid (fun W => rtext12_any t.keys[i] (by omega) W)
            have htl := Bn.text_len hks
            obtain ⟨kx, hkx⟩ : ∃ x, Hid (t.keys[i] = x) := ⟨t.keys[i], Lib.hid rfl⟩
            rw [hkx.out] at dk CK htl PN
            have hts : (strOf (Bn.text kx)).size ≤ 321 := by rw [strOf_size]; exact htl
            have hbs : (strOf (Bn.ben t.kids[i])).size ≤ 3200000 := by rw [strOf_size]; exact hkl
            have HNx : Hid (strOf (Bn.pre t (i + 1)) = a ++ strOf (Bn.text kx) ++ strOf (Bn.ben t.kids[i])) := Lib.hid (by rw [PN.out, HA.out, strOf_append, strOf_append, List.append_assoc])
            have hns : (strOf (Bn.pre t (i + 1))).size ≤ 3200000 := by rw [strOf_size]; exact hnx
            have CB := Lib.hid (fun W (h : Below b w1 W) => IH.out i hia (hv.keep h))
            have h5w := Lib.hid (fun W (h : Below b w1 W) => h5.ld h hx1)
            obtain ⟨u, hu⟩ : ∃ u, Hid (t.kids[i] = u) := ⟨t.kids[i], Lib.hid rfl⟩
            rw [hu.out] at CB hbs HNx h5w
            obtain ⟨tx, htx⟩ : ∃ x, Hid (strOf (Bn.text kx) = x) := ⟨_, rfl⟩
            obtain ⟨bx, hbx⟩ : ∃ x, Hid (strOf (Bn.ben u) = x) := ⟨_, rfl⟩
            rw [htx.out] at CK hts HNx
            rw [hbx.out] at CB hbs HNx
            clear h5 hv PN htl hkl hnx
            go_wp2_with fail
            refine (CK.out _).mono ?_
            rintro e w2 ⟨rfl, hb2⟩
            have HB2 := Lib.hid (HB.out.trans (hb2.mono (by omega)))
            have HC2 := Lib.hid (HC.out.trans (hb2.mono HC.out.size))
            obtain ⟨d0, d1, d2, d3, d4⟩ := HCt'.out w2 HC2.out
            have hW2 : Below b w1 w2 := HC2.out.mono (Nat.le_of_lt hbw)
            obtain ⟨g0, g1, g2, g3, g4⟩ := h5w.out w2 hW2
            have CB2 := Lib.hid (CB.out w2 hW2)
            clear hb2 hW2
            go_wp2_with fail
            refine (CB2.out).mono ?_
            rintro e w3 ⟨rfl, hb3⟩
            have HB3 := Lib.hid (HB2.out.trans (hb3.mono (by have := HB2.out.size; omega)))
            have HC3 := Lib.hid (HC2.out.trans (hb3.mono HC2.out.size))
            clear hb3
            have hsum : (a ++ tx ++ bx).size ≤ 3200000 := by rw [← HNx.out]; exact hns
            go_wp2_with fail
            go_roundw
            case rel => exact ⟨i + 1, _, by omega, by go_num, rfl, hsum, Lib.hid HNx.out.symm, HB3, HC3⟩
            case measure => simp [intOf]; omega
          · have PN := Lib.hid (PPe.out i hia (by rw [hnk.out]; exact hik))
            have CB := Lib.hid (IH.out i hia (hv.keep hW))
            have hbs : (strOf (Bn.ben t.kids[i])).size ≤ 3200000 := by rw [strOf_size]; exact hkl
            have HNx : Hid (strOf (Bn.pre t (i + 1)) = a ++ strOf (Bn.ben t.kids[i])) := Lib.hid (by rw [PN.out, HA.out, strOf_append])
            have hns : (strOf (Bn.pre t (i + 1))).size ≤ 3200000 := by rw [strOf_size]; exact hnx
            obtain ⟨g0, g1, g2, g3, g4⟩ := h5.below hW hx1
            obtain ⟨u, hu⟩ : ∃ u, Hid (t.kids[i] = u) := ⟨t.kids[i], Lib.hid rfl⟩
            rw [hu.out] at CB hbs HNx g0 g1 g2
            obtain ⟨bx, hbx⟩ : ∃ x, Hid (strOf (Bn.ben u) = x) := ⟨_, rfl⟩
            rw [hbx.out] at CB hbs HNx
            clear h5 hv PN hkl hnx
            go_wp2_with fail
            refine (CB.out).mono ?_
            rintro e w3 ⟨rfl, hb3⟩
            have HB3 := Lib.hid (HB.out.trans (hb3.mono (by omega)))
            have HC3 := Lib.hid (HC.out.trans (hb3.mono HC.out.size))
            clear hb3
            have hsum : (a ++ bx).size ≤ 3200000 := by rw [← HNx.out]; exact hns
            go_wp2_with fail
            go_roundw
            case rel => exact ⟨i + 1, _, by omega, by go_num, rfl, hsum, Lib.hid HNx.out.symm, HB3, HC3⟩
            case measure => simp [intOf]; omega
        · have hin : i = n := by omega
          have HJ : Hid (a ++ (⟨#[101]⟩ : ByteArray) = strOf X) := Lib.hid (by rw [HA.out, hin, HAll.out, show (⟨#[101]⟩ : ByteArray) = strOf [101] from rfl, strOf_append])
          clear hin
          go_wp2_with fail
          go_ret
          exact ⟨by rw [HJ.out]; rfl, by first | (rw [hs]; exact HB.out) | exact HB.out⟩
    · have q4 : (t.kind == 4) = false := by simpa using e4
      have P0' : Hid ((⟨#[108]⟩ : ByteArray) = strOf (Bn.pre t 0)) := Lib.hid (by rw [P0.out, if_neg e4]; rfl)
      have PPe := Lib.hid (fun i hi => PP.out i hi (fun e => e4 e.1))
      clear e4 PK PP P0
      go_enter Try.func18, Try.ntmps18
      go_wp2_with fail
      go_loopw [3, 4] (fun vs vi wr => ∃ (i : Nat) (a : ByteArray), i ≤ n ∧ vi = .int .i64 i ∧ vs = .string a ∧ a.size ≤ 3200000 ∧ Hid (a = strOf (Bn.pre t i)) ∧ Hid (Below b w wr) ∧ Hid (Below w1.heap.size w1 wr)) (fun _ vi _ => n - (intOf vi).toNat)
      case atStart => exact ⟨0, _, by omega, rfl, rfl, by simp [ByteArray.size], P0', HB1, Lib.hid (Below.refl _ _)⟩
      case round =>
        obtain ⟨i, a, hi, rfl, rfl, ha, HA, HB, HC⟩ := hrel
        obtain ⟨d0, d1, d2, d3, d4⟩ := HCt.out wr HC.out
        have hsb := HB.out.size
        by_cases hlt : i < n
        · have hia : i < t.kids.length := by rw [hn.out]; exact hlt
          obtain ⟨x1, o1, rfl, hx1, h5, hv⟩ := HK.out i hia
          have hW : Below b w1 wr := HC.out.mono (Nat.le_of_lt hbw)
          have hkl := HKl.out i hia
          have hnx := HLn.out (i + 1) (by omega)
          have PN := Lib.hid (PPe.out i hia)
          have CB := Lib.hid (IH.out i hia (hv.keep hW))
          have hbs : (strOf (Bn.ben t.kids[i])).size ≤ 3200000 := by rw [strOf_size]; exact hkl
          have HNx : Hid (strOf (Bn.pre t (i + 1)) = a ++ strOf (Bn.ben t.kids[i])) := Lib.hid (by rw [PN.out, HA.out, strOf_append])
          have hns : (strOf (Bn.pre t (i + 1))).size ≤ 3200000 := by rw [strOf_size]; exact hnx
          obtain ⟨g0, g1, g2, g3, g4⟩ := h5.below hW hx1
          obtain ⟨u, hu⟩ : ∃ u, Hid (t.kids[i] = u) := ⟨t.kids[i], Lib.hid rfl⟩
          rw [hu.out] at CB hbs HNx g0 g1 g2
          obtain ⟨bx, hbx⟩ : ∃ x, Hid (strOf (Bn.ben u) = x) := ⟨_, rfl⟩
          rw [hbx.out] at CB hbs HNx
          clear h5 hv PN hkl hnx
          go_wp2_with fail
          refine (CB.out).mono ?_
          rintro e w3 ⟨rfl, hb3⟩
          have HB3 := Lib.hid (HB.out.trans (hb3.mono (by omega)))
          have HC3 := Lib.hid (HC.out.trans (hb3.mono HC.out.size))
          clear hb3
          have hsum : (a ++ bx).size ≤ 3200000 := by rw [← HNx.out]; exact hns
          go_wp2_with fail
          go_roundw
          case rel => exact ⟨i + 1, _, by omega, by go_num, rfl, hsum, Lib.hid HNx.out.symm, HB3, HC3⟩
          case measure => simp [intOf]; omega
        · have hin : i = n := by omega
          have HJ : Hid (a ++ (⟨#[101]⟩ : ByteArray) = strOf X) := Lib.hid (by rw [HA.out, hin, HAll.out, show (⟨#[101]⟩ : ByteArray) = strOf [101] from rfl, strOf_append])
          clear hin
          go_wp2_with fail
          go_ret
          exact ⟨by rw [HJ.out]; rfl, by first | (rw [hs]; exact HB.out) | exact HB.out⟩

end Go.Proofs.Ytphanlkobkkgfaa
