/- The walk of the law VersSets. -/
import Derived.Test.YtocgoibohfjgjaaDoorAwake24
namespace Go.Proofs.YtocgoibohfjgjaaDoor
open Go.RowKit
set_option linter.unusedVariables false
set_option maxRecDepth 100000
set_option linter.unusedSimpArgs false

set_option maxHeartbeats 4000000 in
theorem versSets_walk (A : Option Addr) (len c : Nat) (l : List Int) (a0 v : Int) (w : World) (R0 : RowI w A len c l) (w0 : (Lit.int .u16 a0).wf = true) (w1 : (Lit.int .i64 v).wf = true) :
    Calls Tryd.prog 3 #[.slice A len c, .int .u16 a0, .int .i64 v] w fun e w' => e = .returned (.bool true) ∧ Below w.heap.size w w' := by
  obtain ⟨p0, q0⟩ := bounds_u16 w0
  obtain ⟨p2, q2⟩ := bounds_i64 w1
  obtain ⟨s, rfl⟩ := Int.eq_ofNat_of_zero_le p0
  have hs : s < 65536 := by omega
  have p2' : -9223372036854775808 ≤ v := by omega
  have q2' : v ≤ 9223372036854775807 := by omega
  have hle := R0.le
  have hmx := R0.max
  unfold maxLen at hmx
  clear w0 w1 p0 q0 p2 q2
  by_cases hbig : 60 < len
  · have hb2 : 60 < (len : Int) := by omega
    clear R0
    go_enter Tryd.func3, Tryd.ntmps3
    go_wp2_with fail
    refine (awake24 _).mono ?_
    rintro e w6 ⟨rfl, hb⟩
    have H6 := Lib.hid hb
    clear hb
    go_wp2_with fail
    go_ret
    exact ⟨rfl, H6.out⟩
  · have hb2 : ¬ 60 < (len : Int) := by omega
    have CS := Lib.hid (fun W (h : Below w.heap.size w W) => cset24_any (R0.kept h))
    have RS := Lib.hid (fun W (h : Below w.heap.size w W) => rset24_any (R0.kept h))
    have CL := Lib.hid (fun W => clist24_any (w := W) hs)
    have RH := Lib.hid (fun W (k : Nat) (hk : k < 16) => rhas24_any (w := W) (s := s) (v := (k : Int) + 1) hs (by omega) (by omega))
    have CV := Lib.hid (fun W => chas24_any (w := W) hs p2' q2')
    have RV := Lib.hid (fun W => rhas24_any (w := W) hs p2' q2')
    obtain ⟨t, ht⟩ : ∃ t, Hid (Vs.set l = t) := ⟨_, Lib.hid rfl⟩
    rw [ht.out] at CS RS
    obtain ⟨hv, hhv⟩ : ∃ t, Hid (Vs.has s v = t) := ⟨_, Lib.hid rfl⟩
    rw [hhv.out] at CV RV
    have e1 : ((t : Int) == (t : Int)) = true := by simp
    have e2 : (hv == hv) = true := by cases hv <;> rfl
    have hKl := Vs.versK_len s 16
    have HAt := Lib.hid (fun k (hk : k < 16) (h : s.testBit k = true) => Vs.versK_at h hk)
    obtain ⟨K, hK⟩ : ∃ K, Hid (Vs.versK s 16 = K) := ⟨_, Lib.hid rfl⟩
    rw [hK.out] at CL hKl HAt
    obtain ⟨n, hn⟩ : ∃ n, Hid (K.length = n) := ⟨_, Lib.hid rfl⟩
    rw [hn.out] at CL hKl HAt
    clear R0 hbig
    go_enter Tryd.func3, Tryd.ntmps3
    go_wp2_with fail
    refine (CL.out _).mono ?_
    rintro e w1 ⟨v1, rfl, ho, hb⟩
    have H1 := Lib.hid hb
    have HO := Lib.hid ho
    obtain ⟨Av, cv, rfl, hnc, _, _⟩ := own_look ho
    clear hb ho
    go_wp2_with fail
    go_loopw [8, 9] (fun y x wr => ∃ k : Nat, k ≤ 16 ∧ x = .int .i64 ((k : Int) + 1) ∧ y = .int .i64 (((Vs.versK s k).length : Nat) : Int) ∧ wr = w1) (fun _ x _ => 17 - (intOf x).toNat)
    case atStart => exact ⟨0, by omega, rfl, rfl, rfl⟩
    case round =>
      obtain ⟨k, hk, rfl, rfl, rfl⟩ := hrel
      have hkl := Vs.versK_len s k
      have HIn := Lib.hid (Vs.versK_in (s := s) (k := k))
      have HNo := Lib.hid (Vs.versK_not (s := s) (k := k))
      have HKe : Hid (k = 16 → (Vs.versK s k).length = n) := Lib.hid (fun h => by rw [h, hK.out, hn.out])
      have HAk := Lib.hid (fun (h1 : k < 16) h => HAt.out k h1 h)
      obtain ⟨m, hm⟩ : ∃ m, Hid ((Vs.versK s k).length = m) := ⟨_, Lib.hid rfl⟩
      rw [hm.out] at hkl HAk HKe ⊢
      by_cases hlt : k < 16
      · have hk1 : (k : Int) + 1 < 17 := by omega
        have C1 := Lib.hid (RH.out wr k hlt)
        rw [Vs.has_nat s k hlt] at C1
        obtain ⟨b, hb⟩ : ∃ b, Hid (s.testBit k = b) := ⟨_, Lib.hid rfl⟩
        rw [hb.out] at C1 HIn HNo HAk
        cases b
        · go_wp2_with fail
          refine (C1.out).mono ?_
          rintro e w2 ⟨rfl, rfl⟩
          go_wp2_with fail
          go_roundw
          case rel => exact ⟨k + 1, by omega, by go_num, by rw [HNo.out (by trivial), hm.out], by first | rfl | trivial⟩
          case measure => simp [intOf]; omega
        · obtain ⟨hmn, hget⟩ := HAk.out hlt (by trivial)
          have hmK : m < K.length := by rw [hn.out]; exact hmn
          have hx := ints_get .i64 K m hmK
          rw [hget] at hx
          obtain ⟨A', c', e, _, _, _, h4⟩ := own_look HO.out
          cases e
          obtain ⟨bb, rfl, _, _, hcell⟩ := h4 m _ hx
          have hkk : ((k : Int) + 1 != (k : Int) + 1) = false := by simp
          have hcell' : wr.cell? ⟨bb, m, none⟩ = some (.int .i64 ((k : Int) + 1)) := by rw [hcell]; simp
          clear h4 hx hget hcell hmK
          go_wp2_with fail
          refine (C1.out).mono ?_
          rintro e w2 ⟨rfl, rfl⟩
          go_wp2_with fail
          go_roundw
          case rel => exact ⟨k + 1, by omega, by go_num, by rw [HIn.out (by trivial), List.length_append, hm.out]; go_num, by first | rfl | trivial⟩
          case measure => simp [intOf]; omega
      · have hmn := HKe.out (by omega)
        have hk1 : ¬ (k : Int) + 1 < 17 := by omega
        have hee : ((m : Int) == (n : Int)) = true := by simp; omega
        have C2 := Lib.hid (CS.out wr H1.out)
        clear hmn
        go_wp2_with fail
        refine (C2.out).mono ?_
        rintro e w2 ⟨rfl, hb⟩
        have H2 := Lib.hid (H1.out.trans (hb.mono H1.out.size))
        clear hb
        go_wp2_with fail
        refine (RS.out w2 H2.out).mono ?_
        rintro e w3 ⟨rfl, rfl⟩
        go_wp2_with fail
        refine (CV.out _).mono ?_
        rintro e w4 ⟨rfl, hb⟩
        have H4 := Lib.hid (H2.out.trans (hb.mono H2.out.size))
        clear hb
        go_wp2_with fail
        refine (RV.out _).mono ?_
        rintro e w5 ⟨rfl, rfl⟩
        go_wp2_with fail
        refine (awake24 _).mono ?_
        rintro e w6 ⟨rfl, hb⟩
        have H6 := Lib.hid (H4.out.trans (hb.mono H4.out.size))
        clear hb
        go_wp2_with fail
        go_ret
        exact ⟨rfl, H6.out⟩
end Go.Proofs.YtocgoibohfjgjaaDoor
