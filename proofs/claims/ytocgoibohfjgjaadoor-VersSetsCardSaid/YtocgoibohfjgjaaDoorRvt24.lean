/- Contract of layer 24's reference: Text. -/
import Derived.Test.YtocgoibohfjgjaaDoorRvs24
import Derived.Test.YtocgoibohfjgjaaDoorPN
import Derived.Test.YtocgoibohfjgjaaDoorPA
namespace Go.Proofs.YtocgoibohfjgjaaDoor
open Go.RowKit
set_option linter.unusedVariables false
set_option maxRecDepth 100000
set_option linter.unusedSimpArgs false

set_option maxHeartbeats 1000000 in
theorem rtext24_any {w : World} {s : Nat} (hs : s < 65536) :
    Calls Tryd.prog 19 #[.int .u16 (s : Int)] w fun e w' => e = .returned (.string (strOf (Vs.text s))) ∧ Below w.heap.size w w' := by
  have HH := Lib.hid (fun W (k : Nat) (hk : k < 16) => rhas24_any (w := W) (s := s) (v := (k : Int) + 1) hs (by omega) (by omega))
  have HPu := Lib.hid (fun W (k : Nat) (hk : k < 16) => rput_any' ((k : Int) + 1) (by omega) (by omega) W)
  go_enter Tryd.func19, Tryd.ntmps19
  go_wp2_with fail
  go_loopw [3, 4] (fun y x wr => ∃ (k : Nat) (σ : ByteArray), k ≤ 16 ∧ x = .int .i64 ((k : Int) + 1) ∧ y = .string σ ∧ Hid (Txt σ (Vs.textN s k)) ∧ Hid (Below w.heap.size w wr)) (fun _ x _ => 17 - (intOf x).toNat)
  case atStart => exact ⟨0, _, by omega, rfl, rfl, Lib.hid (Txt.lit []), Lib.hid (Below.refl _ _)⟩
  case round =>
    obtain ⟨k, σ, hk, rfl, rfl, HT, HB⟩ := hrel
    have hsz := HT.out.size
    have hle := Vs.textN_len s k hk
    have hsz' : σ.size ≤ 48 := by omega
    have hemp := HT.out.eql_lit []
    obtain ⟨z, hz⟩ : ∃ z, Hid (decide (Vs.textN s k = []) = z) := ⟨_, Lib.hid rfl⟩
    have hemp' : (σ.toList == []) = z := by rw [← hz.out]; exact hemp
    clear hsz hle hemp
    by_cases hlt : k < 16
    · have hk1 : (k : Int) + 1 < 17 := by omega
      have C1 := Lib.hid (fun W => HH.out W k hlt)
      have CP := Lib.hid (fun W => HPu.out W k hlt)
      have HNo := Lib.hid (Vs.textN_not (s := s) (k := k))
      have HOn := Lib.hid (Vs.textN_one (s := s) (k := k))
      have HMo := Lib.hid (Vs.textN_more (s := s) (k := k))
      have hpl := Vs.put_len16 hlt
      have HPt : Hid (Txt (strOf (Nm.put ((k : Int) + 1))) (Nm.put ((k : Int) + 1))) := Lib.hid (Txt.of (Nm.put_byte _))
      have hps := HPt.out.size
      obtain ⟨h, hh⟩ : ∃ h, Hid (Vs.has s ((k : Int) + 1) = h) := ⟨_, Lib.hid rfl⟩
      rw [hh.out] at C1 HNo HOn HMo
      obtain ⟨u, hu⟩ : ∃ u, Hid (strOf (Nm.put ((k : Int) + 1)) = u) := ⟨_, Lib.hid rfl⟩
      rw [hu.out] at CP HPt hps
      have hps' : u.size ≤ 2 := by omega
      clear hps hpl
      cases h
      · go_wp2_with fail
        refine (C1.out _).mono ?_
        rintro e w1 ⟨rfl, rfl⟩
        go_wp2_with fail
        refine (C1.out _).mono ?_
        rintro e w2 ⟨rfl, rfl⟩
        go_wp2_with fail
        go_roundw
        case rel => exact ⟨k + 1, σ, by omega, by go_num, rfl, by rw [HNo.out (by trivial)]; exact HT, HB⟩
        case measure => simp [intOf]; omega
      · cases z
        · have HT2 : Hid (Txt (σ ++ ⟨#[44]⟩ ++ u) (Vs.textN s (k + 1))) := Lib.hid (by
            rw [HMo.out (by trivial) (of_decide_eq_false hz.out)]
            exact (HT.out.join (Txt.lit [44])).join HPt.out)
          go_wp2_with fail
          refine (C1.out _).mono ?_
          rintro e w1 ⟨rfl, rfl⟩
          go_wp2_with fail
          refine (C1.out _).mono ?_
          rintro e w2 ⟨rfl, rfl⟩
          go_wp2_with fail
          refine (CP.out _).mono ?_
          rintro e w3 ⟨rfl, hb⟩
          have HB3 := Lib.hid (HB.out.trans (hb.mono HB.out.size))
          clear hb
          go_wp2_with fail
          refine ⟨⟨k + 1, _, by omega, by simp, rfl, HT2, HB3⟩, by simp [intOf]; omega⟩
        · have HT2 : Hid (Txt (σ ++ u) (Vs.textN s (k + 1))) := Lib.hid (by
            rw [HOn.out (by trivial) (of_decide_eq_true hz.out)]
            exact HT.out.join HPt.out)
          go_wp2_with fail
          refine (C1.out _).mono ?_
          rintro e w1 ⟨rfl, rfl⟩
          go_wp2_with fail
          refine (C1.out _).mono ?_
          rintro e w2 ⟨rfl, rfl⟩
          go_wp2_with fail
          refine (CP.out _).mono ?_
          rintro e w3 ⟨rfl, hb⟩
          have HB3 := Lib.hid (HB.out.trans (hb.mono HB.out.size))
          clear hb
          go_wp2_with fail
          refine ⟨⟨k + 1, _, by omega, by simp, rfl, HT2, HB3⟩, by simp [intOf]; omega⟩
    · obtain rfl : k = 16 := by omega
      have HTe : Hid (Vs.text s = if Vs.textN s 16 = [] then [45] else Vs.textN s 16) := Lib.hid rfl
      cases z
      · have HE : Hid (strOf (Vs.text s) = σ) := Lib.hid (by rw [HTe.out, if_neg (of_decide_eq_false hz.out)]; exact HT.out.str.symm)
        go_wp2_with fail
        go_ret
        exact ⟨by rw [HE.out]; rfl, HB.out⟩
      · have HE : Hid (strOf (Vs.text s) = ⟨#[45]⟩) := Lib.hid (by rw [HTe.out, if_pos (of_decide_eq_true hz.out)]; rfl)
        go_wp2_with fail
        go_ret
        exact ⟨by rw [HE.out]; rfl, HB.out⟩
end Go.Proofs.YtocgoibohfjgjaaDoor
