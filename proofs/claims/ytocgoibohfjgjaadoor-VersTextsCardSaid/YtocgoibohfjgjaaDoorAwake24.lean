/- Contract of layer 24's law's awake. -/
import Derived.Test.YtocgoibohfjgjaaDoorVw24
namespace Go.Proofs.YtocgoibohfjgjaaDoor
open Go.RowKit
set_option linter.unusedVariables false
set_option maxRecDepth 100000
set_option linter.unusedSimpArgs false

theorem rowI_lit {w : World} {fr : Nat × Nat} {t : TypeId} (cs : Array Value) (l : List Int) (n : Nat) (hn : l.length = n) (h : cs.toList = l.map (Value.int .i64 ·)) (hb : ∀ x ∈ l, -9223372036854775808 ≤ x ∧ x ≤ 9223372036854775807) (hm : n ≤ 1000) : RowI (w.alloc (.cells cs t fr)) (some ⟨w.heap.size, 0, none⟩) n n l := by
  refine ⟨hn, fun _ => ⟨w.heap.size, 0, rfl, by simp, fun i hi => ?_⟩, hb, Nat.le_refl _, by unfold maxLen; omega, fun h => by cases h⟩
  have e : cs.toList[i]? = some (.int .i64 l[i]) := by rw [h]; simp [hi]
  simp only [World.cell?, World.alloc, Array.getElem?_push_size]
  simpa using e
set_option maxHeartbeats 4000000 in
theorem awake24 (w : World) : Calls Tryd.prog 6 #[] w fun e w' => e = .returned (.bool true) ∧ Below w.heap.size w w' := by
  have HB0 : Hid (∀ W o, Below W.heap.size W (W.alloc o)) := Lib.hid (fun W o => (Below.refl _ _).alloc (Nat.le_refl _) o)
  have D1 := Lib.hid (fun W => cread24_any (w := W) (Txt.lit [51, 44, 50]) (by decide))
  have D2 := Lib.hid (fun W => cread24_any (w := W) (Txt.lit [49, 44, 49, 50]) (by decide))
  rw [show ([51, 44, 50] : List UInt8).map UInt8.toNat = [51, 44, 50] from rfl, Vs.read_a] at D1
  rw [show ([49, 44, 49, 50] : List UInt8).map UInt8.toNat = [49, 44, 49, 50] from rfl, Vs.read_b] at D2
  have S1 := Lib.hid (fun W A n c (h : RowI W A n c [1, 3, 4]) => cset24_any h)
  have S2 := Lib.hid (fun W A n c (h : RowI W A n c [2, 3]) => cset24_any h)
  have S3 := Lib.hid (fun W A n c (h : RowI W A n c [12, 1]) => cset24_any h)
  rw [Vs.set_a] at S1
  rw [Vs.set_b] at S2
  rw [Vs.set_c] at S3
  have E1 := Lib.hid (fun W => cbest24_any (w := W) (a := 13) (b := 6) (by decide) (by decide))
  rw [Vs.best_a] at E1
  have E2 := Lib.hid (fun W => ctext24_any (w := W) (s := 2049) (by decide))
  rw [Vs.text_b] at E2
  have E3 := Lib.hid (fun W => chas24_any (w := W) (s := 2049) (v := 12) (by decide) (by decide) (by decide))
  rw [Vs.has_a] at E3
  have E4 := Lib.hid (fun W => cmode24_any (w := W) (v := 4) (by decide) (by decide))
  rw [Vs.mode_a] at E4
  have E5 := Lib.hid (fun W => cmode24_any (w := W) (v := 0) (by decide) (by decide))
  rw [Vs.mode_b] at E5
  have E6 := Lib.hid (fun W => clist24_any (w := W) (s := 2049) (by decide))
  rw [Vs.list_a] at E6
  have hstr : ((strOf [49, 44, 49, 50]).toList == [49, 44, 49, 50]) = true := by decide +kernel
  go_enter Tryd.func6, Tryd.ntmps6
  go_wp2_with fail
  refine (D1.out _).mono ?_
  rintro e w1 ⟨rfl, hb⟩
  have H1 := Lib.hid hb
  clear hb
  go_wp2_with fail
  refine (D2.out _).mono ?_
  rintro e w2 ⟨rfl, hb⟩
  have H2 := Lib.hid (H1.out.trans (hb.mono H1.out.size))
  clear hb
  go_wp2_with fail
  have a1 := HB0.out w2 (.cells #[.int .i64 1, .int .i64 3, .int .i64 4] 3)
  refine (S1.out _ _ _ _ (rowI_lit _ _ 3 rfl rfl (by decide) (by omega))).mono ?_
  rintro e w3 ⟨rfl, hb⟩
  have H3 := Lib.hid (H2.out.trans ((a1.trans (hb.mono a1.size)).mono H2.out.size))
  clear hb a1
  go_wp2_with fail
  have a1 := HB0.out w3 (.cells #[.int .i64 2, .int .i64 3] 3)
  refine (S2.out _ _ _ _ (rowI_lit _ _ 2 rfl rfl (by decide) (by omega))).mono ?_
  rintro e w4 ⟨rfl, hb⟩
  have H4 := Lib.hid (H3.out.trans ((a1.trans (hb.mono a1.size)).mono H3.out.size))
  clear hb a1
  go_wp2_with fail
  refine (E1.out _).mono ?_
  rintro e w5 ⟨rfl, hb⟩
  have H5 := Lib.hid (H4.out.trans (hb.mono H4.out.size))
  clear hb
  go_wp2_with fail
  have a1 := HB0.out w5 (.cells #[.int .i64 12, .int .i64 1] 3)
  refine (S3.out _ _ _ _ (rowI_lit _ _ 2 rfl rfl (by decide) (by omega))).mono ?_
  rintro e w6 ⟨rfl, hb⟩
  have H6 := Lib.hid (H5.out.trans ((a1.trans (hb.mono a1.size)).mono H5.out.size))
  clear hb a1
  go_wp2_with fail
  refine (E2.out _).mono ?_
  rintro e w7 ⟨rfl, hb⟩
  have H7 := Lib.hid (H6.out.trans (hb.mono H6.out.size))
  clear hb
  go_wp2_with fail
  refine (E3.out _).mono ?_
  rintro e w8 ⟨rfl, hb⟩
  have H8 := Lib.hid (H7.out.trans (hb.mono H7.out.size))
  clear hb
  go_wp2_with fail
  refine (E4.out _).mono ?_
  rintro e w9 ⟨rfl, hb⟩
  have H9 := Lib.hid (H8.out.trans (hb.mono H8.out.size))
  clear hb
  go_wp2_with fail
  refine (E5.out _).mono ?_
  rintro e wa ⟨rfl, hb⟩
  have Ha := Lib.hid (H9.out.trans (hb.mono H9.out.size))
  clear hb
  go_wp2_with fail
  refine (E6.out _).mono ?_
  rintro e wb ⟨v, rfl, ho, hb⟩
  obtain ⟨Av, cv, rfl, _⟩ := own_look ho
  have Hb := Lib.hid (Ha.out.trans (hb.mono Ha.out.size))
  clear hb ho
  go_wp2_with fail
  go_ret
  exact ⟨rfl, Hb.out⟩
end Go.Proofs.YtocgoibohfjgjaaDoor
