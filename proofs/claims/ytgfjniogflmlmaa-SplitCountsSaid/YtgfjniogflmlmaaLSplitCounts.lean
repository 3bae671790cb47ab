/- The walk of the law SplitCounts. -/
import Derived.Test.YtgfjniogflmlmaaAwake19
namespace Go.Proofs.Ytgfjniogflmlmaa
open Go.RowKit
set_option linter.unusedVariables false
set_option maxRecDepth 100000
set_option linter.unusedSimpArgs false

set_option maxHeartbeats 2000000 in
theorem splitCounts_walk (m n : Int) (w : World) (w0 : (Lit.int .i64 m).wf = true) (w1 : (Lit.int .i64 n).wf = true) :
    Calls Try.prog 3 #[.int .i64 m, .int .i64 n] w fun e w' => e = .returned (.bool true) ∧ Below w.heap.size w w' := by
  obtain ⟨a1, a2⟩ := bounds_i64 w0
  obtain ⟨b1, b2⟩ := bounds_i64 w1
  have a1' : -9223372036854775808 ≤ m := by omega
  have a2' : m ≤ 9223372036854775807 := by omega
  have b1' : -9223372036854775808 ≤ n := by omega
  have b2' : n ≤ 9223372036854775807 := by omega
  have CC := Lib.hid (fun W => ccount19_any (w := W) a1' a2' b1' b2')
  have RC := Lib.hid (fun W => rcount19_any (w := W) a1' a2' b1' b2')
  have CR := Lib.hid (fun W => croom19_any (w := W) a1' a2')
  have RR := Lib.hid (fun W => rroom19_any (w := W) a1' a2')
  obtain ⟨C, hC⟩ : ∃ C, Sp.count m n = C := ⟨_, rfl⟩
  obtain ⟨r, hr⟩ : ∃ r, Sp.room m = r := ⟨_, rfl⟩
  rw [hC] at CC RC
  rw [hr] at CR RR
  obtain ⟨k, x⟩ := C
  simp only at CC RC
  have e1 : ((k : Int) == (k : Int)) = true := by simp
  have e2 : ((x : Int) == (x : Int)) = true := by simp
  have e3 : ((r : Int) == (r : Int)) = true := by simp
  clear hC hr w0 w1 a1 a2 b1 b2
  go_enter Try.func3, Try.ntmps3
  go_wp2_with fail
  refine (CC.out _).mono ?_
  rintro e w1 ⟨rfl, hb⟩
  have H1 := Lib.hid hb
  clear hb
  go_wp2_with fail
  refine (RC.out _).mono ?_
  rintro e w2 ⟨rfl, rfl⟩
  go_wp2_with fail
  refine (CR.out _).mono ?_
  rintro e w3 ⟨rfl, hb⟩
  have H3 := Lib.hid (H1.out.trans (hb.mono H1.out.size))
  clear hb
  go_wp2_with fail
  refine (RR.out _).mono ?_
  rintro e w4 ⟨rfl, rfl⟩
  go_wp2_with fail
  refine (awake19 _).mono ?_
  rintro e w5 ⟨rfl, hb⟩
  have H5 := Lib.hid (H3.out.trans (hb.mono H3.out.size))
  clear hb
  go_wp2_with fail
  go_ret
  exact ⟨rfl, H5.out⟩
end Go.Proofs.Ytgfjniogflmlmaa
