/- Contracts of the program's putInt and putText of layer 12. -/
import Derived.Test.YtphanlkobkkgfaaKp12
import Derived.Test.YtphanlkobkkgfaaBsz
import Derived.Test.YtphanlkobkkgfaaNum
import Derived.Deep.CutRange
namespace Go.Proofs.Ytphanlkobkkgfaa
open Go.RowKit
set_option linter.unusedVariables false
set_option maxRecDepth 100000
set_option linter.unusedSimpArgs false

theorem Bn.put_byte (n : Int) : ∀ x ∈ Nm.put n, x < 256 := fun x hx => by have := Bn.put_char n x hx; omega
theorem putint12_any (base : Nat) (v : Value) (xs : List Nat) (n : Int) (w : World) (hin : Nm.In n) (ho : w.ownsRow base 5 1 v xs.length (ints .u8 xs)) (hb : base ≤ w.heap.size) (hx : xs.length ≤ 100000000000) :
    Calls Try.prog 24 #[v, .int .i64 n] w (MadeK base (xs ++ 105 :: (Nm.put n ++ [101])) v w) := by
  unfold Nm.In at hin
  have C := Lib.hid (fun W => nput_any n hin.1 hin.2 W)
  have hl := Nm.put_length hin.1 hin.2
  have HT : Hid (Txt (strOf (Nm.put n)) (Nm.put n)) := Lib.hid (Txt.of (Bn.put_byte n))
  obtain ⟨P, hP⟩ : ∃ P, Hid (Nm.put n = P) := ⟨_, rfl⟩
  rw [hP.out] at C HT hl ⊢
  obtain ⟨sP, hsP⟩ : ∃ s, Hid (strOf P = s) := ⟨_, rfl⟩
  rw [hsP.out] at C HT
  obtain ⟨m, hm⟩ : ∃ m, Hid (P.length = m) := ⟨_, rfl⟩
  rw [hm.out] at hl
  obtain ⟨q, hq⟩ : ∃ q, Hid (xs.length = q) := ⟨_, rfl⟩
  rw [hq.out] at ho hx
  have Ho := Lib.hid ho
  clear hin ho
  go_enter Try.func24, Try.ntmps24
  go_wp2_with (at_builtin; refine wpList_append1k byteT _ _ rfl rfl base v q (ints .u8 xs) rfl rfl rfl Ho.out (by omega) hb ?_; intro v1 w1 ho1 hk1)
  have Ho1 := Lib.hid ho1
  have Hk1 := Lib.hid hk1
  have hb1 := Nat.le_trans hb hk1.size
  clear ho1 hk1
  refine (C.out _).mono ?_
  rintro e w2 ⟨rfl, hb2⟩
  have Ho2 := Lib.hid (own_below Ho1.out hb2)
  have Hk2 := Lib.hid (Hk1.out.behind hb2)
  have hb2' := Nat.le_trans hb1 hb2.size
  clear hb2
  go_upto_region 2 with (at_builtin; refine wpList_append_strk _ _ rfl rfl base v1 (q + 1) _ rfl Ho2.out HT.out rfl m hm.out (by omega) hb2' ?_; intro v3 w3 ho3 hk3)
  have Ho3 := Lib.hid ho3
  have Hk3 := Lib.hid (Hk2.out.trans hk3)
  have hb3' := Nat.le_trans hb2' hk3.size
  clear ho3 hk3
  go_wp2_with (at_builtin; refine wpList_append1k byteT _ _ rfl rfl base v3 (q + 1 + m) _ rfl rfl rfl Ho3.out (by omega) hb3' ?_; intro v4 w4 ho4 hk4)
  have Ho4 := Lib.hid ho4
  have Hk4 := Lib.hid (Hk3.out.trans hk4)
  clear ho4 hk4
  go_ret
  refine ⟨_, rfl, ?_, Hk4.out⟩
  have h := Ho4.out
  have e1 : (xs ++ 105 :: (P ++ [101])).length = q + 1 + m + 1 := by simp [hq.out, hm.out]; omega
  have e2 : ints .u8 (xs ++ 105 :: (P ++ [101])) = ints .u8 xs ++ [.int .u8 105] ++ ints .u8 P ++ [.int .u8 101] := by simp [ints]
  rw [e1, e2]
  exact h
theorem puttext12_any (base : Nat) (v : Value) (xs : List Nat) (s : ByteArray) (w : World) (hs : s.size ≤ 10000000000) (ho : w.ownsRow base 5 1 v xs.length (ints .u8 xs)) (hb : base ≤ w.heap.size) (hx : xs.length ≤ 100000000000) :
    Calls Try.prog 25 #[v, .string s] w (MadeK base (xs ++ Bn.text s) v w) := by
  have C := Lib.hid (fun W => nput_any (s.size : Int) (by omega) (by omega) W)
  have hl := Nm.put_length (n := (s.size : Int)) (by omega) (by omega)
  have HT : Hid (Txt (strOf (Nm.put (s.size : Int))) (Nm.put (s.size : Int))) := Lib.hid (Txt.of (Bn.put_byte _))
  have HS := Lib.hid (Txt.nums s)
  have hns := Bn.nums_len s
  have Htx : Hid (Bn.text s = Nm.put (s.size : Int) ++ 58 :: nums s) := Lib.hid rfl
  rw [Htx.out]
  obtain ⟨P, hP⟩ : ∃ P, Hid (Nm.put (s.size : Int) = P) := ⟨_, rfl⟩
  rw [hP.out] at C HT hl ⊢
  obtain ⟨sP, hsP⟩ : ∃ s, Hid (strOf P = s) := ⟨_, rfl⟩
  rw [hsP.out] at C HT
  obtain ⟨m, hm⟩ : ∃ m, Hid (P.length = m) := ⟨_, rfl⟩
  rw [hm.out] at hl
  obtain ⟨q, hq⟩ : ∃ q, Hid (xs.length = q) := ⟨_, rfl⟩
  rw [hq.out] at ho hx
  obtain ⟨sl, hsl⟩ : ∃ l, Hid (nums s = l) := ⟨_, rfl⟩
  rw [hsl.out] at HS hns ⊢
  have Hns := Lib.hid hns
  have Ho := Lib.hid ho
  clear ho hns
  obtain ⟨z, hz⟩ : ∃ z, s.size = z := ⟨_, rfl⟩
  rw [hz] at C hs Hns
  go_enter Try.func25, Try.ntmps25
  go_wp2_with fail
  refine (C.out _).mono ?_
  rintro e w2 ⟨rfl, hb2⟩
  have Ho2 := Lib.hid (own_below Ho.out hb2)
  have Hk2 := Lib.hid (Kept.of_below hb2 v)
  have hb2' := Nat.le_trans hb hb2.size
  clear hb2
  go_upto_region 2 with (at_builtin; first | (refine wpList_append_strk _ _ rfl rfl base v q _ rfl Ho2.out HT.out rfl m hm.out (by omega) hb2' ?_; intro v3 w3 ho3 hk3; have hb3' := Nat.le_trans hb2' hk3.size) | (refine wpList_append1k byteT _ _ rfl rfl base v3 (q + m) _ rfl rfl rfl ho3 (by omega) hb3' ?_; intro v4 w4 ho4 hk4))
  have Ho4 := Lib.hid ho4
  have Hk4 := Lib.hid ((Hk2.out.trans hk3).trans hk4)
  have hb4' := Nat.le_trans hb3' hk4.size
  clear ho4 hk4 ho3 hk3
  go_wp2_with (at_builtin; refine wpList_append_strk _ _ rfl rfl base v4 (q + m + 1) _ rfl Ho4.out HS.out rfl z Hns.out (by omega) hb4' ?_; intro v5 w5 ho5 hk5)
  have Ho5 := Lib.hid ho5
  have Hk5 := Lib.hid (Hk4.out.trans hk5)
  clear ho5 hk5
  go_ret
  refine ⟨_, rfl, ?_, Hk5.out⟩
  have h := Ho5.out
  have e1 : (xs ++ (P ++ 58 :: sl)).length = q + m + 1 + z := by simp [hq.out, hm.out, Hns.out]; omega
  have e2 : ints .u8 (xs ++ (P ++ 58 :: sl)) = ints .u8 xs ++ ints .u8 P ++ [.int .u8 58] ++ ints .u8 sl := by simp [ints]
  rw [e1, e2]
  exact h
end Go.Proofs.Ytphanlkobkkgfaa
