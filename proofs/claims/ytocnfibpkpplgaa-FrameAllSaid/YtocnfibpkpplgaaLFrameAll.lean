/- The walk of the law FrameAll. -/
import Derived.Test.YtocnfibpkpplgaaAwake15
import Derived.Test.YtocnfibpkpplgaaLFramePuts
import Derived.Test.YtocnfibpkpplgaaLFrameReads
namespace Go.Proofs.Ytocnfibpkpplgaa
open Go.RowKit
set_option linter.unusedVariables false
set_option maxRecDepth 100000
set_option linter.unusedSimpArgs false

namespace Fr
/-- the longest body's length -/
def mx : List (List Nat) → Nat
  | [] => 0
  | l :: ls => max l.length (mx ls)
theorem mx_snoc : ∀ (ls : List (List Nat)) (b : List Nat), mx (ls ++ [b]) = max (mx ls) b.length
  | [], b => by simp [mx]
  | l :: ls, b => by rw [List.cons_append, mx, mx_snoc ls b, mx]; omega
theorem mx_le : ∀ (ls : List (List Nat)), ∀ b ∈ ls, b.length ≤ mx ls
  | [], b, h => by cases h
  | l :: ls, b, h => by
    rw [mx]
    rcases List.mem_cons.1 h with rfl | h
    · omega
    · have := mx_le ls b h; omega
theorem mx_few : ∀ (ls : List (List Nat)) (m : Nat), (∀ b ∈ ls, b.length ≤ m) → mx ls ≤ m
  | [], m, _ => Nat.zero_le _
  | l :: ls, m, h => by
    rw [mx]
    have h1 := h l List.mem_cons_self
    have h2 := mx_few ls m (fun b hb => h b (List.mem_cons_of_mem _ hb))
    omega
theorem flat_byte : ∀ (ls : List (List Nat)), (∀ l ∈ ls, l.length < 18446744073709551616) → (∀ l ∈ ls, ∀ x ∈ l, x < 256) → ∀ x ∈ flat ls, x < 256
  | [], _, _, x, hx => by cases hx
  | l :: ls, h1, h, x, hx => by
    rw [flat_cons] at hx
    rcases List.mem_append.1 hx with hx | hx
    · exact put_byte (h l List.mem_cons_self) (h1 l List.mem_cons_self) x hx
    · exact flat_byte ls (fun l hl => h1 l (List.mem_cons_of_mem _ hl)) (fun l hl => h l (List.mem_cons_of_mem _ hl)) x hx
end Fr
/-- what the law's loop has done when j bodies are put -/
structure Flats (base : Nat) (ls : List (List Nat)) (w : World) (j : Nat) (v : Value) (wr : World) : Prop where
  own : wr.ownsRow base 5 1 v (Fr.flat (ls.take j)).length (ints .u8 (Fr.flat (ls.take j)))
  below : Below base w wr
  size : base ≤ wr.heap.size
  few : ∀ l ∈ ls.take j, l.length ≤ 300
  short : (Fr.flat (ls.take j)).length ≤ 310 * j
theorem Flats.start (ls : List (List Nat)) (w : World) : Flats w.heap.size ls w 0 (.slice none 0 0) w := ⟨World.ownsRow_nil w _ 5 1, Below.refl _ _, Nat.le_refl _, fun l hl => by simp at hl, by simp [Fr.flat]⟩
theorem Flats.next {base : Nat} {ls : List (List Nat)} {w wr w1 : World} {j : Nat} {v v' : Value} (h : Flats base ls w j v wr) (hj : j < ls.length) (hf : ls[j].length ≤ 300)
    (ho : w1.ownsRow base 5 1 v' (Fr.flat (ls.take j) ++ Fr.put ls[j]).length (ints .u8 (Fr.flat (ls.take j) ++ Fr.put ls[j]))) (hb : Below base wr w1) : Flats base ls w (j + 1) v' w1 := by
  have e : ls.take (j + 1) = ls.take j ++ [ls[j]] := List.take_succ_eq_append_getElem hj
  have ef : Fr.flat (ls.take (j + 1)) = Fr.flat (ls.take j) ++ Fr.put ls[j] := by rw [e, Fr.flat_snoc]
  refine ⟨by rw [ef]; exact ho, h.below.trans hb, Nat.le_trans h.size hb.size, ?_, ?_⟩
  · rw [e]
    intro l hl
    rcases List.mem_append.1 hl with hl | hl
    · exact h.few l hl
    · obtain rfl : l = ls[j] := by simpa using hl
      exact hf
  · rw [ef, List.length_append]
    have := Fr.put_le ls[j]
    have := h.short
    omega
set_option maxHeartbeats 4000000 in
theorem frameAll_walk (v : Value) (ls : List (List Nat)) (cut : Int) (w : World) (H : Bl w w.heap.size v ls ∧ ∀ l ∈ ls, ∀ x ∈ l, x < 256) (wc : (Lit.int .i64 cut).wf = true) :
    Calls Try.prog 5 #[v, .int .i64 cut] w fun e w' => e = .returned (.bool true) ∧ Below w.heap.size w w' := by
  obtain ⟨H, hby⟩ := H
  obtain ⟨cut0, cut1⟩ := bounds_i64 wc
  obtain ⟨A, c, rfl, hlc, hcm, hnull⟩ := H.shape
  unfold maxLen at hcm
  clear wc
  obtain ⟨n, hn⟩ : ∃ n, Hid (ls.length = n) := ⟨_, Lib.hid rfl⟩
  have HH := Lib.hid H
  rw [hn.out] at HH hlc ⊢
  clear H
  by_cases h30 : 30 < n
  · clear hnull hby
    go_enter Try.func5, Try.ntmps5
    go_wp2_with fail
    refine (awake15 _).mono ?_
    rintro e w1 ⟨rfl, hb⟩
    have HB := Lib.hid hb
    clear hb
    go_wp2_with fail
    go_ret
    exact ⟨rfl, HB.out⟩
  · have KA := Lib.hid (fun i (h : i < ls.length) => HH.out.fix h)
    have HBy := Lib.hid hby
    have HS := Lib.hid (Flats.start ls w)
    obtain ⟨base, hbase⟩ : ∃ base, Hid (w.heap.size = base) := ⟨_, Lib.hid rfl⟩
    rw [hbase.out] at HS KA HH ⊢
    clear hby hnull
    go_enter Try.func5, Try.ntmps5
    go_wp2_with fail
    go_loopw [5, 6, 7] (fun v m i wr => ∃ j q : Nat, i = .int .i64 j ∧ j ≤ n ∧ m = .int .i64 (q : Int) ∧ q ≤ 300 ∧ Hid (Fr.mx (ls.take j) = q) ∧ Hid (Flats base ls w j v wr)) (fun _ _ i _ => n - (intOf i).toNat)
    case atStart => exact ⟨0, 0, rfl, by omega, rfl, by omega, Lib.hid rfl, HS⟩
    case round =>
      obtain ⟨j, q, rfl, hj, rfl, hq, HM, HP⟩ := hrel
      obtain ⟨X, hX⟩ : ∃ X, Hid (Fr.flat (ls.take j) = X) := ⟨_, Lib.hid rfl⟩
      have ho := HP.out.own
      rw [hX.out] at ho
      obtain ⟨Av, cv, rfl⟩ := own_shape ho
      have HO := Lib.hid ho
      have hshort := HP.out.short
      rw [hX.out] at hshort
      clear ho
      have hbz := HP.out.size
      by_cases hlt : j < n
      · have h1 : j < ls.length := by rw [hn.out]; exact hlt
        obtain ⟨b1, o1, Au, cu, rfl, hbb, F1⟩ := KA.out j h1
        have HF1 := Lib.hid (fun W (h : Below base w W) => F1 W h)
        have HMx : Hid (Fr.mx (ls.take (j + 1)) = max q ls[j].length) := Lib.hid (by rw [List.take_succ_eq_append_getElem h1, Fr.mx_snoc, HM.out])
        have HNx := Lib.hid (fun (hf : ls[j].length ≤ 300) (v' : Value) (w1 : World) ho hb => HP.out.next (v' := v') (w1 := w1) h1 hf ho hb)
        obtain ⟨x, hx⟩ : ∃ x, Hid (ls[j] = x) := ⟨_, Lib.hid rfl⟩
        rw [hx.out] at HF1 HMx HNx
        rw [hX.out] at HNx
        have k1 := (HF1.out wr HP.out.below).1
        have hj0 : (0 : Int) ≤ (j : Int) := by omega
        have hj1 : (j : Int) < (n : Int) := by omega
        clear F1
        by_cases hlong : 300 < x.length
        · go_wp2_with fail
          refine (awake15 _).mono ?_
          rintro e w1 ⟨rfl, hb⟩
          have HB := Lib.hid (HP.out.below.trans (hb.mono HP.out.size))
          clear hb
          go_wp2_with fail
          go_ret
          exact ⟨rfl, HB.out⟩
        · have CP := Lib.hid (cput15_any base (.slice Av X.length cv) X HO.out hbz (by omega) (HF1.out wr HP.out.below).2 (Nat.le_refl _) (by omega))
          obtain ⟨q2, hq2, hqm⟩ : ∃ q2, Hid (max q x.length = q2) ∧ q2 ≤ 300 := ⟨_, Lib.hid rfl, by omega⟩
          rw [hq2.out] at HMx
          obtain ⟨Z, hZ⟩ : ∃ Z, Hid (X ++ Fr.put x = Z) := ⟨_, Lib.hid rfl⟩
          rw [hZ.out] at CP HNx
          by_cases hqx : q < x.length
          · have e2 : Hid (q2 = x.length) := Lib.hid (by rw [← hq2.out]; omega)
            go_wp2_with fail
            refine (CP.out).mono ?_
            rintro e w1 ⟨v1, rfl, ho1, hb1⟩
            have HNN := Lib.hid (HNx.out (by omega) v1 w1 ho1 hb1)
            obtain ⟨A1, c1', rfl⟩ := own_shape ho1
            clear ho1 hb1
            go_wp2_with fail
            go_roundw
            case rel => exact ⟨j + 1, q2, by go_num, by omega, by rw [e2.out], hqm, HMx, HNN⟩
            case measure => simp [intOf]; omega
          · have e2 : Hid (q2 = q) := Lib.hid (by rw [← hq2.out]; omega)
            go_wp2_with fail
            refine (CP.out).mono ?_
            rintro e w1 ⟨v1, rfl, ho1, hb1⟩
            have HNN := Lib.hid (HNx.out (by omega) v1 w1 ho1 hb1)
            obtain ⟨A1, c1', rfl⟩ := own_shape ho1
            clear ho1 hb1
            go_wp2_with fail
            go_roundw
            case rel => exact ⟨j + 1, q2, by go_num, by omega, by rw [e2.out], hqm, HMx, HNN⟩
            case measure => simp [intOf]; omega
      · have e0 : ls.take j = ls := List.take_of_length_le (by rw [hn.out]; omega)
        have hfew := HP.out.few
        rw [e0] at hfew
        have hXf : Fr.flat ls = X := by rw [← hX.out, e0]
        have hMq : Fr.mx ls = q := by rw [← HM.out, e0]
        have hok : Fr.Okl (q : Int) ls := fun b hb => ⟨by have := Fr.mx_le ls b hb; omega, by have := hfew b hb; omega⟩
        have hXb : ∀ x ∈ X, x < 256 := by rw [← hXf]; exact Fr.flat_byte ls (fun l hl => by have := hfew l hl; omega) HBy.out
        have hXn : X.length ≤ 9300 := by omega
        have HA : Hid (Fr.all X.length X q 0 [] = (ls, X.length, 0)) := Lib.hid (by
          have := Fr.all_flat (q : Int) ls X.length 0 [] hok (by rw [hXf]; exact Nat.le_refl _)
          rw [hXf, List.nil_append, Nat.zero_add] at this
          exact this)
        have HC := Lib.hid (fun k (hk : k ≤ X.length) => Fr.all_cut (q : Int) ls k 0 [] k hok (by rw [hXf]; exact hk) (Nat.le_refl _))
        rw [hXf] at HC
        have HPX := Lib.hid (own_piece HO.out)
        obtain ⟨_, _, eA, hsA, hnA, hleA, hmA⟩ := HPX.out
        injection eA with eA1 _ eA2
        subst eA1 eA2
        have HSee := Lib.hid hsA
        have HNl := Lib.hid hnA
        unfold maxLen at hmA
        have HXb := Lib.hid hXb
        have C5 := Lib.hid (call15_any HPX.out (Nat.le_refl _) hXb (by omega) (q : Int) (by omega) (by omega))
        rw [HA.out] at C5
        have CK := Lib.hid (fun W (hW : Below wr.heap.size wr W) (k : Nat) (hk : k ≤ X.length) => call15_any (w := W) (B := wr.heap.size) (v := .slice Av k cv) (l := X.take k) ⟨Av, cv, by rw [List.length_take, Nat.min_eq_left hk], (HSee.out.below hW).take k, HNl.out, by rw [List.length_take]; omega, by unfold maxLen; omega⟩ hW.size (fun x hx => HXb.out x (List.mem_of_mem_take hx)) (by rw [List.length_take]; omega) (q : Int) (by omega) (by omega))
        have HW := Lib.hid HP.out.below
        obtain ⟨nx, hnx⟩ : ∃ nx, Hid (X.length = nx) := ⟨_, Lib.hid rfl⟩
        rw [hnx.out] at hXn hleA C5 CK HC
        clear e0 hfew hXf hMq hok hXb hsA hnA hshort HA
        go_wp2_with fail
        rw [hnx.out]
        refine (C5.out).mono ?_
        rintro e w5 ⟨u5, rfl, hbo, hb5⟩
        have HB5 := Lib.hid hb5
        have O5 := Lib.hid (fun W (h : Below w5.heap.size w5 W) => hbo.bl.kept h)
        obtain ⟨A5, c5, e5, _⟩ := hbo.bl.shape
        rw [hn.out] at e5
        subst e5
        clear hbo hb5
        have HW5 := Lib.hid (HW.out.trans (HB5.out.mono hbz))
        have hbz5 := HW5.out.size
        have hwz : base ≤ w5.heap.size := by have := hbase.out; have := HB5.out.size; omega
        have SM := Lib.hid (rsame15_any (O5.out w5 (Below.refl _ _)) (HH.out.below HW5.out) (Nat.le_refl _) hwz HBy.out HBy.out)
        rw [show (decide (ls = ls)) = true from by simp] at SM
        have hself : (!decide ((nx : Int) = (nx : Int))) = false := by simp
        go_wp2_with fail
        refine (SM.out).mono ?_
        rintro e w6 ⟨rfl, hb6⟩
        have HB6 := Lib.hid (HB5.out.trans (hb6.mono HB5.out.size))
        have HW6 := Lib.hid (HW.out.trans (HB6.out.mono hbz))
        clear hb6
        by_cases hcut : cut < 0
        · go_wp2_with fail
          refine (awake15 _).mono ?_
          rintro e w7 ⟨rfl, hb7⟩
          have HB7 := Lib.hid (HW6.out.trans (hb7.mono (by have := hbase.out; have := HW6.out.size; omega)))
          clear hb7
          go_wp2_with fail
          go_ret
          exact ⟨rfl, HB7.out⟩
        obtain ⟨k, rfl⟩ : ∃ k : Nat, cut = (k : Int) := ⟨cut.toNat, by omega⟩
        by_cases hbig : nx < k
        · go_wp2_with fail
          refine (awake15 _).mono ?_
          rintro e w7 ⟨rfl, hb7⟩
          have HB7 := Lib.hid (HW6.out.trans (hb7.mono (by have := hbase.out; have := HW6.out.size; omega)))
          clear hb7
          go_wp2_with fail
          go_ret
          exact ⟨rfl, HB7.out⟩
        have hkx : k ≤ nx := by omega
        obtain ⟨m, p, hm, hp, hall⟩ := HC.out k hkx
        have C7 := Lib.hid (CK.out w6 HB6.out k hkx)
        rw [show (X.take k).length = k from by rw [List.length_take, hnx.out]; omega, hall] at C7
        rw [List.nil_append, Nat.zero_add] at C7
        rw [hn.out] at hm
        have hml : (ls.take m).length = m := by rw [List.length_take, hn.out]; omega
        have HML := Lib.hid hml
        have hlen : Hid (∀ l ∈ ls.take m, ∀ x ∈ l, x < 256) := Lib.hid (fun l hl => HBy.out l (List.mem_of_mem_take hl))
        have HT := Lib.hid (fun W (hW : Below base w W) => (HH.out.below hW).take m (by rw [hn.out]; exact hm))
        obtain ⟨T, hT⟩ : ∃ T, Hid (ls.take m = T) := ⟨_, Lib.hid rfl⟩
        rw [hT.out] at C7 hlen HT HML
        clear hall hml
        obtain ⟨y, hy⟩ : ∃ y : Nat, Hid ((if p = k then 0 else 2) = y) := ⟨_, Lib.hid rfl⟩
        rw [hy.out] at C7
        have hyd : (y = 0 ∧ p = k) ∨ (y = 2 ∧ ¬ p = k) := by
          rw [← hy.out]
          by_cases h : p = k
          · rw [if_pos h]; exact .inl ⟨rfl, h⟩
          · rw [if_neg h]; exact .inr ⟨rfl, h⟩
        have HYD := Lib.hid hyd
        clear hyd
        go_wp2_with fail
        refine (C7.out).mono ?_
        rintro e w7 ⟨u7, rfl, hbo, hb7⟩
        have HB7 := Lib.hid (HB6.out.trans (hb7.mono HB6.out.size))
        have HW7 := Lib.hid (HW.out.trans (HB7.out.mono hbz))
        have O7 := Lib.hid hbo.bl
        obtain ⟨A7, c7, e7, _⟩ := hbo.bl.shape
        rw [HML.out] at e7
        subst e7
        clear hbo hb7
        have hwz7 : base ≤ w7.heap.size := by have := hbase.out; have := HW7.out.size; omega
        have SM7 := Lib.hid (rsame15_any O7.out (HT.out w7 HW7.out) (Nat.le_refl _) hwz7 hlen.out hlen.out)
        rw [show (decide (T = T)) = true from by simp] at SM7
        go_wp2_with fail
        refine (SM7.out).mono ?_
        rintro e w8 ⟨rfl, hb8⟩
        have HW8 := Lib.hid (HW7.out.trans (hb8.mono hwz7))
        clear hb8
        rcases HYD.out with ⟨rfl, rfl⟩ | ⟨rfl, hne⟩
        · go_wp2_with fail
          refine (awake15 _).mono ?_
          rintro e w9 ⟨rfl, hb9⟩
          have HW9 := Lib.hid (HW8.out.trans (hb9.mono (by have := hbase.out; have := HW8.out.size; omega)))
          clear hb9
          go_wp2_with fail
          go_ret
          exact ⟨rfl, HW9.out⟩
        · have hne1 : ((p : Int) == (k : Int)) = false := by simp; omega
          go_wp2_with fail
          refine (awake15 _).mono ?_
          rintro e w9 ⟨rfl, hb9⟩
          have HW9 := Lib.hid (HW8.out.trans (hb9.mono (by have := hbase.out; have := HW8.out.size; omega)))
          clear hb9
          go_wp2_with fail
          go_ret
          exact ⟨rfl, HW9.out⟩
end Go.Proofs.Ytocnfibpkpplgaa
