/- Contracts of the reference's find, number, word and digit of layer 12. -/
import Derived.Test.YtphanlkobkkgfaaBn3
import Derived.Test.YtphanlkobkkgfaaRef7
namespace Go.Proofs.Ytphanlkobkkgfaa
open Go.RowKit
set_option linter.unusedVariables false
set_option maxRecDepth 100000
set_option linter.unusedSimpArgs false
namespace Bn
/-- the first place of c from a place on; -1 -/
def spot (l : List Nat) (at_ c : Nat) : Int := if (l.drop at_).findIdx (fun x => decide (x = c)) < (l.drop at_).length then ((at_ + (l.drop at_).findIdx (fun x => decide (x = c)) : Nat) : Int) else -1
theorem spot_hit {l : List Nat} {a c i : Nat} (hi : i < l.length) (ha : a ≤ i) (h1 : l.getD i 0 = c) (h2 : ∀ j, a ≤ j → j < i → l.getD j 0 ≠ c) : spot l a c = i := by
  have hd : i - a < (l.drop a).length := by rw [List.length_drop]; omega
  have gd : ∀ j, a ≤ j → (hj : j < l.length) → (l.drop a)[j - a]'(by rw [List.length_drop]; omega) = l.getD j 0 := fun j h hj => by
    rw [List.getElem_drop]
    simp only [show a + (j - a) = j by omega]
    simp [List.getD, List.getElem?_eq_getElem hj]
  have hf : (l.drop a).findIdx (fun x => decide (x = c)) = i - a := by
    refine (List.findIdx_eq hd).2 ⟨by rw [gd i ha hi]; exact decide_eq_true h1, fun j hj => ?_⟩
    have := gd (j + a) (by omega) (by omega)
    simp only [show j + a - a = j by omega] at this
    rw [this]
    exact decide_eq_false (h2 _ (by omega) (by omega))
  unfold spot
  rw [hf, if_pos hd]
  congr 1
  omega
theorem spot_none {l : List Nat} {a c : Nat} (h : ∀ j, a ≤ j → j < l.length → l.getD j 0 ≠ c) : spot l a c = -1 := by
  have hf : (l.drop a).findIdx (fun x => decide (x = c)) = (l.drop a).length := by
    refine List.findIdx_eq_length.2 (fun x hx => ?_)
    obtain ⟨j, hj, rfl⟩ := List.mem_iff_getElem.1 hx
    rw [List.length_drop] at hj
    have := h (a + j) (by omega) (by omega)
    rw [List.getElem_drop]
    simp [List.getD, List.getElem?_eq_getElem (show a + j < l.length by omega)] at this
    exact decide_eq_false this
  unfold spot
  rw [hf, if_neg (by omega)]
/-- what number answers -/
def NumR (l : List Nat) (at_ : Nat) (R : Rs Int) (v : Value) : Prop :=
  (∃ e : Nat, R = .bad e ∧ v = .tuple #[.int .i64 0, .int .i64 0, .int .i64 (e : Int)]) ∨ (∃ (n : Int) (r : List Nat) (k : Nat), R = .ok n r ∧ v = .tuple #[.int .i64 n, .int .i64 (k : Int), .int .i64 0] ∧ l.drop k = r ∧ k ≤ l.length ∧ at_ < k ∧ Nm.In n)
def WordR (l : List Nat) (at_ : Nat) (R : Rs ByteArray) (v : Value) : Prop :=
  (∃ e : Nat, R = .bad e ∧ v = .tuple #[.string ⟨#[]⟩, .int .i64 0, .int .i64 (e : Int)]) ∨ (∃ (s : ByteArray) (r : List Nat) (k : Nat), R = .ok s r ∧ v = .tuple #[.string s, .int .i64 (k : Int), .int .i64 0] ∧ l.drop k = r ∧ k ≤ l.length ∧ at_ < k ∧ s.size ≤ 1048576)
theorem number_spot_none {l : List Nat} {a c : Nat} (h : spot l a c = -1) : number c (l.drop a) = .bad 2 := by
  unfold spot at h
  split at h
  · omega
  · rename_i h1
    unfold number
    rw [if_neg h1]
theorem number_spot {l : List Nat} {a c i : Nat} (h : spot l a c = (i : Int)) : a ≤ i ∧ i < l.length ∧ number c (l.drop a) = if (Nm.get ((l.drop a).take (i - a))).2 = 0 then .ok (Nm.get ((l.drop a).take (i - a))).1 (l.drop (i + 1)) else .bad 3 := by
  unfold spot at h
  split at h
  · rename_i h1
    rw [List.length_drop] at h1
    have hi : i = a + (l.drop a).findIdx (fun x => decide (x = c)) := by omega
    have hx : (l.drop a).findIdx (fun x => decide (x = c)) = i - a := by omega
    refine ⟨by omega, by omega, ?_⟩
    unfold number
    rw [hx, if_pos (by rw [List.length_drop]; omega), List.drop_drop, show a + (i - a + 1) = i + 1 by omega]
  · omega
end Bn

theorem rfind12_any {s : ByteArray} {l : List Nat} (T : Txt s l) (hl : l.length ≤ 1000000000) (a c : Nat) (hc : c < 256) (ha : a ≤ l.length) (w : World) :
    Calls Try.prog 53 #[.string s, .int .i64 (a : Int), .int .u8 (c : Int)] w fun e w' => e = .returned (.int .i64 (Bn.spot l a c)) ∧ w' = w := by
  have hsz := T.size
  have HAt := Lib.hid T.at_
  have HBy := Lib.hid T.byte
  have HH := Lib.hid (fun i hi ha h1 h2 => Bn.spot_hit (l := l) (a := a) (c := c) (i := i) hi ha h1 h2)
  have HN := Lib.hid (fun h => Bn.spot_none (l := l) (a := a) (c := c) h)
  obtain ⟨r, hr⟩ : ∃ r, Hid (Bn.spot l a c = r) := ⟨_, rfl⟩
  rw [hr.out] at HH HN ⊢
  obtain ⟨n, hn⟩ : ∃ n, Hid (l.length = n) := ⟨_, rfl⟩
  rw [hn.out] at hl ha hsz HH HN
  clear T
  go_enter Try.func53, Try.ntmps53
  go_wp2_with fail
  go_loop [7] (fun v => ∃ (j : Nat), a ≤ j ∧ j ≤ n ∧ v = .int .i64 j ∧ Hid (∀ i, a ≤ i → i < j → l.getD i 0 ≠ c)) (fun v => n - (intOf v).toNat)
  case atStart => exact ⟨a, by omega, by omega, rfl, Lib.hid (fun i h1 h2 => by omega)⟩
  case round =>
    obtain ⟨j, hj1, hj, rfl, HI⟩ := hrel
    by_cases hlt : j < n
    · obtain ⟨x, hx⟩ : ∃ x, Hid (l.getD j 0 = x) := ⟨_, rfl⟩
      have hat : ∀ (h : j < s.size), (s[j]'h).toNat = x := fun h => by rw [← hx.out]; exact HAt.out j h
      have hxb := getD_lt HBy.out j
      rw [hx.out] at hxb
      by_cases hxc : x = c
      · have HR := Lib.hid (HH.out j hlt hj1 (by rw [hx.out]; exact hxc) HI.out)
        subst hxc
        clear HI
        go_wp2_with fail
        go_ret
        exact ⟨ret_int (by rw [HR.out]), rfl⟩
      · have HS : Hid (∀ i, a ≤ i → i < j + 1 → l.getD i 0 ≠ c) := Lib.hid (fun i h1 h2 => by
          by_cases e : i = j
          · subst e; rw [hx.out]; exact hxc
          · exact HI.out i h1 (by omega))
        have q : ((x : Int) == (c : Int)) = false := by simp; omega
        clear HI
        go_wp2_with fail
        go_round
        case rel => exact ⟨j + 1, by omega, by omega, by go_num, HS⟩
        case measure => simp [intOf]; omega
    · have HR := Lib.hid (HN.out (fun i h1 h2 => HI.out i h1 (by omega)))
      go_wp2_with fail
      go_ret
      exact ⟨ret_int (by rw [HR.out]), rfl⟩

theorem rnumber12_any {s : ByteArray} {l : List Nat} (T : Txt s l) (hl : l.length ≤ 1000000000) (a c : Nat) (hc : c < 256) (ha : a ≤ l.length) (w : World) :
    Calls Try.prog 41 #[.string s, .int .i64 (a : Int), .int .u8 (c : Int)] w fun e w' => ∃ v, e = .returned v ∧ Bn.NumR l a (Bn.number c (l.drop a)) v ∧ Below w.heap.size w w' := by
  have hsz := T.size
  have C1 := Lib.hid (rfind12_any T hl a c hc ha w)
  by_cases hs0 : Bn.spot l a c = -1
  · rw [Bn.number_spot_none hs0]
    rw [hs0] at C1
    clear hs0
    go_enter Try.func41, Try.ntmps41
    go_wp2_with fail
    refine (C1.out).mono ?_
    rintro e w1 ⟨rfl, rfl⟩
    go_wp2_with fail
    go_ret3
    exact ⟨_, rfl, .inl ⟨2, rfl, rfl⟩, Below.refl _ _⟩
  obtain ⟨i, hi⟩ : ∃ i : Nat, Bn.spot l a c = (i : Int) := by
    unfold Bn.spot at hs0 ⊢
    split at hs0
    · rename_i h
      exact ⟨_, if_pos h⟩
    · exact absurd rfl hs0
  obtain ⟨h1, h2, h3⟩ := Bn.number_spot hi
  rw [h3]
  rw [hi] at C1
  have C2 := Lib.hid (nrget_any (T.cut a i) (by rw [List.length_take, List.length_drop]; omega) w)
  have HG := Lib.hid (Nm.get_cases ((l.drop a).take (i - a)))
  obtain ⟨g1, hg1⟩ : ∃ g, Hid ((Nm.get ((l.drop a).take (i - a))).1 = g) := ⟨_, rfl⟩
  obtain ⟨g2, hg2⟩ : ∃ g, Hid ((Nm.get ((l.drop a).take (i - a))).2 = g) := ⟨_, rfl⟩
  rw [hg1.out, hg2.out] at C2 HG ⊢
  have hlen := hl
  obtain ⟨n, hn⟩ : ∃ n, Hid (l.length = n) := ⟨_, rfl⟩
  rw [hn.out] at hsz h2 hlen
  have hin : Nm.In g1 := by
    rcases HG.out with ⟨_, h, _⟩ | ⟨_, h⟩ | ⟨_, h⟩
    · exact h
    · rw [h]; unfold Nm.In; omega
    · rw [h]; unfold Nm.In; omega
  have HIn := Lib.hid hin
  unfold Nm.In at hin
  obtain ⟨hin1, hin2⟩ := hin
  clear hs0 hi h3 T
  by_cases he : g2 = 0
  · subst he
    rw [if_pos rfl]
    have hdk : l.drop (i + 1) = l.drop (i + 1) := rfl
    clear HG
    go_enter Try.func41, Try.ntmps41
    go_wp2_with fail
    refine (C1.out).mono ?_
    rintro e w1 ⟨rfl, rfl⟩
    go_wp2_with fail
    refine (C2.out).mono ?_
    rintro e w2 ⟨rfl, hb2⟩
    have HB2 := Lib.hid hb2
    clear hb2
    go_wp2_with fail
    go_ret3
    exact ⟨_, rfl, .inr ⟨g1, _, i + 1, rfl, by go_num, rfl, by rw [hn.out]; omega, by omega, HIn.out⟩, HB2.out⟩
  · rw [if_neg he]
    have q1 : ((g2 : Int) != 0) = true := by simp; omega
    have q2 : ((g2 : Int) == 0) = false := by simp; omega
    have hg9 : g2 ≤ 9 := by
      rcases HG.out with ⟨h, _⟩ | ⟨h, _⟩ | ⟨h, _⟩ <;> omega
    clear HG
    go_enter Try.func41, Try.ntmps41
    go_wp2_with fail
    refine (C1.out).mono ?_
    rintro e w1 ⟨rfl, rfl⟩
    go_wp2_with fail
    refine (C2.out).mono ?_
    rintro e w2 ⟨rfl, hb2⟩
    have HB2 := Lib.hid hb2
    clear hb2
    go_wp2_with fail
    go_ret3
    exact ⟨_, rfl, .inl ⟨3, rfl, rfl⟩, HB2.out⟩

theorem rdigit12_any (c : Nat) (hc : c < 256) (w : World) : Calls Try.prog 39 #[.int .u8 (c : Int)] w fun e w' => e = .returned (.bool (Bn.digit c)) ∧ w' = w := by
  have HD : Hid (Bn.digit c = (decide (47 < c) && decide (c < 58))) := Lib.hid rfl
  by_cases h1 : 47 < c
  · by_cases h2 : c < 58
    · go_enter Try.func39, Try.ntmps39
      go_wp2_with fail
      go_ret
      exact ⟨ret_bool (by rw [HD.out, decide_eq_true h1, decide_eq_true h2] <;> simp <;> omega), rfl⟩
    · go_enter Try.func39, Try.ntmps39
      go_wp2_with fail
      go_ret
      exact ⟨ret_bool (by rw [HD.out, decide_eq_true h1, decide_eq_false h2] <;> simp <;> omega), rfl⟩
  · go_enter Try.func39, Try.ntmps39
    go_wp2_with fail
    go_ret
    exact ⟨ret_bool (by rw [HD.out, decide_eq_false h1] <;> simp), rfl⟩
theorem Bn.drop_head {l : List Nat} {a : Nat} (ha : a < l.length) : l.drop a = l.getD a 0 :: l.drop (a + 1) := by
  rw [List.drop_eq_getElem_cons ha]
  simp [List.getD, List.getElem?_eq_getElem ha]
theorem Bn.number_pos {l r : List Nat} {a : Nat} {n : Int} (ha : a < l.length) (hd : Bn.digit (l.getD a 0) = true) (h : Bn.number 58 (l.drop a) = .ok n r) : 0 ≤ n := by
  obtain ⟨_, h2⟩ := Bn.number_sound h
  rcases Int.lt_or_le n 0 with hneg | hpos
  · rw [Bn.drop_head ha, Nm.put_neg hneg] at h2
    injection h2 with e _
    rw [e, Bn.digit_iff] at hd
    omega
  · exact hpos
theorem rword12_any {s : ByteArray} {l : List Nat} (T : Txt s l) (hl : l.length ≤ 1000000000) (a : Nat) (ha : a < l.length) (hd : Bn.digit (l.getD a 0) = true) (w : World) :
    Calls Try.prog 40 #[.string s, .int .i64 (a : Int)] w fun e w' => ∃ v, e = .returned v ∧ Bn.WordR l a (Bn.word (l.drop a)) v ∧ Below w.heap.size w w' := by
  have hsz := T.size
  have HT := Lib.hid T
  have C1 := Lib.hid (rnumber12_any T hl a 58 (by omega) (by omega) w)
  have HP := Lib.hid (fun (n : Int) r h => Bn.number_pos (n := n) (r := r) ha hd h)
  have HNB := Lib.hid (fun e h => Bn.number_bad (c := 58) (e := e) (l := l.drop a) h)
  obtain ⟨ln, hln⟩ : ∃ n, Hid (l.length = n) := ⟨_, rfl⟩
  rw [hln.out] at hsz hl ha
  obtain ⟨R, hR⟩ : ∃ R, Hid (Bn.number 58 (l.drop a) = R) := ⟨_, rfl⟩
  obtain ⟨Wd, hW⟩ : ∃ W, Hid (Bn.word (l.drop a) = W) := ⟨_, rfl⟩
  have F1 : Hid (∀ e, R = .bad e → Wd = .bad e) := Lib.hid (fun e h => by
    rw [← hW.out]; unfold Bn.word; rw [hR.out, h])
  have F2 : Hid (∀ n r, R = .ok n r → 1048576 < n → Wd = .bad 5) := Lib.hid (fun n r h h1 => by
    rw [← hW.out]; unfold Bn.word; rw [hR.out, h]; simp only []; rw [if_pos h1])
  have F3 : Hid (∀ n r, R = .ok n r → ¬ 1048576 < n → (r.length : Int) < n → Wd = .bad 2) := Lib.hid (fun n r h h1 h2 => by
    rw [← hW.out]; unfold Bn.word; rw [hR.out, h]; simp only []; rw [if_neg h1, if_pos h2])
  have F4 : Hid (∀ n r, R = .ok n r → ¬ 1048576 < n → ¬ (r.length : Int) < n → Wd = .ok (strOf (r.take n.toNat)) (r.drop n.toNat)) := Lib.hid (fun n r h h1 h2 => by
    rw [← hW.out]; unfold Bn.word; rw [hR.out, h]; simp only []; rw [if_neg h1, if_neg h2])
  rw [hW.out]
  rw [hR.out] at C1 HP HNB
  clear T hd
  go_enter Try.func40, Try.ntmps40
  go_wp2_with fail
  refine (C1.out).mono ?_
  rintro e w1 ⟨v, rfl, hv, hb1⟩
  have HB1 := Lib.hid hb1
  clear hb1
  rcases hv with ⟨e, rfl, rfl⟩ | ⟨n, r, k, rfl, rfl, hk1, hk2, hk3, hin⟩
  · have he := HNB.out e rfl
    have q1 : ((e : Int) != 0) = true := by simp; omega
    have q2 : ((e : Int) == 0) = false := by simp; omega
    have he9 : e ≤ 3 := by omega
    clear he
    go_wp2_with fail
    go_ret3
    exact ⟨_, rfl, .inl ⟨e, F1.out _ rfl, rfl⟩, HB1.out⟩
  · have hn0 := HP.out n r rfl
    obtain ⟨m, rfl⟩ : ∃ m : Nat, n = (m : Int) := ⟨n.toNat, by omega⟩
    rw [hln.out] at hk2
    have hrl : r.length = ln - k := by rw [← hk1, List.length_drop, hln.out]
    have HK1 := Lib.hid hk1
    unfold Nm.In at hin
    have hm63 := hin.2
    clear hk1 hin hn0
    by_cases h1 : 1048576 < m
    · go_wp2_with fail
      go_ret3
      exact ⟨_, rfl, .inl ⟨5, F2.out _ _ rfl (by omega), rfl⟩, HB1.out⟩
    · have G0 : Hid (r.length = ln - k) := Lib.hid hrl
      have hsub : IntKind.i64.wrap ((ln : Int) - (k : Int)) = ((ln - k : Nat) : Int) := by rw [IntKind.wrap_i64]; omega
      by_cases h2 : ln - k < m
      · have h2' : (ln : Int) - (k : Int) < (m : Int) := by omega
        clear hrl
        go_wp2_with fail
        go_ret3
        exact ⟨_, rfl, .inl ⟨2, F3.out _ _ rfl (by omega) (by rw [G0.out]; omega), rfl⟩, HB1.out⟩
      · have h2' : ¬ ((ln : Int) - (k : Int) < (m : Int)) := by omega
        obtain ⟨km, hkm⟩ : ∃ x, Hid (k + m = x) := ⟨_, rfl⟩
        have hcut := (HT.out.cut k km).str
        rw [← hkm.out, show k + m - k = m by omega, HK1.out, hkm.out] at hcut
        have HCut := Lib.hid hcut
        have hw1 : IntKind.i64.wrap ((k : Int) + (m : Int)) = (km : Int) := by rw [← hkm.out, IntKind.wrap_i64]; omega
        have hkm2 : km ≤ ln := by rw [← hkm.out]; omega
        have hkm3 : k ≤ km := by rw [← hkm.out]; omega
        clear hrl hcut
        go_wp2_with fail
        go_ret3
        exact ⟨_, rfl, .inr ⟨_, _, km, F4.out _ _ rfl (by omega) (by rw [G0.out]; omega), by rw [Int.toNat_natCast, ← HCut.out]; first | rfl | (go_num) | skip, by rw [← HK1.out, List.drop_drop, ← hkm.out]; congr 1 <;> omega, by rw [hln.out]; omega, by omega, by rw [strOf_size, List.length_take]; omega⟩, HB1.out⟩
end Go.Proofs.Ytphanlkobkkgfaa
