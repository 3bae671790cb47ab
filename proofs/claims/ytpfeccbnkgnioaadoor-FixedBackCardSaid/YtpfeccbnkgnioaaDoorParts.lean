/- Contracts of the reference of layer 4: Width at a text, Parts, Valid, Clip. -/
import Derived.Test.YtpfeccbnkgnioaaDoorRef4
namespace Go.Proofs.YtpfeccbnkgnioaaDoor
open Go.RowKit
set_option linter.unusedVariables false

theorem width_any {s : ByteArray} {l : List Nat} (T : Txt s l) (i : Nat) (hi : i < l.length) (hl : l.length ≤ 1000000000000) (w : World) :
    Calls Tryd.prog 80 #[.string s, .int .i64 (i : Int)] w fun e w' => e = .returned (.int .i64 (Tm.wid (l.drop i) : Int)) ∧ w' = w := by
  have hb : ∀ x ∈ l.drop i, x < 256 := fun x hx => T.byte x (List.mem_of_mem_drop hx)
  have hd : ∀ k, (l.drop i).getD k 0 = l.getD (i + k) 0 := fun k => by simp [List.getD]
  have hs := T.size
  exact width_nums s i (l.drop i).length _ _ _ _ (by rw [hs, List.length_drop]; omega) (by rw [List.length_drop]; omega) (by rw [List.length_drop]; omega) (getD_lt hb 0) (getD_lt hb 1) (getD_lt hb 2) (getD_lt hb 3)
    (fun h => by rw [hd]; exact T.at_ _ h) (fun h => by rw [hd]; exact T.at_ _ h) (fun h => by rw [hd]; exact T.at_ _ h) (fun h => by rw [hd]; exact T.at_ _ h) w

/-- texts as cells -/
def strs (ps : List (List Nat)) : List Value := ps.map fun p => Value.string (strOf p)
theorem strs_append (a b : List (List Nat)) : strs (a ++ b) = strs a ++ strs b := by simp [strs]

/-- a cell of a row of the call's own -/
theorem own_cell {w : World} {base t n : Nat} {v : Value} {xs : List Value} (h : w.ownsRow base t 1 v n xs) {i : Nat} {u : Value} (hi : xs[i]? = some u) : ∃ g c, v = .slice (some ⟨g, 0, none⟩) n c ∧ n ≤ c ∧ c ≤ maxLen ∧ g < w.heap.size ∧ w.cell? ⟨g, i, none⟩ = some u := by
  have hl := h.1
  rcases h.2 with ⟨hv, h0⟩ | ⟨g, cap, cur, hv, hg, hh, h1, h2, r⟩
  · have : xs.length = 0 := by rw [hl, h0]
    rw [List.getElem?_eq_none (by omega)] at hi; cases hi
  · have hlt : g < w.heap.size := (Array.getElem?_eq_some_iff.1 hh).1
    subst hv
    refine ⟨g, cap, rfl, h1, h2, hlt, ?_⟩
    have := World.ownsRow.cells h (g := g) rfl i u hi
    rw [← this]
    congr 1
    unfold Addr.add
    split
    · simp_all
    · simp
theorem strs_get {ps : List (List Nat)} {i : Nat} (h : i < ps.length) : (strs ps)[i]? = some (.string (strOf ps[i])) := by
  simp [strs, List.getElem?_eq_getElem h]

/-- what the loop of Parts has done when it stands at byte j -/
structure Pts (l : List Nat) (w : World) (ps : List (List Nat)) (j : Nat) (v : Value) (wr : World) : Prop where
  own : wr.ownsRow w.heap.size 9 1 v ps.length (strs ps)
  below : Below w.heap.size w wr
  same : Tm.parts l = ps ++ Tm.parts (l.drop j)
  few : ps.length ≤ j
section
variable {l : List Nat} {w : World} {ps : List (List Nat)} {j : Nat} {v v' : Value} {wr w1 : World} {o : Obj}
theorem Pts.start (l : List Nat) (w : World) : Pts l w [] 0 (.slice none 0 0) w :=
  ⟨World.ownsRow_nil _ _ _ _, Below.refl _ _, by simp, by simp⟩
theorem Pts.next (h : Pts l w ps j v wr) (hj : j < l.length) {k : Nat} (hk : Tm.step (l.drop j) = k)
    (ho : w1.ownsRow w.heap.size 9 1 v' (ps.length + 1) (strs ps ++ [.string (strOf ((l.drop j).take k))])) (hg : (wr.alloc o).grownBy w1 v.ownBlock) : Pts l w (ps ++ [(l.drop j).take k]) (j + k) v' w1 := by
  obtain ⟨h1, h2, h3, h4⟩ := h
  have hs := Tm.step_pos (l.drop j)
  refine ⟨by rw [strs_append, List.length_append]; exact ho, ?_, ?_, by simp; omega⟩
  · exact (h2.alloc h2.size o).grown hg (by have := h2.size; simp; omega) (fun k hk => (h1.lt k hk).1)
  · rw [h3, Tm.parts_step (Tm.drop_ne hj), List.drop_drop, hk]; simp
theorem Pts.done (h : Pts l w ps j v wr) (hj : ¬ j < l.length) : ps = Tm.parts l := by
  rw [h.same, List.drop_eq_nil_of_le (by omega), Tm.parts_nil, List.append_nil]
end

set_option maxRecDepth 100000 in
set_option maxHeartbeats 800000 in
theorem parts_any {s : ByteArray} {l : List Nat} (T : Txt s l) (hl : l.length ≤ 10000000000) (w : World) :
    Calls Tryd.prog 73 #[.string s] w fun e w' => ∃ v, e = .returned v ∧ w'.ownsRow w.heap.size 9 1 v (Tm.parts l).length (strs (Tm.parts l)) ∧ Below w.heap.size w w' := by
  have hsz := T.size
  have HS := Lib.hid (Pts.start l w)
  go_enter Tryd.func73, Tryd.ntmps73
  go_wp2_with fail
  go_loopw [3, 4] (fun v i wr => ∃ (ps : List (List Nat)) (j : Nat), i = .int .i64 j ∧ j ≤ l.length ∧ Hid (Pts l w ps j v wr)) (fun _ i _ => l.length - (intOf i).toNat)
  case atStart => exact ⟨[], 0, rfl, by omega, HS⟩
  case round =>
    clear HS
    obtain ⟨ps, j, rfl, hj, HU⟩ := hrel
    by_cases hlt : j < l.length
    · have C := Lib.hid (width_any T j hlt (by omega) wr)
      have hs1 := Tm.step_pos (l.drop j)
      have hs2 := Tm.step_le (Tm.drop_ne hlt)
      rw [List.length_drop] at hs2
      have hst : Tm.step (l.drop j) = if Tm.wid (l.drop j) = 0 then 1 else Tm.wid (l.drop j) := rfl
      have hfew := HU.out.few
      have hz := HU.out.below.size
      have HX := Lib.hid (fun (v' : Value) (w1 : World) (o : Obj) => HU.out.next (v' := v') (w1 := w1) (o := o) hlt rfl)
      obtain ⟨k, Hk⟩ : ∃ k, Hid (Tm.step (l.drop j) = k) := ⟨_, rfl⟩
      rw [Hk.out] at hs1 hs2 hst HX
      have hcut : s.extract j (j + k) = strOf ((l.drop j).take k) := by rw [(T.cut j (j + k)).str, Nat.add_sub_cancel_left]
      have Hcut := Lib.hid hcut
      clear hcut
      by_cases hw : Tm.wid (l.drop j) = 0
      · rw [hw] at C
        rw [if_pos hw] at hst
        subst hst
        go_wp2_with fail
        refine C.out.mono ?_
        rintro e w1 ⟨rfl, rfl⟩
        go_wp2_with (at_builtin; refine wpList_append1 strT _ _ rfl rfl w.heap.size _ ps.length (strs ps) rfl rfl rfl HU.out.own (by omega) hz ?_; intro v' w1 ho1 hg1)
        rw [Hcut.out] at ho1
        go_roundw
        case rel => exact ⟨_, j + 1, by go_num, by omega, Lib.hid (HX.out v' w1 _ ho1 hg1)⟩
        case measure => simp [intOf]; omega
      · rw [if_neg hw] at hst
        rw [← hst] at C hw
        clear hst
        have hk0 : ¬ (k : Int) = 0 := by omega
        go_wp2_with fail
        refine C.out.mono ?_
        rintro e w1 ⟨rfl, rfl⟩
        go_wp2_with (at_builtin; refine wpList_append1 strT _ _ rfl rfl w.heap.size _ ps.length (strs ps) rfl rfl rfl HU.out.own (by omega) hz ?_; intro v' w1 ho1 hg1)
        rw [Hcut.out] at ho1
        go_roundw
        case rel => exact ⟨_, j + k, by go_num, by omega, Lib.hid (HX.out v' w1 _ ho1 hg1)⟩
        case measure => simp [intOf]; omega
    · have HX := Lib.hid (HU.out.done hlt)
      go_wp2_with fail
      go_ret
      refine ⟨_, rfl, ?_, HU.out.below⟩
      rw [← HX.out]
      exact HU.out.own

theorem own_cell' {w : World} {base t n c : Nat} {A : Option Addr} {xs : List Value} (h : w.ownsRow base t 1 (.slice A n c) n xs) {i : Nat} {u : Value} (hi : xs[i]? = some u) : ∃ g, A = some ⟨g, 0, none⟩ ∧ g < w.heap.size ∧ w.cell? ⟨g, i, none⟩ = some u := by
  obtain ⟨g, c', hv, _, _, h1, h2⟩ := own_cell h hi
  injection hv with hA _ _
  exact ⟨g, hA, h1, h2⟩
/-- the bytes of a part -/
theorem part_txt {l : List Nat} (hb : ∀ x ∈ l, x < 256) {p : List Nat} (hp : p ∈ Tm.parts l) : Txt (strOf p) p ∧ 0 < p.length ∧ p.length ≤ 4 := by
  obtain ⟨h1, h2, h3⟩ := Tm.parts_each l p hp
  refine ⟨Txt.of (fun x hx => hb x (h3 x hx)), List.length_pos_iff.2 h1, ?_⟩
  rw [h2]
  have := Tm.wid_le4 p
  unfold Tm.step; split <;> omega

set_option maxRecDepth 100000 in
set_option maxHeartbeats 800000 in
theorem validr_any {s : ByteArray} {l : List Nat} (T : Txt s l) (hl : l.length ≤ 10000000000) (w : World) :
    Calls Tryd.prog 72 #[.string s] w fun e w' => e = .returned (.bool (Tm.valid l)) ∧ Below w.heap.size w w' := by
  have hlen := Tm.parts_length_le l
  have C1 := Lib.hid (parts_any T hl w)
  have Hp := Lib.hid (fun p => part_txt (p := p) T.byte)
  obtain ⟨ps, Hps⟩ : ∃ ps, Hid (Tm.parts l = ps) := ⟨_, rfl⟩
  have Hval : Hid (Tm.valid l = ps.all fun p => decide (Tm.wid p ≠ 0)) := Lib.hid (by rw [← Hps.out]; rfl)
  rw [Hps.out] at C1 hlen Hp
  obtain ⟨n, Hn⟩ : ∃ n, Hid (ps.length = n) := ⟨_, rfl⟩
  rw [Hn.out] at C1 hlen
  clear T
  go_enter Tryd.func72, Tryd.ntmps72
  go_wp2_with fail
  refine C1.out.mono ?_
  rintro e w1 ⟨v, rfl, ho, hb⟩
  obtain ⟨A, c, rfl⟩ := own_shape ho
  have HO := Lib.hid ho
  have HB := Lib.hid hb
  clear ho hb C1
  go_wp2_with fail
  go_loopw [4] (fun vi wr => ∃ (i : Nat), vi = .int .i64 i ∧ i ≤ n ∧ wr = w1 ∧ Hid ((ps.take i).all (fun p => decide (Tm.wid p ≠ 0)) = true)) (fun vi _ => n - (intOf vi).toNat)
  case atStart => exact ⟨0, rfl, by omega, rfl, Lib.hid (by simp)⟩
  case round =>
    obtain ⟨i, rfl, hi, hwr, HI⟩ := hrel
    subst hwr
    by_cases hlt : i < n
    · have hip : i < ps.length := by rw [Hn.out]; exact hlt
      obtain ⟨g, rfl, hg, hc⟩ := own_cell' HO.out (strs_get hip)
      have hmem : ps[i] ∈ ps := List.getElem_mem hip
      have Htake : Hid (ps.take (i + 1) = ps.take i ++ [ps[i]]) := Lib.hid (List.take_succ_eq_append_getElem hip)
      generalize ps[i] = p at *
      obtain ⟨t1, t2, t3⟩ := Hp.out p hmem
      have C2 := Lib.hid (width_any t1 0 t2 (by omega) wr)
      rw [List.drop_zero] at C2
      clear t1
      by_cases hw : Tm.wid p = 0
      · rw [hw] at C2
        go_wp2_with fail
        refine C2.out.mono ?_
        rintro e w2 ⟨rfl, rfl⟩
        go_wp2_with fail
        go_ret
        refine ⟨ret_bool ?_, HB.out⟩
        rw [Hval.out]
        symm
        rw [List.all_eq_false]
        exact ⟨p, hmem, by simp [hw]⟩
      · have hw' : ¬ (Tm.wid p : Int) = 0 := by omega
        go_wp2_with fail
        refine C2.out.mono ?_
        rintro e w2 ⟨rfl, rfl⟩
        go_wp2_with fail
        go_roundw
        case rel => exact ⟨i + 1, by go_num, by omega, trivial, Lib.hid (by rw [Htake.out, List.all_append, HI.out]; simp [hw])⟩
        case measure => simp [intOf]; omega
    · go_wp2_with fail
      go_ret
      refine ⟨ret_bool ?_, HB.out⟩
      have h := HI.out
      rw [List.take_of_length_le (by rw [Hn.out]; omega)] at h
      rw [Hval.out, h]

end Go.Proofs.YtpfeccbnkgnioaaDoor
