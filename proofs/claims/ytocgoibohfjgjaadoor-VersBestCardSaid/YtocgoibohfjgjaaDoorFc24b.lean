/- The contract of package vers' Text. -/
import Derived.Test.YtocgoibohfjgjaaDoorFc24a
namespace Go.Proofs.YtocgoibohfjgjaaDoor
open Go.RowKit
set_option linter.unusedVariables false
set_option maxRecDepth 100000
set_option linter.unusedSimpArgs false

namespace Vs
/-- the versions' texts -/
def put24 (l : List Nat) : List (List Nat) := l.map fun (v : Nat) => Nm.put (v : Int)
theorem put24_snoc (l : List Nat) (v : Nat) : put24 (l ++ [v]) = put24 l ++ [Nm.put (v : Int)] := by simp [put24]
theorem put24_len (l : List Nat) : (put24 l).length = l.length := by simp [put24]
/-- the library's Join, of texts with a comma between them -/
def joined (ps : List (List Nat)) : List UInt8 := Go.Lib.join (ps.map (List.map UInt8.ofNat)) [44]
theorem joinTail_snoc (sep : List UInt8) (r : List (List UInt8)) (y : List UInt8) : Go.Lib.joinTail sep (r ++ [y]) = Go.Lib.joinTail sep r ++ (sep ++ y) := by simp [Go.Lib.joinTail]
theorem joined_nil : joined [] = [] := rfl
theorem joined_one (p : List Nat) : joined [p] = p.map UInt8.ofNat := Go.Lib.join_one _ _
theorem joined_snoc {ps : List (List Nat)} (h : ps ≠ []) (p : List Nat) : joined (ps ++ [p]) = joined ps ++ ([44] ++ p.map UInt8.ofNat) := by
  cases ps with
  | nil => exact absurd rfl h
  | cons x r =>
    unfold joined
    rw [List.cons_append, List.map_cons, List.map_cons, List.map_append, Go.Lib.join_cons, Go.Lib.join_cons, List.map_singleton, joinTail_snoc, List.append_assoc]
theorem put24_nil {l : List Nat} : put24 l = [] ↔ l = [] := by simp [put24]
theorem textN_put {s : Nat} : ∀ k, k ≤ 16 → (textN s k).map UInt8.ofNat = joined (put24 (versK s k)) ∧ (textN s k = [] ↔ versK s k = [])
  | 0, _ => ⟨rfl, by simp [textN, versK]⟩
  | k + 1, h => by
    have ih := textN_put (s := s) k (by omega)
    have hk : k < 16 := by omega
    cases hb : has s ((k : Int) + 1)
    · rw [textN_not hb, versK_no hk hb]; exact ih
    · rw [versK_yes hk hb, put24_snoc]
      have hp := put_ne16 k hk
      by_cases e : textN s k = []
      · rw [textN_one hb e, e, List.nil_append, show versK s k = [] from ih.2.1 e]
        refine ⟨(joined_one _).symm, ?_⟩
        simp [hp]
      · rw [textN_more hb e, joined_snoc (fun h => e (ih.2.2 (put24_nil.1 h))), ← ih.1]
        refine ⟨by simp, ?_⟩
        simp
theorem versK_ne {s : Nat} (hs : s < 65536) (h0 : s ≠ 0) : versK s 16 ≠ [] := by
  intro h
  have h1 := textN_nil s 16 ((textN_put 16 (Nat.le_refl _)).2.2 h)
  have h2 := set_vers hs
  rw [h1] at h2
  exact h0 (by rw [← h2]; decide)
theorem text_some {s : Nat} (hs : s < 65536) (h0 : s ≠ 0) : text s = textN s 16 := by
  unfold text
  rw [if_neg (fun h => versK_ne hs h0 ((textN_put 16 (Nat.le_refl _)).2.1 h))]
theorem text_zero : text 0 = [45] := by
  unfold text
  rw [if_pos]
  rw [textN_16' ]
where
  textN_16' : textN 0 16 = [] := by
    have h : ∀ k, textN 0 k = [] := by
      intro k
      induction k with
      | zero => rfl
      | succ k ih =>
        rw [textN, if_neg, ih]
        unfold has
        rw [Nat.zero_testBit]; simp
    exact h 16
theorem versK_mem (s : Nat) : ∀ k, ∀ v ∈ versK s k, 1 ≤ v ∧ v ≤ k
  | 0, v, h => by cases h
  | k + 1, v, h => by
    rw [versK] at h
    split at h
    · rcases List.mem_append.1 h with h | h
      · have := versK_mem s k v h; omega
      · simp at h; omega
    · have := versK_mem s k v h; omega
end Vs
set_option maxHeartbeats 2000000 in
theorem ctext24_any {w : World} {s : Nat} (hs : s < 65536) :
    Calls Tryd.prog 18 #[.int .u16 (s : Int)] w fun e w' => e = .returned (.string (strOf (Vs.text s))) ∧ Below w.heap.size w w' := by
  by_cases h0 : s = 0
  · subst h0
    have HF := Lib.hid Vs.text_zero
    go_enter Tryd.func18, Tryd.ntmps18
    go_wp2_with fail
    go_ret
    exact ⟨by rw [HF.out]; rfl, Below.refl _ _⟩
  · have hs0 : ((s : Int) == 0) = false := beq_eq_false_iff_ne.2 (by omega)
    have HT := Lib.hid (Vs.text_some hs h0)
    have HJ := Lib.hid (Vs.textN_put (s := s) 16 (Nat.le_refl _)).1
    have HNe := Lib.hid (Vs.versK_ne hs h0)
    have HMost := Lib.hid (Vs.versK_most s 16)
    have HMem := Lib.hid (Vs.versK_mem s 16)
    have HLn := Lib.hid (Vs.textN_len s 16 (Nat.le_refl _))
    have HL := Lib.hid (clist24_any (w := w) hs)
    obtain ⟨R, hR⟩ : ∃ R, Hid (Vs.text s = R) := ⟨_, Lib.hid rfl⟩
    rw [hR.out] at HT ⊢
    rw [← HT.out] at HJ HLn
    obtain ⟨V, hV⟩ : ∃ V, Hid (Vs.versK s 16 = V) := ⟨_, Lib.hid rfl⟩
    rw [hV.out] at HJ HNe HMost HMem HL
    obtain ⟨n, hn⟩ : ∃ n, Hid (V.length = n) := ⟨_, Lib.hid rfl⟩
    rw [hn.out] at HMost HL
    have hn16 : n ≤ 16 := HMost.out
    clear h0
    go_enter Tryd.func18, Tryd.ntmps18
    go_wp2_with fail
    refine (HL.out).mono ?_
    rintro e w1 ⟨v, rfl, ho, hb⟩
    have HO := Lib.hid ho
    have HB := Lib.hid hb
    clear ho hb
    obtain ⟨A, c, rfl, hl1, hl2, hl3⟩ := own_look HO.out
    have HCell : Hid (∀ (W : World), Below w1.heap.size w1 W → ∀ j (hj : j < n), ∃ g, A = some ⟨g, 0, none⟩ ∧ W.cell? ⟨g, j, none⟩ = some (.int .i64 ((V.getD j 0 : Nat) : Int))) := Lib.hid (fun W hW j hj => by
      obtain ⟨g, hA, hg, hc⟩ := own_cell' HO.out (ints_get .i64 V j (by rw [hn.out]; exact hj))
      exact ⟨g, hA, (hW.cell (p := ⟨g, j, none⟩) hg).trans hc⟩)
    have HTk := Lib.hid (fun j (hj : j < n) => List.take_succ_eq_append_getElem (l := V) (i := j) (by rw [hn.out]; exact hj))
    have HGt := Lib.hid (fun j (hj : j < n) => (by simp [List.getD, List.getElem?_eq_getElem (show j < V.length by rw [hn.out]; exact hj)] : V.getD j 0 = V[j]'(by rw [hn.out]; exact hj)))
    have HIn := Lib.hid (fun j (hj : j < n) => HMem.out (V.getD j 0) (by rw [HGt.out j hj]; exact List.getElem_mem _))
    have HAll := Lib.hid (List.take_of_length_le (l := V) (i := n) (by rw [hn.out]; omega))
    have HTl := Lib.hid (fun j (hj : j ≤ n) => (by rw [Vs.put24_len, List.length_take, hn.out]; omega : (Vs.put24 (V.take j)).length = j))
    go_wp2_with fail
    go_loopw [3, 11] (fun v x wr => ∃ j : Nat, j ≤ n ∧ x = .int .i64 (j : Int) ∧ Hid (wr.ownsRow w1.heap.size 9 1 v j (strs (Vs.put24 (V.take j)))) ∧ Hid (Below w1.heap.size w1 wr)) (fun _ x _ => n - (intOf x).toNat)
    case atStart => exact ⟨0, by omega, rfl, Lib.hid (by rw [List.take_zero]; exact World.ownsRow_nil _ _ _ _), Lib.hid (Below.refl _ _)⟩
    case round =>
      obtain ⟨j, hj, rfl, HOj, HBj⟩ := hrel
      obtain ⟨Aj, cj, rfl, hj1, hj2, hj3⟩ := own_look HOj.out
      by_cases hlt : j < n
      · obtain ⟨g, hA, hc⟩ := HCell.out wr HBj.out j hlt
        have hA' := hA
        subst hA'
        have hin := HIn.out j hlt
        have HTk1 := HTk.out j hlt
        rw [← HGt.out j hlt] at HTk1
        obtain ⟨u, hu⟩ : ∃ u, Hid (V.getD j 0 = u) := ⟨_, Lib.hid rfl⟩
        rw [hu.out] at hc hin HTk1
        have HS : Hid (Vs.put24 (V.take (j + 1)) = Vs.put24 (V.take j) ++ [Nm.put (u : Int)]) := Lib.hid (by rw [HTk1, Vs.put24_snoc])
        clear HTk1
        obtain ⟨ps, hps⟩ : ∃ ps, Hid (Vs.put24 (V.take j) = ps) := ⟨_, Lib.hid rfl⟩
        rw [hps.out] at HOj HS
        have CP := Lib.hid (nput_any (u : Int) (by omega) (by omega) wr)
        go_wp2_with fail
        refine (CP.out).mono ?_
        rintro e w2 ⟨rfl, hb⟩
        have hsz2 : w1.heap.size ≤ wr.heap.size := HBj.out.size
        have HO2 := Lib.hid (own_below HOj.out (hb.mono (Nat.le_refl _)))
        have HB2 := Lib.hid (HBj.out.trans (hb.mono hsz2))
        have hz2 : w1.heap.size ≤ w2.heap.size := HB2.out.size
        clear hb
        go_wp2_with (at_builtin; refine wpList_append1 strT _ _ rfl rfl w1.heap.size _ j (strs ps) rfl rfl rfl HO2.out (by omega) hz2 ?_; intro v' w3 ho3 hg3)
        go_roundw
        case rel =>
          refine ⟨j + 1, by omega, by go_num, ?_, ?_⟩
          · rw [HS.out, strs_append]
            exact Lib.hid ho3
          · exact Lib.hid ((HB2.out.alloc hz2 _).grown hg3 (by simp; omega) (fun z hz => (HO2.out.lt z hz).1))
        case measure => simp [intOf]; omega
      · obtain rfl : j = n := by omega
        rw [HAll.out] at HOj
        have hn0 : 0 < j := by
          rcases Nat.eq_zero_or_pos j with h | h
          · exact absurd (List.eq_nil_of_length_eq_zero (hn.out.trans h)) HNe.out
          · exact h
        have hlen : (Vs.put24 V).length = j := by rw [Vs.put24_len]; exact hn.out
        obtain ⟨ps, hps⟩ : ∃ ps, Hid (Vs.put24 V = ps) := ⟨_, Lib.hid rfl⟩
        rw [hps.out] at HOj hlen HJ
        obtain ⟨g, hA, hg, _⟩ := own_cell' HOj.out (strs_get (ps := ps) (i := 0) (by omega))
        subst hA
        have hjn : (Go.Lib.join ((ps.map strOf).map (·.data.toList)) [44]) = R.map UInt8.ofNat := by
          rw [HJ.out]; unfold Vs.joined
          rw [List.map_map]; congr 1
        have CJ := Lib.hid (Tryd.strings_Join g 0 cj (ps.map strOf) ⟨#[44]⟩ wr (fun i x hx => by
          rw [List.getElem?_map] at hx
          cases hi : ps[i]? with
          | none => rw [hi] at hx; cases hx
          | some p =>
            rw [hi] at hx
            cases hx
            have hlt := (List.getElem?_eq_some_iff.1 hi)
            obtain ⟨g', hA', _, hc'⟩ := own_cell' HOj.out (strs_get (ps := ps) (i := i) hlt.1)
            cases hA'
            rw [Nat.zero_add, hc', hlt.2]) hg (by rw [List.length_map]; omega) (by rw [List.length_map]; omega) (by
          show (Go.Lib.join _ [44]).length ≤ _
          rw [hjn, List.length_map]
          have := HLn.out
          omega))
        have CJ2 : Hid (Calls Tryd.prog 27 #[.slice (some ⟨g, 0, none⟩) j cj, .string ⟨#[44]⟩] wr fun e w' => e = .returned (.string (strOf R)) ∧ Below wr.heap.size wr w') := Lib.hid (by
          have := CJ.out
          rw [List.length_map, hlen] at this
          refine this.mono ?_
          rintro e w' ⟨rfl, hb⟩
          refine ⟨?_, hb⟩
          show Ending.returned (.string ⟨(Go.Lib.join _ [44]).toArray⟩) = _
          rw [hjn]; rfl)
        clear CJ hjn
        replace hlen := Lib.hid hlen
        have HBf := Lib.hid (HB.out.trans (HBj.out.mono HB.out.size))
        go_wp2_with fail
        refine (CJ2.out).mono ?_
        rintro e w4 ⟨rfl, hb⟩
        have HBg := Lib.hid (HBf.out.trans (hb.mono HBf.out.size))
        clear hb
        go_wp2_with fail
        go_ret
        exact ⟨rfl, HBg.out⟩
end Go.Proofs.YtocgoibohfjgjaaDoor
