/- Contracts of package room: Tick. -/
import Derived.Test.YtbhdgfpaoghnbaaMit22
namespace Go.Proofs.Ytbhdgfpaoghnbaa
open Go.RowKit
set_option linter.unusedVariables false
set_option maxRecDepth 100000
set_option linter.unusedSimpArgs false

theorem clot22_any {w : World} {x h bx ex age : Nat} (hb : w.cell? ⟨bx, 0, none⟩ = some (pt h)) (hx : w.cell? ⟨h, 2, none⟩ = some (.int .i64 (ex : Int))) (ha : w.cell? ⟨x, 5, none⟩ = some (.int .i64 (age : Int))) :
    Calls Try.prog 32 #[pt x, pt bx] w fun e w' => e = .returned (.bool (decide (ex < age))) ∧ ∃ q, w' = w.drewN q := by
  have hd : decide ((ex : Int) < (age : Int)) = decide (ex < age) := by
    by_cases h : ex < age
    · rw [decide_eq_true h, decide_eq_true (by omega)]
    · rw [decide_eq_false h, decide_eq_false (by omega)]
  go_enter Try.func32, Try.ntmps32
  go_wp2_with fail
  go_quiet (fail)
  go_wp2_with fail
  go_ret
  exact ⟨rfl, _, rfl⟩
section
variable {w W : World} {F X : Nat → Prop} {h b bx : Nat} {m : Tm.Lim} {v : Value} {L : List (Tm.One × Nat)} {Fo : Nat → Nat → Prop} {o : Tm.One}
def oldIn (ex : Nat) (L : List (Tm.One × Nat)) (b : Nat) : Bool := L.any (fun x => decide (x.2 = b) && decide (ex < x.1.age))
theorem oldIn_is {ex : Nat} (hn : (snds L).Nodup) {x : Tm.One × Nat} (hx : x ∈ L) : oldIn ex L x.2 = decide (ex < x.1.age) := by
  unfold oldIn
  rw [Bool.eq_iff_iff, List.any_eq_true]
  constructor
  · rintro ⟨y, hy, e⟩
    simp only [Bool.and_eq_true, decide_eq_true_eq] at e
    have := sndT_uniq L hn y hy x hx e.1
    rw [← this]
    simpa using e.2
  · intro e
    exact ⟨x, hx, by simpa using e⟩
def young (ex : Nat) (L : List (Tm.One × Nat)) : List (Tm.One × Nat) := L.filter (fun x => !decide (ex < x.1.age))
theorem young_snds {ex : Nat} (hn : (snds L).Nodup) : snds (young ex L) = (snds L).filter (fun b => !oldIn ex L b) := by
  unfold snds young
  rw [List.filter_map]
  congr 1
  refine List.filter_congr fun x hx => ?_
  simp only [Function.comp]
  rw [oldIn_is hn hx]
theorem mit_young (M : Mit w F X h m W v L Fo) (hbx : X bx) (hc : W.cell? ⟨bx, 0, none⟩ = some (pt h)) :
    Calls Try.prog 31 #[v, .func (.func 32) #[] #[pt bx]] W fun e w' => ∃ A c, e = .returned (.slice A (young m.ex L).length c) ∧ w'.cell? ⟨bx, 0, none⟩ = some (pt h) ∧ w'.cell? ⟨h, 3, none⟩ = some v ∧ w'.frozen? ⟨h, 3, none⟩ = false ∧
      ∀ W1, W1 = w'.setCell ⟨h, 3, none⟩ (.slice A (young m.ex L).length c) → Mit w F X h m W1 (.slice A (young m.ex L).length c) (young m.ex L) Fo := by
  obtain ⟨A, cp, rfl, hle, hmx⟩ := M.shape
  have hrow := M.row
  obtain ⟨Ft, r, h1, h2⟩ := M.tab
  rw [show L.length = (snds L).length from (snds_len L).symm] at hrow
  have hbr : (Value.slice A (snds L).length cp).ownBlock ≠ some bx := by
    intro e
    exact M.rowX hbx (by rw [← e]; exact own_len _ _ _ _ _)
  have hbl := M.xlt bx hbx
  have D := del22_any (K := 32) (u := pt bx) (fun args w => by kernel_rfl) (oldIn m.ex L) hrow (fun x hx W' hW => by
    obtain ⟨y, hy, rfl⟩ := List.mem_map.1 hx
    obtain ⟨g, hg⟩ := (r.bag.mg y hy).whole
    have hyr : (Value.slice A (snds L).length cp).ownBlock ≠ some y.2 := by
      intro e
      exact M.rowL hy (by rw [← e]; exact own_len _ _ _ _ _)
    have hh : (Value.slice A (snds L).length cp).ownBlock ≠ some h := by
      intro e
      exact (r.fr h (by rw [← e]; exact own_len _ _ _ _ _)).2 rfl
    rw [oldIn_is M.once hy]
    exact clot22_any ((World.cell?_of_block (a := ⟨bx, 0, none⟩) (hW.block bx hbl hbr)).trans hc) ((r.whole.same (hW.block h r.whole.lt hh)).at_ 2) ((hg.same (hW.block y.2 hg.lt hyr)).at_ 5))
  rw [← young_snds M.once, snds_len, snds_len] at D
  refine D.mono ?_
  rintro e w' ⟨rfl, ho, hf⟩
  have hh : (Value.slice A L.length cp).ownBlock ≠ some h := fun e => (r.fr h e).2 rfl
  have hw : Whole w' h 76 _ := r.whole.same (hf.block h r.whole.lt hh)
  refine ⟨A, cp, rfl, (World.cell?_of_block (a := ⟨bx, 0, none⟩) (hf.block bx hbl (M.rowX hbx))).trans hc, hw.at_ 3, hw.free 3, ?_⟩
  rintro W1 rfl
  obtain ⟨k1, k2⟩ := r.swap (L' := young m.ex L) List.filter_sublist ho (own_len _ _ _ _ _) hf
  exact (M.step h1 h2 k1 (fun _ q => q) k2).1
theorem Mg.aged {F : Nat → Prop} (h : Mg w F b o) : ∃ g, Whole w b 82 (fMs o g) ∧ Foot F w (w.setCell ⟨b, 5, none⟩ (.int .i64 ((o.age + 1 : Nat) : Int))) ∧ Mg (w.setCell ⟨b, 5, none⟩ (.int .i64 ((o.age + 1 : Nat) : Int))) (Wide F w (w.setCell ⟨b, 5, none⟩ (.int .i64 ((o.age + 1 : Nat) : Int)))) b (Tm.older o) := by
  obtain ⟨g, G, h⟩ := h
  obtain ⟨k1, k2⟩ := h.aged (o.age + 1)
  refine ⟨g, h.whole, k2, g, G, ⟨k1.whole, k1.parts, fun x hx => ⟨.inl (k1.sub x hx).1, (k1.sub x hx).2⟩, .inl k1.self, fun x hx => ?_⟩⟩
  rcases hx with hx | hx
  · exact k1.lt x hx
  · exact hx.2
/-- the first k are a tick older -/
def agedL (k : Nat) (L : List (Tm.One × Nat)) : List (Tm.One × Nat) := (L.take k).map (fun x => (Tm.older x.1, x.2)) ++ L.drop k
theorem agedL_snds (k : Nat) (L : List (Tm.One × Nat)) : snds (agedL k L) = snds L := by
  conv => rhs; rw [← List.take_append_drop k L]
  unfold agedL
  rw [snds_append, snds_append]
  congr 1
  unfold snds
  rw [List.map_map]
  rfl
theorem agedL_len (k : Nat) (L : List (Tm.One × Nat)) : (agedL k L).length = L.length := by
  rw [← snds_len, agedL_snds, snds_len]
theorem turned_mid (f : Tm.One → Tm.One) (a r : List (Tm.One × Nat)) (x : Tm.One × Nat) (hn : (snds (a ++ x :: r)).Nodup) : turned x.2 f (a ++ x :: r) = a ++ (f x.1, x.2) :: r := by
  rw [snds_append] at hn
  have hn2 : (snds a ++ x.2 :: snds r).Nodup := hn
  rw [List.nodup_append] at hn2
  obtain ⟨_, h2, h3⟩ := hn2
  rw [List.nodup_cons] at h2
  unfold turned
  rw [List.map_append, List.map_cons, if_pos rfl]
  congr 1
  · conv => rhs; rw [← List.map_id a]
    refine List.map_congr_left fun y hy => ?_
    rw [if_neg (h3 y.2 (List.mem_map.2 ⟨y, hy, rfl⟩) x.2 List.mem_cons_self)]
    rfl
  · congr 1
    conv => rhs; rw [← List.map_id r]
    refine List.map_congr_left fun y hy => ?_
    rw [if_neg (fun e => h2.1 (by rw [← e]; exact List.mem_map.2 ⟨y, hy, rfl⟩))]
    rfl
theorem agedL_next {k : Nat} (hn : (snds L).Nodup) (hk : k < L.length) : turned L[k].2 Tm.older (agedL k L) = agedL (k + 1) L := by
  have e : agedL k L = (L.take k).map (fun x => (Tm.older x.1, x.2)) ++ L[k] :: L.drop (k + 1) := by unfold agedL; rw [List.drop_eq_getElem_cons hk]
  have hn' : (snds (agedL k L)).Nodup := by rw [agedL_snds]; exact hn
  rw [e] at hn' ⊢
  rw [turned_mid _ _ _ _ hn']
  unfold agedL
  rw [List.take_succ_eq_append_getElem hk, List.map_append, List.append_assoc]
  rfl
theorem agedL_get {k : Nat} (hk : k < L.length) : (L[k].1, L[k].2) ∈ agedL k L := by
  unfold agedL
  rw [List.drop_eq_getElem_cons hk]
  exact List.mem_append.2 (.inr List.mem_cons_self)
theorem agedL_at {k : Nat} (hk : k < L.length) : (agedL k L)[k]? = some L[k] := by
  have h1 : ((L.take k).map (fun x => (Tm.older x.1, x.2))).length = k := by simp; omega
  unfold agedL
  rw [List.getElem?_append_right (by omega), h1, Nat.sub_self, List.getElem?_drop, Nat.add_zero, List.getElem?_eq_getElem hk]
theorem aged_all (ex : Nat) (L : List (Tm.One × Nat)) : ones (young ex (agedL L.length L)) = ((ones L).map Tm.older).filter (fun o => decide (o.age ≤ ex)) := by
  unfold agedL young ones
  rw [List.take_of_length_le (Nat.le_refl _), List.drop_of_length_le (Nat.le_refl _), List.append_nil, List.filter_map, List.map_map, List.map_map, List.filter_map]
  congr 1
  refine List.filter_congr fun x _ => ?_
  simp only [Function.comp]
  by_cases h : ex < (Tm.older x.1).age
  · rw [decide_eq_true h, decide_eq_false (by omega)]; rfl
  · rw [decide_eq_false h, decide_eq_true (by omega)]; rfl
set_option maxHeartbeats 4000000 in
theorem ttick22_any {w : World} {F : Nat → Prop} {h : Nat} {m : Tm.Lim} {l : List Tm.One} (r : Tt w F h m l) (hm : m.Ok) (hok : Tm.Ok m l) :
    Calls Try.prog 16 #[.pointer (some ⟨h, 0, none⟩)] w fun e w' => e = .returned (.tuple #[]) ∧ Tt w' (Wide F w w') h m (Tm.tick m l) ∧ Foot F w w' := by
  obtain ⟨v, L, Fo, rfl, r⟩ := r
  have hL := hok.open_
  rw [ones_len] at hL
  have hag : Hid (∀ x ∈ L, x.1.age ≤ 32) := Lib.hid (fun x hx => by
    have := hok.age x.1 (List.mem_map.2 ⟨x, hx, rfl⟩)
    have := hm.ex2
    omega)
  have hop2 := hm.op2
  have HLT := Lib.hid r.lt
  obtain ⟨bx, hbx⟩ : ∃ x, w.heap.size = x := ⟨_, rfl⟩
  obtain ⟨w0, hw0⟩ : ∃ W, w.alloc (.cells #[pt h] 54) = W := ⟨_, rfl⟩
  have HB0 : Below w.heap.size w w0 := by rw [← hw0]; exact (Below.refl _ _).alloc (Nat.le_refl _) _
  have hx0 : Whole w0 bx 54 #[pt h] := by rw [← hw0, ← hbx]; exact Whole.made _ _ _
  have M0 : Mit w F (fun x => x = bx) h m w0 v L Fo := Mit.start r HB0 (fun x hx => by subst hx; have := hx0.lt; omega)
  have HM0 := Lib.hid M0
  have HX0 := Lib.hid hx0
  have HN := Lib.hid M0.once
  obtain ⟨A, cp, rfl, hle, hmx⟩ := M0.shape
  have c0 := HX0.out.at_ 0
  have c00 := M0.whole.at_ 0
  have c3 : w0.cell? ⟨h, 3, none⟩ = some (.slice A L.length cp) := M0.whole.at_ 3
  have MA := Lib.hid (tmade22_any c00 hm.op1)
  have HAL := Lib.hid (aged_all m.ex L)
  obtain ⟨n, hn⟩ : ∃ n, Hid (L.length = n) := ⟨_, Lib.hid rfl⟩
  unfold maxLen at hmx
  rw [hn.out] at c3 hle hL HM0 HAL
  clear r hok hm M0 HB0 hx0
  go_enter Try.func16, Try.ntmps16
  go_wp2_with fail
  refine (MA.out).mono ?_
  rintro e w1 ⟨rfl, rfl⟩
  go_wp2_with fail
  go_loopw [12] (fun i wr => ∃ (k : Nat) (Fr : Nat → Nat → Prop), i = .int .i64 k ∧ k ≤ n ∧ Hid (Mit w F (fun x => x = bx) h m wr (.slice A n cp) (agedL k L) Fr) ∧ Hid (wr.heap[bx]? = w1.heap[bx]?)) (fun i _ => n - (intOf i).toNat)
  case atStart => exact ⟨0, _, rfl, Nat.zero_le _, Lib.hid (by simpa [agedL] using HM0.out), Lib.hid rfl⟩
  case round =>
    obtain ⟨k, Fr, rfl, hk, HM, HB⟩ := hrel
    by_cases hlt : k < n
    · have hkl : k < L.length := by rw [hn.out]; exact hlt
      obtain ⟨B, rfl, _, hcp⟩ := HM.out.ptr (i := k) (by rw [agedL_len]; exact hkl)
      have hsk : (agedL k L)[k]'(by rw [agedL_len]; exact hkl) = L[k] := (List.getElem?_eq_some_iff.1 (agedL_at hkl)).2
      rw [hsk] at hcp
      obtain ⟨g, hg, hft, hmg⟩ := (HM.out.mg (agedL_get hkl)).aged
      obtain ⟨⟨Fr', hM'⟩, hk2, _⟩ := HM.out.touch (agedL_get hkl) Tm.older hft hmg
      rw [agedL_next HN.out hkl] at hM'
      have hage := hag.out L[k] (List.getElem_mem hkl)
      have ca : wr.cell? ⟨L[k].2, 5, none⟩ = some (.int .i64 (L[k].1.age : Int)) := hg.at_ 5
      have fa : wr.frozen? ⟨L[k].2, 5, none⟩ = false := hg.free 5
      have hk3 := hk2 bx rfl
      obtain ⟨ag, hag'⟩ : ∃ x, Hid (L[k].1.age = x) := ⟨_, Lib.hid rfl⟩
      obtain ⟨p, hp⟩ : ∃ x, Hid (L[k].2 = x) := ⟨_, Lib.hid rfl⟩
      rw [hag'.out, hp.out] at hM' hk3 ca
      rw [hag'.out] at hage
      rw [hp.out] at fa hcp
      have HM' := Lib.hid hM'
      have HK := Lib.hid (hk3.trans HB.out)
      have hw : IntKind.i64.wrap ((ag : Int) + 1) = ((ag + 1 : Nat) : Int) := by rw [IntKind.wrap_i64]; omega
      obtain ⟨a1, ha1⟩ : ∃ x, Hid (ag + 1 = x) := ⟨_, Lib.hid rfl⟩
      rw [ha1.out] at HM' HK hw
      clear hsk hg hft hmg hM' hk2 hk3
      go_wp2_with fail
      go_roundw
      case rel => exact ⟨k + 1, Fr', by go_num, by omega, HM', HK⟩
      case measure => simp [intOf]; omega
    · obtain rfl : n = k := by omega
      have hcb : wr.cell? ⟨bx, 0, none⟩ = some (pt h) := (World.cell?_of_block (a := ⟨bx, 0, none⟩) HB.out).trans c0
      have hc3 : wr.cell? ⟨h, 3, none⟩ = some (.slice A n cp) := HM.out.whole.at_ 3
      have HFN : Hid (ones (young m.ex (agedL n L)) = Tm.tick m (ones L)) := HAL
      have HD := Lib.hid (fun W (hW : Below wr.heap.size wr W) => mit_young (bx := bx) (HM.out.stay hW) rfl ((hW.cell (p := ⟨bx, 0, none⟩) (World.block_lt_of_cell? wr _ hcb)).trans hcb))
      go_upto_region 7 with fail
      refine wp_region_last (S := fun W => W.cell? ⟨bx, 0, none⟩ = some (pt h) ∧ W.cell? ⟨h, 3, none⟩ = some (.slice A n cp)) 9 [(0, true), (1, true), (2, true), (3, true), (4, true), (5, false), (6, false), (7, false), (8, true), (9, false)] (by kernel_rfl) (by kernel_rfl) rfl (by kernel_rfl) (by rfl) (fun _ _ _ _ _ h => h) ⟨hcb, hc3⟩ ?_
      iterate 5
        refine alongL_take (v := ?_) rfl (by rfl) ?_ ?_
        rotate_left
        · intro W hW; obtain ⟨s1, s2⟩ := hW; go_simp; try with_reducible rfl
        simp only [Act.put, List.setIfInBounds_toArray, List.set_cons_zero, List.set_cons_succ]
      refine alongL_step rfl (fun K hK => ?_)
      go_simp
      refine hK.out _ _ ⟨hcb, hc3⟩ ?_
      clear hK K
      try simp only [Act.put, List.setIfInBounds_toArray, List.set_cons_zero, List.set_cons_succ]
      refine alongL_step rfl (fun K hK => ?_)
      go_simp
      refine (HD.out _ (Below.refl _ _).drew).mono ?_
      rintro e w2 ⟨A2, c2, rfl, k1, k2, k3, k4⟩
      refine hK.out _ _ ⟨k1, k2⟩ ?_
      have HK4 := Lib.hid (k4 _ rfl)
      clear hK K k4
      try simp only [Act.put, List.setIfInBounds_toArray, List.set_cons_zero, List.set_cons_succ]
      refine alongL_step rfl (fun K hK => ?_)
      go_simp
      refine hK.out _ _ ⟨k1, k2⟩ ?_
      clear hK K
      try simp only [Act.put, List.setIfInBounds_toArray, List.set_cons_zero, List.set_cons_succ]
      refine alongL_take (v := ?_) rfl (by rfl) ?_ ?_
      rotate_left
      · intro W hW; obtain ⟨s1, s2⟩ := hW; go_simp; try with_reducible rfl
      simp only [Act.put, List.setIfInBounds_toArray, List.set_cons_zero, List.set_cons_succ]
      refine alongL_last rfl (fun K hK => ?_)
      go_simp
      refine hK.out _ _ ?_
      clear hK K
      go_wp2_with fail
      go_end0
      obtain ⟨Ft, q1, q2, _, q4⟩ := HK4.out.done HLT.out
      rw [HFN.out] at q1
      refine ⟨rfl, q1.more q2 (fun x hx => ?_), q4⟩
      rcases hx with hx | hx
      · have := HLT.out x hx; have := q4.size; omega
      · exact hx.2
end
end Go.Proofs.Ytbhdgfpaoghnbaa
