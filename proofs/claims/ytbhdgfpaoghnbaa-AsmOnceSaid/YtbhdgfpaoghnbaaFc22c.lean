/- Contracts of package room: shrink. -/
import Derived.Test.YtbhdgfpaoghnbaaMit22
namespace Go.Proofs.Ytbhdgfpaoghnbaa
open Go.RowKit
set_option linter.unusedVariables false
set_option maxRecDepth 100000
set_option linter.unusedSimpArgs false

theorem nePtr22 {w : World} {a b : Nat} {ca cb : Array Value} (ha : Whole w a 82 ca) (hb : Whole w b 82 cb) :
    (binOp .neq 77 (pt a) (pt b)).run Try.prog w = .ok (.bool (decide (a ≠ b))) w := by
  have he := eqPtr22 ha hb
  simp only [binOp] at he ⊢
  simp only [Sem.run_bind] at he ⊢
  cases h : (Op.equal 77 (pt a) (pt b)).run Try.prog w with
  | ok v w' =>
    rw [h] at he
    simp at he ⊢
    rw [he.1, he.2]
    simp
  | _ => rw [h] at he; simp [Result.andThen] at he
theorem Whole.drewN {w : World} {g t : Nat} {cs : Array Value} (h : Whole w g t cs) (n : Nat) : Whole (w.drewN n) g t cs := h
/-- what shrink has done when it stands at k -/
structure Swp (w : World) (F X : Nat → Prop) (h q b : Nat) (m : Tm.Lim) (W : World) (L : List (Tm.One × Nat)) (k : Nat) (wr : World) : Prop where
  mit : ∃ v Fo kept, Mit w F X h m wr v (kept ++ L.drop k) Fo ∧ sweep q b kept (L.drop k) = sweep q b [] L ∧ kept.Sublist (L.take k)
  keep : ∀ x, X x → wr.heap[x]? = W.heap[x]?
  size : W.heap.size ≤ wr.heap.size
section
variable {w W : World} {F X : Nat → Prop} {h b : Nat} {m : Tm.Lim} {v : Value} {L : List (Tm.One × Nat)} {Fo : Nat → Nat → Prop} {o : Tm.One}
set_option maxHeartbeats 4000000 in
theorem tshrink22_any (M : Mit w F X h m W v L Fo) (hm : m.Ok) (hL : L.length ≤ 1000) (hs : Tm.held (ones L) ≤ 1000000000) (ho : (o, b) ∈ L) :
    Calls Try.prog 41 #[pt h, pt b] W (OpenPost w F X h m W (sweep m.by_ b [] L)) := by
  obtain ⟨A, cp, rfl, hle, hmx⟩ := M.shape
  have c3 : W.cell? ⟨h, 3, none⟩ = some (.slice A L.length cp) := M.whole.at_ 3
  have hrow := M.row
  rw [show L.length = (snds L).length from (snds_len L).symm] at hrow
  have CL := clone22_any hrow (by rw [snds_len]; exact hL)
  rw [snds_len] at CL
  have HCL := Lib.hid CL
  have HM := Lib.hid M
  have HO := Lib.hid ho
  have HHE : Hid (∀ (k : Nat) (kept : List (Tm.One × Nat)), kept.Sublist (L.take k) → (kept ++ L.drop k).length ≤ 1000 ∧ Tm.held (ones (kept ++ L.drop k)) ≤ 1000000000) := Lib.hid (fun k kept hk => by
    have hsub : (kept ++ L.drop k).Sublist L := by
      have := List.Sublist.append_right hk (L.drop k)
      rwa [List.take_append_drop] at this
    exact ⟨Nat.le_trans hsub.length_le hL, Nat.le_trans (Tm.held_sub (hsub.map _)) hs⟩)
  have HMO := Lib.hid hm
  obtain ⟨n, hn⟩ : ∃ n, Hid (L.length = n) := ⟨_, Lib.hid rfl⟩
  unfold maxLen at hmx
  rw [hn.out] at c3 hle hL HCL
  clear M hrow CL hs ho hm
  go_enter Try.func41, Try.ntmps41
  go_wp2_with fail
  refine (HCL.out).mono ?_
  rintro e w1 ⟨vc, rfl, hoc, hb1⟩
  obtain ⟨Ac, cc, rfl, hlc, hmc, _, hatc⟩ := own_look hoc
  have HX1 : Hid (∀ x, X x → x < W.heap.size) := Lib.hid HM.out.xlt
  have HM1 : Hid (Mit w F (fun x => X x ∨ (Value.slice Ac n cc).ownBlock = some x) h m w1 (.slice A L.length cp) L Fo) := Lib.hid (HM.out.also hb1 (fun x hx => hoc.lt x hx))
  have HB1 := Lib.hid hb1
  have HAT : Hid (∀ i (hi : i < L.length), ∃ B, Ac = some ⟨B, 0, none⟩ ∧ ∀ wr : World, wr.heap[B]? = w1.heap[B]? → wr.cell? ⟨B, i, none⟩ = some (pt L[i].2)) := Lib.hid (fun i hi => by
    obtain ⟨B, e, _, _, hc⟩ := hatc i (pt L[i].2) (by rw [pts_get]; unfold snds; rw [List.getElem?_map, List.getElem?_eq_getElem hi]; rfl)
    exact ⟨B, e, fun wr hw => (World.cell?_of_block (a := ⟨B, i, none⟩) hw).trans hc⟩)
  unfold maxLen at hmc
  clear hoc hb1 hatc c3
  go_wp2_with fail
  go_loopw [12] (fun i wr => ∃ k : Nat, i = .int .i64 k ∧ k ≤ n ∧ Hid (Swp w F (fun x => X x ∨ (Value.slice Ac n cc).ownBlock = some x) h m.by_ b m w1 L k wr)) (fun i _ => n - (intOf i).toNat)
  case atStart => exact ⟨0, rfl, Nat.zero_le _, Lib.hid ⟨⟨_, _, [], by simpa using HM1.out, rfl, List.Sublist.refl _⟩, fun _ _ => rfl, Nat.le_refl _⟩⟩
  case round =>
    obtain ⟨k, rfl, hk, HS⟩ := hrel
    by_cases hlt : k < n
    · have hkl : k < L.length := by rw [hn.out]; exact hlt
      obtain ⟨B, rfl, hat⟩ := HAT.out k hkl
      have hcp : wr.cell? ⟨B, k, none⟩ = some (pt L[k].2) := hat wr (HS.out.keep B (.inr rfl))
      obtain ⟨vr, Fr, kept, hM, hsw, hkp⟩ := HS.out.mit
      have hdr : L.drop k = L[k] :: L.drop (k + 1) := List.drop_eq_getElem_cons hkl
      obtain ⟨x, hx⟩ : ∃ x, L[k] = x := ⟨_, rfl⟩
      have htk : L.take (k + 1) = L.take k ++ [x] := by rw [List.take_succ_eq_append_getElem hkl, hx]
      rw [hx] at hdr hcp
      have hhe := HHE.out k kept hkp
      rw [hdr] at hM hsw hhe
      have hbm : (o, b) ∈ kept ++ x :: L.drop (k + 1) := (sweep_sub m.by_ b _ _).subset (by rw [hsw]; exact sweep_mem _ _ _ _ _ (by simpa using HO.out))
      obtain ⟨gx, hgx⟩ := (hM.mg (x := x) (by simp)).whole
      obtain ⟨gb, hgb⟩ := (hM.mg hbm).whole
      have hne := fun q => nePtr22 (w := wr.drewN q) (hgx.drewN q) (hgb.drewN q)
      have h1 : wr.cell? ⟨h, 1, none⟩ = some (.int .i64 (m.by_ : Int)) := hM.whole.at_ 1
      have HEL := Lib.hid (fun q => mit_held (hM.drewN q) HMO.out hhe.1 hhe.2)
      have HST : Hid (∀ q, (x.2 = b ∨ Tm.held (ones (kept ++ x :: L.drop (k + 1))) ≤ m.by_) → Swp w F (fun x => X x ∨ (Value.slice (some ⟨B, 0, none⟩) n cc).ownBlock = some x) h m.by_ b m w1 L (k + 1) (wr.drewN q)) := Lib.hid (fun q hc => by
        refine ⟨⟨vr, Fr, kept ++ [x], ?_, ?_, ?_⟩, fun y hy => HS.out.keep y hy, HS.out.size⟩
        · rw [List.append_assoc]; exact hM.drewN q
        · rw [← hsw]
          conv => rhs; rw [sweep, if_pos hc]
        · rw [htk]; exact List.Sublist.append hkp (List.Sublist.refl _))
      have HGO : Hid (¬ (x.2 = b ∨ Tm.held (ones (kept ++ x :: L.drop (k + 1))) ≤ m.by_) → ∀ q, Calls Try.prog 38 #[pt h, pt x.2] (wr.drewN q) fun e w' => e = .returned (.tuple #[]) ∧ Swp w F (fun x => X x ∨ (Value.slice (some ⟨B, 0, none⟩) n cc).ownBlock = some x) h m.by_ b m w1 L (k + 1) w') := Lib.hid (fun hc q => by
        refine (mit_discard (hM.drewN q) (hgx.drewN q) (hM.rowL (x := x) (by simp))).mono ?_
        rintro e w' ⟨e1, ⟨v1, e2⟩, e3, e4⟩
        rw [less_mid kept (L.drop (k + 1)) x hM.once] at e2
        refine ⟨e1, ⟨v1, Fr, kept, e2, ?_, ?_⟩, fun y hy => (e3 y hy).trans (HS.out.keep y hy), Nat.le_trans HS.out.size e4⟩
        · rw [← hsw]
          conv => rhs; rw [sweep, if_neg hc]
        · rw [htk]; exact hkp.trans (List.sublist_append_left _ _))
      obtain ⟨hd, hhd⟩ : ∃ z, Hid (Tm.held (ones (kept ++ x :: L.drop (k + 1))) = z) := ⟨_, Lib.hid rfl⟩
      rw [hhd.out] at HEL HST HGO
      obtain ⟨by_, hby⟩ : ∃ x, Hid (m.by_ = x) := ⟨_, Lib.hid rfl⟩
      obtain ⟨p, hp⟩ : ∃ y, Hid (x.2 = y) := ⟨_, Lib.hid rfl⟩
      rw [hby.out] at h1
      rw [hp.out] at hcp hne HST HGO
      clear hat hM hsw hkp hdr hhe hbm hgx hgb htk hx
      by_cases hpb : p = b
      · have HN := Lib.hid (fun q => HST.out q (.inl hpb))
        rw [decide_eq_false (by simpa using hpb)] at hne
        subst hpb
        go_wp2_with fail
        go_quiet (fail)
        go_wp2_with fail
        go_roundw
        case rel => exact ⟨k + 1, by go_num, by omega, Lib.hid (HN.out _)⟩
        case measure => simp [intOf]; omega
      · rw [decide_eq_true hpb] at hne
        by_cases hl : hd ≤ by_
        · have HN := Lib.hid (fun q => HST.out q (.inr (by rw [hby.out]; exact hl)))
          have hd1 : decide ((by_ : Int) < (hd : Int)) = false := decide_eq_false (by omega)
          have hd2 : decide (by_ < hd) = false := decide_eq_false (by omega)
          clear hpb
          go_wp2_with fail
          go_quiet (with_reducible exact Calls.quiet_of_same (HEL.out _))
          go_wp2_with fail
          go_roundw
          case rel => exact ⟨k + 1, by go_num, by omega, Lib.hid (HN.out _)⟩
          case measure => simp [intOf]; omega
        · have HN := Lib.hid (HGO.out (by rw [hby.out]; rintro (e | e); exact hpb e; exact hl e))
          have hd1 : decide ((by_ : Int) < (hd : Int)) = true := decide_eq_true (by omega)
          have hd2 : decide (by_ < hd) = true := decide_eq_true (by omega)
          clear hpb
          go_wp2_with fail
          go_quiet (with_reducible exact Calls.quiet_of_same (HEL.out _))
          go_wp2_with fail
          refine (HN.out _).mono ?_
          rintro e w3 ⟨rfl, hS3⟩
          have HS3 := Lib.hid hS3
          clear hS3
          go_wp2_with fail
          go_roundw
          case rel => exact ⟨k + 1, by go_num, by omega, HS3⟩
          case measure => simp [intOf]; omega
    · obtain rfl : n = k := by omega
      have HE : Hid (OpenPost w F X h m W (sweep m.by_ b [] L) (.returned (.tuple #[])) wr) := Lib.hid (by
        obtain ⟨⟨v', Fo', kept, q1, q2, q3⟩, q4, q5⟩ := HS.out
        rw [List.drop_of_length_le (by rw [hn.out]; exact Nat.le_refl _)] at q1 q2
        rw [List.append_nil] at q1
        rw [← q2]
        exact ⟨rfl, ⟨_, _, q1.less (fun x hx => .inl hx)⟩, fun x hx => (q4 x (.inl hx)).trans (HB1.out.block x (HX1.out x hx)), Nat.le_trans HB1.out.size q5⟩)
      go_wp2_with fail
      go_end0
      exact HE.out
end
end Go.Proofs.Ytbhdgfpaoghnbaa
