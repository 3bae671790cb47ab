/- Contract of layer 22's reference: Tick. -/
import Derived.Test.YtkpmlhhoijijhaaRnew22
import Derived.Test.YtkpmlhhoijijhaaPA
namespace Go.Proofs.Ytkpmlhhoijijhaa
open Go.RowKit
set_option linter.unusedVariables false
set_option maxRecDepth 100000
set_option linter.unusedSimpArgs false

/-- the list behind a tick, with the things that its messages are -/
def tickL (m : Tm.Lim) (L : List (Tm.One × Nat)) : List (Tm.One × Nat) := (L.map (fun x => (Tm.older x.1, x.2))).filter (fun x => decide (x.1.age ≤ m.ex))
theorem tickL_ones (m : Tm.Lim) (L : List (Tm.One × Nat)) : ones (tickL m L) = Tm.tick m (ones L) := by
  unfold tickL ones Tm.tick
  induction L with
  | nil => rfl
  | cons x L ih =>
    simp only [List.map_cons, List.filter_cons]
    split
    · rw [List.map_cons, ih]
    · exact ih
theorem tickL_gs (m : Tm.Lim) (L : List (Tm.One × Nat)) : ((tickL m L).map gsOf).Sublist (L.map gsOf) := by
  have h1 : (tickL m L).Sublist (L.map (fun x => (Tm.older x.1, x.2))) := List.filter_sublist
  have h2 := h1.map gsOf
  have e : (L.map (fun x => (Tm.older x.1, x.2))).map gsOf = L.map gsOf := by rw [List.map_map]; rfl
  rw [e] at h2
  exact h2
theorem tickL_len (m : Tm.Lim) (L : List (Tm.One × Nat)) : (tickL m L).length ≤ L.length := by
  have h1 : (tickL m L).Sublist (L.map (fun x => (Tm.older x.1, x.2))) := List.filter_sublist
  have := h1.length_le
  simpa using this
theorem tickL_take {m : Tm.Lim} {L : List (Tm.One × Nat)} {k : Nat} (h : k < L.length) : tickL m (L.take (k + 1)) = tickL m (L.take k) ++ (if L[k].1.age + 1 ≤ m.ex then [(Tm.older L[k].1, L[k].2)] else []) := by
  unfold tickL
  rw [List.take_succ_eq_append_getElem h, List.map_append, List.filter_append]
  congr 1
  simp only [List.map_cons, List.map_nil, List.filter_cons, List.filter_nil, Tm.older]
  by_cases h1 : L[k].1.age + 1 ≤ m.ex
  · simp [h1]
  · simp [h1]
/-- what Tick's loop has done when it stands at k -/
structure Tis (w : World) (m : Tm.Lim) (L : List (Tm.One × Nat)) (k : Nat) (v : Value) (wr : World) : Prop where
  own : wr.ownsRow w.heap.size 64 7 v (tickL m (L.take k)).length (rowsOf fOe (tickL m (L.take k)))
  below : Below w.heap.size w wr
theorem Tis.skip {w wr w1 : World} {m : Tm.Lim} {L : List (Tm.One × Nat)} {k : Nat} {v : Value} (h : Tis w m L k v wr) (hk : k < L.length) (he : ¬ L[k].1.age + 1 ≤ m.ex) (hb : Below wr.heap.size wr w1) : Tis w m L (k + 1) v w1 := by
  refine ⟨?_, h.below.trans (hb.mono h.below.size)⟩
  rw [tickL_take hk, if_neg he, List.append_nil]
  exact own_below h.own hb
theorem Tis.next {w wr w1 w2 : World} {m : Tm.Lim} {L : List (Tm.One × Nat)} {k : Nat} {v v' : Value} {o : Obj} (h : Tis w m L k v wr) (hk : k < L.length) (he : L[k].1.age + 1 ≤ m.ex) (hb : Below wr.heap.size wr w1)
    (ho : w2.ownsRow w.heap.size 64 7 v' ((tickL m (L.take k)).length + 1) (rowsOf fOe (tickL m (L.take k)) ++ fOe (Tm.older L[k].1, L[k].2))) (hg : (w1.alloc o).grownBy w2 v.ownBlock) : Tis w m L (k + 1) v' w2 := by
  have hz := h.below.size
  refine ⟨?_, ((h.below.trans (hb.mono hz)).alloc (by have := hb.size; omega) o).grown hg (by have := hb.size; simp; omega) (fun q hq => (h.own.lt q hq).1)⟩
  rw [tickL_take hk, if_pos he, rowsOf_append, rowsOf_one, List.length_append]
  exact ho
theorem oneW22 {cs : Array Value} (h : cs.size = 7) : (Try.prog.info? 64).map (·.size) = some cs.size := by rw [h]; kernel_rfl
set_option maxHeartbeats 2000000 in
theorem rtick22_any {w : World} {F : Nat → Prop} {h : Nat} {vl : Value} {m : Tm.Lim} {L : List (Tm.One × Nat)} {Fo : Nat → Nat → Prop} (r : RtAt w F h vl m L Fo) (hL : L.length ≤ 1000) (hag : ∀ x ∈ L, x.1.age ≤ 1000) (hex : m.ex ≤ 1000) :
    Calls Try.prog 10 #[.pointer (some ⟨h, 0, none⟩)] w fun e w' => e = .returned (.tuple #[]) ∧ (∃ v, RtAt w' (Wide F w w') h v m (tickL m L) Fo) ∧ Foot F w w' := by
  obtain ⟨A, cp, rfl, hle, hmx⟩ := r.shape
  have hc3 := r.c3
  have hh := r.lt h r.self
  have HC := Lib.hid (fun i (hi : i < L.length) => r.cells hi)
  have HA := Lib.hid (fun i (hi : i < L.length) => hag _ (List.getElem_mem hi))
  have HW := Lib.hid (fun (wr : World) (v : Value) (hW : Tis w m L L.length v wr) => r.swap (tickL_gs m L) hW.below (by have := hW.own; rwa [List.take_length] at this))
  have HX := Lib.hid (fun (wr : World) (hW : Below w.heap.size w wr) => (r.whole.below hW hh))
  have HLn := Lib.hid (fun k => Nat.le_trans (tickL_len m (L.take k)) (by rw [List.length_take]; omega : (L.take k).length ≤ L.length))
  obtain ⟨n, hn⟩ : ∃ n, Hid (L.length = n) := ⟨_, Lib.hid rfl⟩
  unfold maxLen at hmx
  rw [hn.out] at hle hL hc3 HW HLn
  rw [hn.out] at HX
  have H0 : Hid (Tis w m L 0 (.slice none 0 0) w) := Lib.hid ⟨by simpa [rowsOf, tickL] using World.ownsRow_nil w w.heap.size 64 7, Below.refl _ _⟩
  obtain ⟨ex, hex'⟩ : ∃ ex, Hid (m.ex = ex) := ⟨_, Lib.hid rfl⟩
  rw [hex'.out] at hex HX
  clear r hag
  go_enter Try.func10, Try.ntmps10
  go_wp2_with fail
  go_loopw [2, 3] (fun v i wr => ∃ k : Nat, i = .int .i64 k ∧ k ≤ n ∧ Hid (Tis w m L k v wr)) (fun _ i _ => n - (intOf i).toNat)
  case atStart => exact ⟨0, rfl, Nat.zero_le _, H0⟩
  case round =>
    obtain ⟨k, rfl, hk, HP⟩ := hrel
    have hW := HX.out wr HP.out.below
    have hc3' : wr.cell? ⟨h, 3, none⟩ = some (.slice A n cp) := hW.at_ 3
    obtain ⟨Av, cv, rfl, hlv, hmv, _, _⟩ := own_look HP.out.own
    unfold maxLen at hmv
    by_cases hlt : k < n
    · have hkl : k < L.length := by rw [hn.out]; exact hlt
      obtain ⟨B, rfl, hB, hcell⟩ := HC.out k hkl
      have hcw : ∀ j, j < 7 → wr.cell? ⟨B, k * 7 + j, none⟩ = (fOe L[k])[j]? := fun j hj => (HP.out.below.cell (p := ⟨B, k * 7 + j, none⟩) hB).trans (hcell j hj)
      have HNx := Lib.hid (fun w1 w2 v' o' (he : L[k].1.age + 1 ≤ m.ex) => HP.out.next (v' := v') (w1 := w1) (w2 := w2) (o := o') hkl he)
      have HSk := Lib.hid (fun w1 (he : ¬ L[k].1.age + 1 ≤ m.ex) => HP.out.skip (w1 := w1) hkl he)
      have hage := HA.out k hkl
      obtain ⟨o, ho⟩ : ∃ o, Hid (L[k] = o) := ⟨_, Lib.hid rfl⟩
      rw [ho.out] at hcw HNx HSk hage
      rw [hex'.out] at HNx HSk
      obtain ⟨⟨sn, ep, di, co, ve, ag, ps⟩, go⟩ := o
      simp only at hage HNx HSk
      have h0 : wr.cell? ⟨B, k * 7, none⟩ = some (.int .u16 (sn : Int)) := hcw 0 (by omega)
      have h1 : wr.cell? ⟨B, k * 7 + 1, none⟩ = some (.int .u32 (ep : Int)) := hcw 1 (by omega)
      have h2 : wr.cell? ⟨B, k * 7 + 2, none⟩ = some (.int .u32 (di : Int)) := hcw 2 (by omega)
      have h3 : wr.cell? ⟨B, k * 7 + 3, none⟩ = some (.int .u16 (co : Int)) := hcw 3 (by omega)
      have h4 : wr.cell? ⟨B, k * 7 + 4, none⟩ = some (.int .u8 (ve : Int)) := hcw 4 (by omega)
      have h5 : wr.cell? ⟨B, k * 7 + 5, none⟩ = some (.int .i64 (ag : Int)) := hcw 5 (by omega)
      have h6 : wr.cell? ⟨B, k * 7 + 6, none⟩ = some (.pointer (some ⟨go, 0, none⟩)) := hcw 6 (by omega)
      have hWh := hW
      obtain ⟨g, hg⟩ : ∃ g, wr.heap.size = g := ⟨_, rfl⟩
      obtain ⟨wa, hwa⟩ : ∃ W, wr.alloc (.cells #[.int .u16 0, .int .u32 0, .int .u32 0, .int .u16 0, .int .u8 0, .int .i64 0, .pointer none] 64) = W := ⟨_, rfl⟩
      have HW1 : Hid (Whole wa g 64 #[.int .u16 0, .int .u32 0, .int .u32 0, .int .u16 0, .int .u8 0, .int .i64 0, .pointer none]) := Lib.hid (by rw [← hwa, ← hg]; exact Whole.made _ _ _)
      obtain ⟨wb, hwb⟩ : ∃ W, wa.setRow g #[.int .u16 (sn : Int), .int .u32 (ep : Int), .int .u32 (di : Int), .int .u16 (co : Int), .int .u8 (ve : Int), .int .i64 (ag : Int), .pointer (some ⟨go, 0, none⟩)] = W := ⟨_, rfl⟩
      have HW2 : Hid (Whole wb g 64 #[.int .u16 (sn : Int), .int .u32 (ep : Int), .int .u32 (di : Int), .int .u16 (co : Int), .int .u8 (ve : Int), .int .i64 (ag : Int), .pointer (some ⟨go, 0, none⟩)]) := Lib.hid (by rw [← hwb]; exact HW1.out.row _)
      have hb1 : Below g wr wb := by rw [← hwb]; exact below_row (by rw [← hwa, ← hg]; exact (Below.refl _ _).alloc (Nat.le_refl _) _) (Nat.le_refl _) _
      have b5 : wb.cell? ⟨g, 5, none⟩ = some (.int .i64 (ag : Int)) := HW2.out.at_ 5
      have f5 : wb.frozen? ⟨g, 5, none⟩ = false := HW2.out.free 5
      obtain ⟨ag1, hag1⟩ : ∃ ag1, ag + 1 = ag1 := ⟨_, rfl⟩
      have hwr1 : IntKind.i64.wrap ((ag : Int) + 1) = (ag1 : Int) := by rw [IntKind.wrap_i64]; omega
      obtain ⟨wc, hwc⟩ : ∃ W, wb.setCell ⟨g, 5, none⟩ (.int .i64 (ag1 : Int)) = W := ⟨_, rfl⟩
      have HW3 : Hid (Whole wc g 64 #[.int .u16 (sn : Int), .int .u32 (ep : Int), .int .u32 (di : Int), .int .u16 (co : Int), .int .u8 (ve : Int), .int .i64 (ag1 : Int), .pointer (some ⟨go, 0, none⟩)]) := Lib.hid (by rw [← hwc]; have := HW2.out.put 5 (.int .i64 (ag1 : Int)); simpa using this)
      have hb2 : Below g wr wc := by rw [← hwc]; exact hb1.setCell (Nat.le_refl _) _
      have HB2 : Hid (Below wr.heap.size wr wc) := Lib.hid (by rw [hg]; exact hb2)
      have hhg : h < g := by rw [← hg]; exact hW.lt
      have hWc := hW.below hb2 hhg
      have c5 : wc.cell? ⟨g, 5, none⟩ = some (.int .i64 (ag1 : Int)) := HW3.out.at_ 5
      have c2 : wc.cell? ⟨h, 2, none⟩ = some (.int .i64 (ex : Int)) := hWc.at_ 2
      rw [hag1] at HNx HSk
      have HAG := Lib.hid hag1
      by_cases hkeep : ag1 ≤ ex
      · have hd : decide ((ag1 : Int) ≤ (ex : Int)) = true := decide_eq_true (by omega)
        have hd2 : decide (ag1 ≤ ex) = true := decide_eq_true hkeep
        have hqn := HLn.out k
        have HO : Hid (∀ q, (wc.drewN q).ownsRow w.heap.size 64 7 (.slice Av (tickL m (L.take k)).length cv) (tickL m (L.take k)).length (rowsOf fOe (tickL m (L.take k)))) := Lib.hid (fun q => own_below HP.out.own (HB2.out.trans (below_draws _ _ q)))
        have HR := Lib.hid (fun q w2 v' o' => HNx.out (wc.drewN q) w2 v' o' hkeep (HB2.out.trans (below_draws _ _ q)))
        obtain ⟨q, hq⟩ : ∃ q, Hid ((tickL m (L.take k)).length = q) := ⟨_, Lib.hid rfl⟩
        rw [hq.out] at hqn hlv HO HR
        rw [hq.out]
        have hbz := HP.out.below.size
        have hbz2 := HB2.out.size
        clear hb1 hb2 hcell hcw hW hWh hWc hkeep hhg HNx HSk hag1
        go_wp2_with (refine wpList_store_whole rfl rfl rfl rfl rfl HW1.out (oneW22 rfl) rfl (by simp [Value.oneCell']) ?_; rw [hwb])
        go_quiet (fail)
        obtain ⟨wd, hwd⟩ : ∃ W, wc.drewN nq = W := ⟨_, rfl⟩
        have HO2 : Hid (wd.ownsRow w.heap.size 64 7 (.slice Av q cv) q (rowsOf fOe (tickL m (L.take k)))) := Lib.hid (by rw [← hwd]; exact HO.out nq)
        have HR2 := Lib.hid (fun w2 v' o' => HR.out nq w2 v' o')
        have HW4 : Hid (Whole wd g 64 #[.int .u16 (sn : Int), .int .u32 (ep : Int), .int .u32 (di : Int), .int .u16 (co : Int), .int .u8 (ve : Int), .int .i64 (ag1 : Int), .pointer (some ⟨go, 0, none⟩)]) := Lib.hid (by rw [← hwd]; exact HW3.out)
        have hz4 : wc.heap.size = wd.heap.size := by rw [← hwd]; rfl
        rw [hwd] at HR2
        rw [hwd]
        clear hwd
        go_wp2_with (first
          | (refine wpList_load_struct Try.underlying64 (oneW22 rfl) rfl rfl rfl HW4.out ?_)
          | (at_builtin; refine wpList_append_cells oneT22 oneI22 rfl (by decide) (by decide) _ _ rfl rfl w.heap.size (.slice Av q cv) q (rowsOf fOe (tickL m (L.take k))) rfl (HO2.out.alloc _) 1 1 (fOe (⟨sn, ep, di, co, ve, ag1, ps⟩, go)) rfl rfl (fun h => by cases h) (by decide) (src_cells _ _ _ _) (fOe_one _) (by omega) (by simp; omega) ?_; intro v' w2 hr hg hv))
        go_roundw
        case rel => exact ⟨k + 1, by go_num, by omega, Lib.hid (HR2.out w2 v' _ (by rw [← HAG.out] at hr; exact hr) hg)⟩
        case measure => simp [intOf]; omega
      · have hd : decide ((ag1 : Int) ≤ (ex : Int)) = false := decide_eq_false (by omega)
        have hd2 : decide (ag1 ≤ ex) = false := decide_eq_false hkeep
        have HR := Lib.hid (fun q => HSk.out (wc.drewN q) hkeep (HB2.out.trans (below_draws _ _ q)))
        clear hb1 hb2 hcell hcw hW hWh hWc hkeep hhg HNx HSk hag1
        go_wp2_with (refine wpList_store_whole rfl rfl rfl rfl rfl HW1.out (oneW22 rfl) rfl (by simp [Value.oneCell']) ?_; rw [hwb])
        go_quiet (fail)
        go_wp2_with fail
        go_roundw
        case rel => exact ⟨k + 1, by go_num, by omega, Lib.hid (HR.out _)⟩
        case measure => simp [intOf]; omega
    · obtain rfl : k = n := by omega
      have hf3 : wr.frozen? ⟨h, 3, none⟩ = false := hW.free 3
      obtain ⟨HR1, HR2⟩ := HW.out wr _ HP.out
      have HR1 := Lib.hid HR1
      have HR2 := Lib.hid HR2
      clear hW
      go_wp2_with fail
      go_end0
      exact ⟨rfl, ⟨_, HR1.out⟩, HR2.out⟩
end Go.Proofs.Ytkpmlhhoijijhaa
