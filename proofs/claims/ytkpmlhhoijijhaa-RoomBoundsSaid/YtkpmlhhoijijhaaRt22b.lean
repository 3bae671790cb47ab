/- Contracts of layer 22's reference: Held, without. -/
import Derived.Test.YtkpmlhhoijijhaaRt22
import Derived.Test.YtkpmlhhoijijhaaBl
namespace Go.Proofs.Ytkpmlhhoijijhaa
open Go.RowKit
set_option linter.unusedVariables false
set_option maxRecDepth 100000
set_option linter.unusedSimpArgs false

theorem held_ones_take {L : List (Tm.One × Nat)} {k : Nat} (h : k < L.length) : Tm.held (ones (L.take (k + 1))) = Tm.held (ones (L.take k)) + L[k].1.s.size := by
  unfold ones
  rw [List.take_succ_eq_append_getElem h, List.map_append, Tm.held_append]
  simp [Tm.held]
theorem held_take_le (L : List (Tm.One × Nat)) (k : Nat) : Tm.held (ones (L.take k)) ≤ Tm.held (ones L) := Tm.held_sub ((List.take_sublist k L).map _)
set_option maxHeartbeats 1000000 in
theorem rheld22_any {w : World} {F : Nat → Prop} {h : Nat} {vl : Value} {m : Tm.Lim} {L : List (Tm.One × Nat)} {Fo : Nat → Nat → Prop} (r : RtAt w F h vl m L Fo) (hL : L.length ≤ 1000) (hs : Tm.held (ones L) ≤ 1000000000) :
    Calls Try.prog 15 #[.pointer (some ⟨h, 0, none⟩)] w fun e w' => e = .returned (.int .i64 (Tm.held (ones L) : Int)) ∧ w = w' := by
  obtain ⟨A, cp, rfl, hle, hmx⟩ := r.shape
  have hc3 := r.c3
  have HC := Lib.hid (fun i (hi : i < L.length) => r.cells hi)
  have HB := Lib.hid (fun i (hi : i < L.length) => r.bag.rp _ (List.getElem_mem hi))
  have HT := Lib.hid (fun k (hk : k < L.length) => held_ones_take hk)
  have HLe := Lib.hid (fun k => held_take_le L k)
  obtain ⟨n, hn⟩ : ∃ n, Hid (L.length = n) := ⟨_, Lib.hid rfl⟩
  obtain ⟨z, hz⟩ : ∃ z, Hid (Tm.held (ones L) = z) := ⟨_, Lib.hid rfl⟩
  unfold maxLen at hmx
  rw [hn.out] at hle hL hc3
  rw [hz.out] at hs HLe ⊢
  clear r
  go_enter Try.func15, Try.ntmps15
  go_wp2_with fail
  go_loop [3, 4] (fun u v => ∃ k q : Nat, v = .int .i64 k ∧ u = .int .i64 q ∧ k ≤ n ∧ Hid (q = Tm.held (ones (L.take k)))) (fun _ v => n - (intOf v).toNat)
  case atStart => exact ⟨0, 0, rfl, rfl, Nat.zero_le _, Lib.hid (by simp [ones, Tm.held])⟩
  case round =>
    obtain ⟨k, q, rfl, rfl, hk, HP⟩ := hrel
    by_cases hlt : k < n
    · have hkl : k < L.length := by rw [hn.out]; exact hlt
      obtain ⟨B, rfl, hB, hcell⟩ := HC.out k hkl
      have h6 := hcell 6 (by omega)
      have HQ := Lib.hid (HT.out k hkl)
      have hQl := HLe.out (k + 1)
      have HR := HB.out k hkl
      obtain ⟨g, hg⟩ : ∃ g, Hid (L[k].2 = g) := ⟨_, Lib.hid rfl⟩
      have e6 : (fOe L[k])[6]? = some (.pointer (some ⟨g, 0, none⟩)) := by rw [← hg.out]; rfl
      rw [e6] at h6
      obtain ⟨y, hy⟩ : ∃ y, Hid (L[k].1.s.size = y) := ⟨_, Lib.hid rfl⟩
      rw [hy.out, ← HP.out] at HQ
      rw [HQ.out] at hQl
      rw [hg.out] at HR
      have C := Lib.hid (rsize21_any HR (by rw [hy.out]; omega))
      rw [hy.out] at C
      have hw : IntKind.i64.wrap ((q : Int) + (y : Int)) = ((q + y : Nat) : Int) := by rw [IntKind.wrap_i64]; omega
      clear hcell e6 HR
      go_wp2_with fail
      refine (C.out).mono ?_
      rintro e w1 ⟨rfl, rfl⟩
      go_wp2_with fail
      go_round
      case rel => exact ⟨k + 1, q + y, by go_num, rfl, by omega, Lib.hid HQ.out.symm⟩
      case measure => simp [intOf]; omega
    · obtain rfl : k = n := by omega
      have HE : Hid (q = z) := Lib.hid (by rw [HP.out, List.take_of_length_le (by rw [hn.out]; exact Nat.le_refl _), hz.out])
      go_wp2_with fail
      go_ret
      exact ⟨by rw [HE.out]; rfl, rfl⟩
/-- what without's loop has done when it stands at k -/
structure Wos (w : World) (L : List (Tm.One × Nat)) (a k : Nat) (v : Value) (wr : World) : Prop where
  own : wr.ownsRow w.heap.size 64 7 v ((L.take k).eraseIdx a).length (rowsOf fOe ((L.take k).eraseIdx a))
  below : Below w.heap.size w wr
theorem wos_same {L : List (Tm.One × Nat)} {a k : Nat} (h : k < L.length) (he : k = a) : (L.take (k + 1)).eraseIdx a = (L.take k).eraseIdx a := by
  subst he
  rw [List.take_succ_eq_append_getElem h, List.eraseIdx_append_of_length_le (by rw [List.length_take]; omega), List.length_take, Nat.min_eq_left (by omega), Nat.sub_self, List.eraseIdx_of_length_le (l := L.take k) (by rw [List.length_take]; omega)]
  simp
theorem wos_more {L : List (Tm.One × Nat)} {a k : Nat} (h : k < L.length) (he : k ≠ a) : (L.take (k + 1)).eraseIdx a = (L.take k).eraseIdx a ++ [L[k]] := by
  rw [List.take_succ_eq_append_getElem h]
  rcases Nat.lt_or_ge a k with h1 | h1
  · rw [List.eraseIdx_append_of_lt_length (by rw [List.length_take]; omega)]
  · rw [List.eraseIdx_append_of_length_le (by rw [List.length_take]; omega), List.length_take, Nat.min_eq_left (by omega), List.eraseIdx_of_length_le (l := L.take k) (by rw [List.length_take]; omega), List.eraseIdx_of_length_le (l := [L[k]]) (by simp; omega)]
theorem Wos.next {w wr w2 : World} {L : List (Tm.One × Nat)} {a k : Nat} {v v' : Value} {o : Obj} (h : Wos w L a k v wr) (hk : k < L.length) (he : k ≠ a)
    (ho : w2.ownsRow w.heap.size 64 7 v' (((L.take k).eraseIdx a).length + 1) (rowsOf fOe ((L.take k).eraseIdx a) ++ fOe L[k])) (hg : (wr.alloc o).grownBy w2 v.ownBlock) : Wos w L a (k + 1) v' w2 := by
  refine ⟨?_, (h.below.alloc h.below.size o).grown hg (by have := h.below.size; simp; omega) (fun q hq => (h.own.lt q hq).1)⟩
  rw [wos_more hk he, rowsOf_append, rowsOf_one, List.length_append]
  exact ho
/-- what of an element tells which thing it is, and how it stands -/
def gsOf (x : Tm.One × Nat) : Nat × Pm.S := (x.2, x.1.s)
theorem gs_mem {L L' : List (Tm.One × Nat)} (hs : (L'.map gsOf).Sublist (L.map gsOf)) {x : Tm.One × Nat} (hx : x ∈ L') : ∃ y ∈ L, y.2 = x.2 ∧ y.1.s = x.1.s := by
  obtain ⟨y, hy, e⟩ := List.mem_map.1 (hs.subset (List.mem_map.2 ⟨x, hx, rfl⟩))
  exact ⟨y, hy, (Prod.mk.inj e).1, (Prod.mk.inj e).2⟩
theorem Bag.subg {w : World} {Fo : Nat → Nat → Prop} {L L' : List (Tm.One × Nat)} (b : Bag w Fo L) (hs : (L'.map gsOf).Sublist (L.map gsOf)) : Bag w Fo L' := by
  refine ⟨fun x hx => ?_, fun x hx y hy hne => ?_, ?_⟩
  · obtain ⟨y, hy, e1, e2⟩ := gs_mem hs hx
    rw [← e1, ← e2]; exact b.rp y hy
  · obtain ⟨x', hx', e1, _⟩ := gs_mem hs hx
    obtain ⟨y', hy', e2, _⟩ := gs_mem hs hy
    rw [← e1, ← e2] at hne ⊢
    exact b.aside x' hx' y' hy' hne
  · have h1 := (hs.map (fun x => x.1)).nodup (by rw [List.map_map]; exact b.once)
    rw [List.map_map] at h1
    exact h1
/-- another list is set in -/
theorem RtAt.swap {w wr : World} {F : Nat → Prop} {h : Nat} {vl v : Value} {m : Tm.Lim} {L L' : List (Tm.One × Nat)} {Fo : Nat → Nat → Prop} (r : RtAt w F h vl m L Fo) (hs : (L'.map gsOf).Sublist (L.map gsOf)) (hb : Below w.heap.size w wr)
    (ho : wr.ownsRow w.heap.size 64 7 v L'.length (rowsOf fOe L')) : RtAt (wr.setCell ⟨h, 3, none⟩ v) (Wide F w (wr.setCell ⟨h, 3, none⟩ v)) h v m L' Fo ∧ Foot F w (wr.setCell ⟨h, 3, none⟩ v) := by
  have hh := r.lt h r.self
  have hz : (wr.setCell ⟨h, 3, none⟩ v).heap.size = wr.heap.size := World.size_setCell ..
  have hw : Whole wr h 48 _ := r.whole.below hb hh
  refine ⟨⟨by simpa using hw.put 3 v, own_same (own_lower1 ho (Nat.zero_le _)) (fun b hb' => Below.heap_setCell _ _ _ _ (by have := (ho.lt b hb').1; intro e; simp at e; omega)), .inl r.self, fun b hb' => ?_, (r.bag.subg hs).keep (fun x hx b hb' => ?_), fun x hx b hb' => ?_, ?_⟩, (Foot.of_below (F := F) hb).setCell 3 v r.self⟩
  · have := ho.lt b hb'
    exact ⟨.inr ⟨this.1, by rw [hz]; exact this.2⟩, by omega⟩
  · obtain ⟨y, hy, e, _⟩ := gs_mem hs hx
    rw [← e] at hb'
    obtain ⟨h1, h2, _⟩ := r.fo y hy b hb'
    rw [Below.heap_setCell _ _ _ _ (by intro e; exact h2 e), hb.block b (r.lt b h1)]
  · obtain ⟨y, hy, e, _⟩ := gs_mem hs hx
    rw [← e] at hb'
    obtain ⟨h1, h2, _⟩ := r.fo y hy b hb'
    refine ⟨.inl h1, h2, fun e => ?_⟩
    have := (ho.lt b e).1
    have := r.lt b h1
    omega
  · intro b hb'
    rcases hb' with hb' | hb'
    · have := r.lt b hb'; have := hb.size; omega
    · exact hb'.2
set_option maxHeartbeats 2000000 in
theorem rwithout22_any {w : World} {F : Nat → Prop} {h : Nat} {vl : Value} {m : Tm.Lim} {L : List (Tm.One × Nat)} {Fo : Nat → Nat → Prop} (r : RtAt w F h vl m L Fo) (hL : L.length ≤ 1000) (at_ : Int) (a : Nat) (ha : at_ = (a : Int) ∨ (at_ = -1 ∧ L.length ≤ a)) :
    Calls Try.prog 31 #[.pointer (some ⟨h, 0, none⟩), .int .i64 at_] w fun e w' => e = .returned (.tuple #[]) ∧ (∃ v, RtAt w' (Wide F w w') h v m (L.eraseIdx a) Fo ∧ ∀ b, v.ownBlock = some b → w.heap.size ≤ b) ∧ Foot F w w' := by
  obtain ⟨A, cp, rfl, hle, hmx⟩ := r.shape
  have R := Lib.hid r
  have hc3 := r.c3
  have hh := r.lt h r.self
  have HC := Lib.hid (fun i (hi : i < L.length) => r.cells hi)
  have HW := Lib.hid (fun (wr : World) (v : Value) (hW : Wos w L a L.length v wr) => r.swap ((List.eraseIdx_sublist L a).map gsOf) hW.below (by have := hW.own; rwa [List.take_length] at this))
  have HX := Lib.hid (fun (wr : World) (hW : Below w.heap.size w wr) => (r.whole.below hW hh))
  have heq : Hid (∀ k, k < L.length → k = a → ((k : Int) != at_) = false) := Lib.hid (fun k hk e => by simp; omega)
  have hne : Hid (∀ k, k < L.length → k ≠ a → ((k : Int) != at_) = true) := Lib.hid (fun k hk e => by simp; omega)
  have HS := Lib.hid (fun k hk (he : k = a) => wos_same (L := L) hk he)
  obtain ⟨n, hn⟩ : ∃ n, Hid (L.length = n) := ⟨_, Lib.hid rfl⟩
  unfold maxLen at hmx
  rw [hn.out] at hle hL hc3 HW heq hne
  rw [hn.out] at HX
  have H0 : Hid (Wos w L a 0 (.slice none 0 0) w) := Lib.hid ⟨by simpa [rowsOf] using World.ownsRow_nil w w.heap.size 64 7, Below.refl _ _⟩
  clear r ha
  go_enter Try.func31, Try.ntmps31
  go_wp2_with fail
  go_loopw [4, 5] (fun v i wr => ∃ k : Nat, i = .int .i64 k ∧ k ≤ n ∧ Hid (Wos w L a k v wr)) (fun _ i _ => n - (intOf i).toNat)
  case atStart => exact ⟨0, rfl, Nat.zero_le _, H0⟩
  case round =>
    obtain ⟨k, rfl, hk, HP⟩ := hrel
    have hW := HX.out wr HP.out.below
    have hc3' : wr.cell? ⟨h, 3, none⟩ = some (.slice A n cp) := hW.at_ 3
    obtain ⟨Av, cv, rfl, hlv, hmv, _, _⟩ := own_look HP.out.own
    unfold maxLen at hmv
    by_cases hlt : k < n
    · have hkl : k < L.length := by rw [hn.out]; exact hlt
      by_cases hka : k = a
      · have hd := heq.out k hlt hka
        have HN : Hid (Wos w L a (k + 1) (.slice Av ((L.take k).eraseIdx a).length cv) wr) := Lib.hid ⟨by rw [HS.out k hkl hka]; exact HP.out.own, HP.out.below⟩
        clear hka
        go_wp2_with fail
        go_roundw
        case rel => exact ⟨k + 1, by go_num, by omega, HN⟩
        case measure => simp [intOf]; omega
      · have hd := hne.out k hlt hka
        obtain ⟨B, rfl, hB, hcell⟩ := HC.out k hkl
        have hcw : ∀ j, j < 7 → wr.cell? ⟨B, k * 7 + j, none⟩ = (fOe L[k])[j]? := fun j hj => (HP.out.below.cell (p := ⟨B, k * 7 + j, none⟩) hB).trans (hcell j hj)
        obtain ⟨o, ho⟩ : ∃ o, Hid (L[k] = o) := ⟨_, Lib.hid rfl⟩
        rw [ho.out] at hcw
        have h0 : wr.cell? ⟨B, k * 7, none⟩ = some (.int .u16 (o.1.sender : Int)) := hcw 0 (by omega)
        have h1 : wr.cell? ⟨B, k * 7 + 1, none⟩ = some (.int .u32 (o.1.epoch : Int)) := hcw 1 (by omega)
        have h2 : wr.cell? ⟨B, k * 7 + 2, none⟩ = some (.int .u32 (o.1.id : Int)) := hcw 2 (by omega)
        have h3 : wr.cell? ⟨B, k * 7 + 3, none⟩ = some (.int .u16 (o.1.count : Int)) := hcw 3 (by omega)
        have h4 : wr.cell? ⟨B, k * 7 + 4, none⟩ = some (.int .u8 (o.1.version : Int)) := hcw 4 (by omega)
        have h5 : wr.cell? ⟨B, k * 7 + 5, none⟩ = some (.int .i64 (o.1.age : Int)) := hcw 5 (by omega)
        have h6 : wr.cell? ⟨B, k * 7 + 6, none⟩ = some (.pointer (some ⟨o.2, 0, none⟩)) := hcw 6 (by omega)
        have HO := Lib.hid HP.out.own
        have hql : ((L.take k).eraseIdx a).length ≤ 1000 := Nat.le_trans (List.length_eraseIdx_le ..) (by rw [List.length_take]; omega)
        have HNx := Lib.hid (fun v' w2 o' => HP.out.next (v' := v') (w2 := w2) (o := o') hkl hka)
        rw [ho.out] at HNx
        obtain ⟨q, hq⟩ : ∃ q, Hid (((L.take k).eraseIdx a).length = q) := ⟨_, Lib.hid rfl⟩
        rw [hq.out] at HO hql hlv HNx
        rw [hq.out]
        have hbz := HP.out.below.size
        clear hcell hcw hka
        go_wp2_with (at_builtin; refine wpList_append_cells oneT22 oneI22 rfl (by decide) (by decide) _ _ rfl rfl w.heap.size (.slice Av q cv) q (rowsOf fOe ((L.take k).eraseIdx a)) rfl (HO.out.alloc _) 1 1 (fOe o) rfl rfl (fun h => by cases h) (by decide) (src_cells _ _ _ _) (fOe_one o) (by omega) (by simp; omega) ?_; intro v' w2 hr hg hv)
        go_roundw
        case rel => exact ⟨k + 1, by go_num, by omega, Lib.hid (HNx.out v' w2 _ hr hg)⟩
        case measure => simp [intOf]; omega
    · obtain rfl : k = n := by omega
      have hf3 : wr.frozen? ⟨h, 3, none⟩ = false := hW.free 3
      obtain ⟨HR1, HR2⟩ := HW.out wr _ HP.out
      have HR3 := Lib.hid (fun b hb => (HP.out.own.lt b hb).1)
      have HR1 := Lib.hid HR1
      have HR2 := Lib.hid HR2
      clear hW
      go_wp2_with fail
      go_end0
      exact ⟨rfl, ⟨_, HR1.out, HR3.out⟩, HR2.out⟩
end Go.Proofs.Ytkpmlhhoijijhaa
