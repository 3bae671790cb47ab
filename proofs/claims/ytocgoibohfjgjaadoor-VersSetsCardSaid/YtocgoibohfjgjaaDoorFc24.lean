/- Contracts of package vers: Read, with the library's SplitSeq. -/
import Derived.Test.YtocgoibohfjgjaaDoorFc24b
import Derived.Test.YtocgoibohfjgjaaDoorRbox
import Derived.Lib.IndexLaws
namespace Go.Proofs.YtocgoibohfjgjaaDoor
open Go.RowKit Go.Shelf
set_option linter.unusedVariables false
set_option maxRecDepth 100000
set_option linter.unusedSimpArgs false
attribute [local go_sem] Oper.semAt_some

namespace Vs
theorem comma_at {r : List Nat} (hr : ∀ c ∈ r, c < 256) : (Go.Lib.indexByte (strOf r).data.toList 44 = -1 ∧ ∀ c ∈ r, c ≠ 44) ∨
    ∃ o : Nat, Go.Lib.indexByte (strOf r).data.toList 44 = (o : Int) ∧ o < r.length ∧ r.getD o 0 = 44 ∧ ∀ j, j < o → r.getD j 0 ≠ 44 := by
  have hl : (strOf r).data.toList = r.map UInt8.ofNat := by simp [strOf]
  have hg : ∀ (k : Nat), (r.map UInt8.ofNat)[k]? = some 44 ↔ (k < r.length ∧ r.getD k 0 = 44) := by
    intro k
    rw [List.getElem?_map]
    by_cases hk : k < r.length
    · rw [List.getElem?_eq_getElem hk]
      simp only [Option.map_some, Option.some.injEq, List.getD, List.getElem?_eq_getElem hk, Option.getD_some]
      have := hr r[k] (List.getElem_mem hk)
      constructor
      · intro h
        refine ⟨hk, ?_⟩
        have h2 := congrArg UInt8.toNat h
        simp at h2
        omega
      · rintro ⟨_, h⟩
        rw [h]; rfl
    · rw [List.getElem?_eq_none (by omega)]
      simp only [Option.map_none]
      constructor
      · intro h; cases h
      · rintro ⟨h, _⟩; exact absurd h hk
  rw [hl]
  have hge := Go.Lib.indexByte_ge (r.map UInt8.ofNat) 44
  by_cases h1 : Go.Lib.indexByte (r.map UInt8.ofNat) 44 = -1
  · refine .inl ⟨h1, fun c hc e => ?_⟩
    obtain ⟨j, hj, hjc⟩ := List.getElem_of_mem hc
    refine Go.Lib.indexByte_none h1 j ((hg j).2 ⟨hj, ?_⟩)
    simp [List.getD, List.getElem?_eq_getElem hj, hjc, e]
  · obtain ⟨o, ho⟩ : ∃ o : Nat, Go.Lib.indexByte (r.map UInt8.ofNat) 44 = (o : Int) := ⟨(Go.Lib.indexByte (r.map UInt8.ofNat) 44).toNat, by omega⟩
    obtain ⟨h2, h3⟩ := Go.Lib.indexByte_some ho
    obtain ⟨h4, h5⟩ := (hg o).1 h2
    exact .inr ⟨o, ho, h4, h5, fun j hj e => h3 j hj ((hg j).2 ⟨by omega, e⟩)⟩
end Vs
theorem Vs.get_in (l : List Nat) : -9223372036854775808 ≤ (Nm.get l).1 ∧ (Nm.get l).1 ≤ 9223372036854775807 := by
  rcases Nm.get_cases l with ⟨_, h, _⟩ | ⟨_, h⟩ | ⟨_, h⟩
  · exact h
  · omega
  · omega
/-- the three blocks in which the library keeps what is left, what it is parted by, and how much of that is kept -/
structure Bx24 (W : World) (b : Nat) (s : ByteArray) : Prop where
  left : W.cell? ⟨b, 0, none⟩ = some (.string s)
  free : W.frozen? ⟨b, 0, none⟩ = false
  sep : W.cell? ⟨b + 1, 0, none⟩ = some (.string ⟨#[44]⟩)
  save : W.cell? ⟨b + 2, 0, none⟩ = some (.int .i64 0)
/-- these blocks are as they were -/
def Kp24 (b : Nat) (A A' : World) : Prop := A.heap.size ≤ A'.heap.size ∧ ∀ k, b ≤ k → k < b + 3 → A'.heap[k]? = A.heap[k]?
theorem Kp24.trans {b : Nat} {X Y Z : World} (h : Kp24 b X Y) (k : Kp24 b Y Z) : Kp24 b X Z := ⟨Nat.le_trans h.1 k.1, fun i h1 h2 => (k.2 i h1 h2).trans (h.2 i h1 h2)⟩
theorem Bx24.keep {b : Nat} {A A' : World} {s : ByteArray} (h : Bx24 A b s) (k : Kp24 b A A') : Bx24 A' b s := by
  have e0 := k.2 b (by omega) (by omega)
  have e1 := k.2 (b + 1) (by omega) (by omega)
  have e2 := k.2 (b + 2) (by omega) (by omega)
  exact ⟨by have := h.left; unfold World.cell? at this ⊢; rw [e0]; exact this, by have := h.free; unfold World.frozen? at this ⊢; rw [e0]; exact this, by have := h.sep; unfold World.cell? at this ⊢; rw [e1]; exact this, by have := h.save; unfold World.cell? at this ⊢; rw [e2]; exact this⟩
/-- how much is left -/
def left24 (W : World) (b : Nat) : Nat := match W.cell? ⟨b, 0, none⟩ with
  | some (.string s) => s.size + 1
  | _ => 0
theorem Bx24.left_is {W : World} {b : Nat} {s : ByteArray} (h : Bx24 W b s) : left24 W b = s.size + 1 := by unfold left24; rw [h.left]
theorem Bx24.cut {W : World} {b : Nat} {s : ByteArray} (h : Bx24 W b s) (t : ByteArray) : Bx24 (W.setCell ⟨b, 0, none⟩ (.string t)) b t := by
  refine ⟨World.cell?_setCell_same' _ _ _ (by rw [h.left]; rfl), by rw [World.frozen?_setCell]; exact h.free, ?_, ?_⟩
  · rw [World.cell?_setCell_other _ _ _ _ (by intro e; injection e; omega)]; exact h.sep
  · rw [World.cell?_setCell_other _ _ _ _ (by intro e; injection e; omega)]; exact h.save
theorem grown24 (W : World) (b : Nat) (v : Value) : W.grownBy (W.setCell ⟨b, 0, none⟩ v) (some b) := by
  refine ⟨rfl, rfl, rfl, (KeepsOthers.setCell W ⟨b, 0, none⟩ v).size, fun k _ hk => ?_⟩
  exact Below.heap_setCell W ⟨b, 0, none⟩ v k (fun e => hk (by rw [e]))

set_option maxHeartbeats 2000000 in
/-- the words of a text, one by one -/
theorem words24 {W : World} {b : Nat} {S : List Nat} (hS : ∀ c ∈ S, c < 256) (hl : S.length ≤ 1000000000) (hX : Bx24 W b (strOf S)) :
    Yields Tryd.prog 33 #[.pointer (some ⟨b + 1, 0, none⟩), .pointer (some ⟨b, 0, none⟩), .pointer (some ⟨b + 2, 0, none⟩)] (fun p : List Nat => Value.string (strOf p)) (fun p => (∀ c ∈ p, c < 256) ∧ p.length ≤ 1000000000) (Kp24 b) b
      (fun ps => (ps.map fun p => Vs.same p 16).flatten = Vs.words S []) W := by
  intro l J hJ hY h0
  refine callsIn_of_wp Tryd.func33 rfl trivial ?_ rfl
  simp only [Tryd.ntmps33, List.size_toArray, List.length_cons, List.length_nil, Nat.reduceAdd, Nat.reduceSub, Array.replicate_succ, Array.replicate_zero, List.push_toArray, List.append_toArray, List.nil_append, List.cons_append]
  have hx1 := hX.sep
  gi_wp2
  gi_loopw [7] (fun _ wr => ∃ (pre : List (List Nat)) (r : List Nat), Hid ((pre.map fun p => Vs.same p 16).flatten ++ Vs.words r [] = Vs.words S []) ∧ (∀ c ∈ r, c < 256) ∧ r.length ≤ 1000000000 ∧ Bx24 wr b (strOf r) ∧ J pre wr) (fun _ wr => left24 wr b)
  case atStart => exact ⟨[], S, Lib.hid (by simp), hS, hl, hX, h0⟩
  case round =>
    obtain ⟨pre, r, HE, hr, hrl, hXr, hj⟩ := hrel
    have hc0 := hXr.left
    have hc1 := hXr.sep
    have hc2 := hXr.save
    have hf0 := hXr.free
    have hsz := (Txt.of hr).size
    have CI := Lib.hid (Tryd.strings_Index_one (strOf r) 44 wr)
    rcases Vs.comma_at hr with ⟨hi, hn⟩ | ⟨o, hi, ho, h44, hn⟩
    · rw [hi] at CI
      obtain ⟨fn, tmps, assign, body, hy, hR⟩ := hY pre r wr ⟨hr, hrl⟩ hj
      clear hi
      gi_wp2_with (refine ⟨trivial, ?_⟩; gi_at_call 35; refine (callsIn_wide.2 CI.out).mono ?_; rintro e w' ⟨rfl, rfl⟩)
      refine hR.mono ?_
      rintro e W3 ⟨rfl, hJ3, hk3⟩
      gi_wp2
      go_end0
      exact ⟨⟨_, rfl⟩, pre ++ [r], by rw [← HE.out, Vs.words_last hn]; simp, hJ3⟩
    · rw [hi] at CI
      have HW := Lib.hid (Vs.words_first ho h44 hn)
      clear hi h44 hn
      have hcut : (strOf r).extract 0 o = strOf (r.take o) := by rw [strOf_extract, List.drop_zero, Nat.sub_zero]
      have hcut2 : (strOf r).extract (o + 1) r.length = strOf (r.drop (o + 1)) := by
        rw [strOf_extract, List.take_of_length_le (by rw [List.length_drop]; omega)]
      have HC2 := Lib.hid hcut2
      obtain ⟨fn, tmps, assign, body, hy, hR⟩ := hY (pre) (r.take o) wr ⟨fun c hc => hr c (List.mem_of_mem_take hc), by rw [List.length_take]; omega⟩ hj
      rw [← hcut] at hy
      clear hcut hcut2
      have HN := Lib.hid (fun (W3 : World) (hk : Kp24 b wr W3) => (hXr.keep hk : Bx24 W3 b (strOf r)))
      have HM := Lib.hid hXr.left_is
      gi_wp2_with (refine ⟨trivial, ?_⟩; gi_at_call 35; refine (callsIn_wide.2 CI.out).mono ?_; rintro e w' ⟨rfl, rfl⟩)
      refine hR.mono ?_
      rintro e W3 ⟨rfl, hJ3, hk3⟩
      have HX3 := Lib.hid (HN.out W3 hk3)
      have d0 := HX3.out.left
      have d1 := HX3.out.sep
      have d2 := HX3.out.free
      gi_wp2
      go_roundw
      case rel =>
        refine ⟨pre ++ [r.take o], r.drop (o + 1), Lib.hid ?_, fun c hc => hr c (List.mem_of_mem_drop hc), by rw [List.length_drop]; omega, ?_, hJ _ _ _ (some b) hJ3 (grown24 _ _ _) (fun r e => by cases e; rfl)⟩
        · rw [← HE.out, HW.out]; simp
        · rw [← HC2.out]; exact HX3.out.cut _
      case measure =>
        rw [HM.out, (HX3.out.cut _).left_is, HC2.out, strOf_size, strOf_size, List.length_drop]; omega
theorem split24_any {w : World} {s : ByteArray} :
    Calls Tryd.prog 23 #[.string s, .string ⟨#[44]⟩] w fun e w' => e = .returned (.func (.func 33) #[] #[.pointer (some ⟨w.heap.size + 1, 0, none⟩), .pointer (some ⟨w.heap.size, 0, none⟩), .pointer (some ⟨w.heap.size + 2, 0, none⟩)]) ∧ Below w.heap.size w w' ∧ Bx24 w' w.heap.size s ∧ w'.heap.size = w.heap.size + 3 := by
  have HB := Lib.hid ((((Below.refl _ w).alloc (Nat.le_refl _) (.cells #[.string s] 9)).alloc (by simp) (.cells #[.string ⟨#[44]⟩] 9)).alloc (by simp; omega) (.cells #[.int .i64 0] 3))
  have HX : Hid (Bx24 (((w.alloc (.cells #[.string s] 9)).alloc (.cells #[.string ⟨#[44]⟩] 9)).alloc (.cells #[.int .i64 0] 3)) w.heap.size s) := Lib.hid ⟨by simp [go_sem], by simp [go_sem], by simp [go_sem], by simp [go_sem]⟩
  go_enter Tryd.func23, Tryd.ntmps23
  go_wp2_with go_in
  go_ret
  exact ⟨rfl, HB.out, HX.out, by simp⟩
set_option maxHeartbeats 4000000 in
theorem cread24_any {w : World} {s : ByteArray} {S : List Nat} (T : Txt s S) (hl : S.length ≤ 1000000000) :
    Calls Tryd.prog 16 #[.string s] w fun e w' => e = .returned (.tuple #[.int .u16 (((Vs.read S).1 : Nat) : Int), .int .i64 (((Vs.read S).2 : Nat) : Int)]) ∧ Below w.heap.size w w' := by
  have hs := T.str
  have hbyte := T.byte
  refine (callsIn_wide (n := 3)).1 ?_
  refine callsIn_of_wp_marks Tryd.func16 rfl trivial ?_ rfl
  simp only [Tryd.ntmps16, List.size_toArray, List.length_cons, List.length_nil, Nat.reduceAdd, Nat.reduceSub, Array.replicate_succ, Array.replicate_zero, List.push_toArray, List.append_toArray, List.nil_append, List.cons_append]
  obtain ⟨w0, hw0⟩ : ∃ w0, w.alloc (.cells #[.int .u16 0] 23) = w0 := ⟨_, rfl⟩
  have hz0 : w0.heap.size = w.heap.size + 1 := by rw [← hw0]; simp
  have hc0 : w0.cell? ⟨w.heap.size, 0, none⟩ = some (.int .u16 0) := by rw [← hw0]; simp
  have hf0 : w0.frozen? ⟨w.heap.size, 0, none⟩ = false := by rw [← hw0]; simp
  have hb0 : Below w.heap.size w w0 := by rw [← hw0]; exact (Below.refl _ w).alloc (Nat.le_refl _) _
  gi_wp2_with (refine ⟨trivial, ?_⟩; gi_at_call 23; refine (callsIn_wide.2 split24_any).mono ?_; rintro e w1 ⟨rfl, hb1, hx1, hz1⟩)
  rw [hz0] at hx1 hz1
  have hc1 : w1.cell? ⟨w.heap.size, 0, none⟩ = some (.int .u16 0) := (hb1.cell (p := ⟨w.heap.size, 0, none⟩) (by show w.heap.size < w0.heap.size; omega)).trans hc0
  have hf1 : w1.frozen? ⟨w.heap.size, 0, none⟩ = false := (hb1.frozen (p := ⟨w.heap.size, 0, none⟩) (by show w.heap.size < w0.heap.size; omega)).trans hf0
  have hbw : Below w.heap.size w w1 := hb0.trans (hb1.mono (by omega))
  clear hc0 hf0 hb0 hw0
  refine range_box (gf := 33) (lb := #[.pointer (some ⟨w.heap.size + 1 + 1, 0, none⟩), .pointer (some ⟨w.heap.size + 1, 0, none⟩), .pointer (some ⟨w.heap.size + 1 + 2, 0, none⟩)]) rfl (enters_of Tryd.func33 (by kernel_rfl) rfl)
    (B := w.heap.size + 1) (by omega) (fun W hW => words24 hbyte hl (hx1.keep ⟨hW.size, fun k h1 h2 => hW.block k (by omega)⟩)) (fun h k => h.trans k)
    (fun W l o' h => ⟨by simp, fun k h1 h2 => World.putObj_heap_other (by omega)⟩)
    (fun pre W => W.cell? ⟨w.heap.size, 0, none⟩ = some (.int .u16 ((Vs.gotN pre : Nat) : Int)) ∧ W.frozen? ⟨w.heap.size, 0, none⟩ = false ∧ Below w.heap.size w W ∧ w.heap.size + 4 ≤ W.heap.size)
    ?bears ⟨hc1, hf1, hbw, by omega⟩
    (fun x => { tmps := #[.string (strOf S), undef, .int .u16 0, .int .i64 0, .pointer (some ⟨w.heap.size, 0, none⟩), .string (strOf x), undef, undef, .string (strOf S), .func (.func 33) #[] #[.pointer (some ⟨w.heap.size + 1 + 1, 0, none⟩), .pointer (some ⟨w.heap.size + 1, 0, none⟩), .pointer (some ⟨w.heap.size + 1 + 2, 0, none⟩)], .string (strOf x), undef, undef, undef, undef, undef, undef, undef, undef, undef, undef, undef, undef, undef, undef], defers := [] }) ?assign ?body ?done
  case bears =>
    rintro s A A' row ⟨h1, h2, h3, h4⟩ hg hr
    have hlt : w.heap.size < A.heap.size := by
      rcases Nat.lt_or_ge w.heap.size A.heap.size with h | h
      · exact h
      · simp [World.cell?, Array.getElem?_eq_none h] at h1
    have e := hg.block w.heap.size hlt (fun e => by rcases hr w.heap.size e.symm with h | ⟨h, _⟩ <;> omega)
    refine ⟨by unfold World.cell? at h1 ⊢; rw [e]; exact h1, by unfold World.frozen? at h2 ⊢; rw [e]; exact h2, h3.grown hg (by omega) (fun k e => ?_), Nat.le_trans h4 hg.size⟩
    rcases hr k e with h | ⟨h, _⟩ <;> omega
  case assign =>
    intro l x W K hK
    gi_wp2
    exact hK
  case body =>
    rintro l pre x W ⟨hx1, hx2⟩ ⟨hc, hf, hB, hsz⟩
    have hmx : Tryd.prog.follows .mixedOrders = true := by kernel_rfl
    have hlt : w.heap.size < W.heap.size := by
      rcases Nat.lt_or_ge w.heap.size W.heap.size with h | h
      · exact h
      · simp [World.cell?, Array.getElem?_eq_none h] at hc
    have HG := Lib.hid (nget_any (Txt.of hx1) (by omega) W)
    have HGo := Lib.hid (Vs.gotN_snoc pre x)
    have H1 := Lib.hid (u16_or_nat _ _ (Vs.gotN_lt pre) (Vs.bit_lt (Nm.get x).1))
    have HIn := Vs.get_in x
    obtain ⟨y, hy⟩ : ∃ y, Hid (Vs.gotN pre = y) := ⟨_, Lib.hid rfl⟩
    rw [hy.out] at hc HGo H1
    obtain ⟨v, hv⟩ : ∃ v, Hid ((Nm.get x).1 = v) := ⟨_, Lib.hid rfl⟩
    rw [hv.out] at HG HGo H1 HIn
    obtain ⟨q, hq⟩ : ∃ q, Hid (Vs.bit v = q) := ⟨_, Lib.hid rfl⟩
    have HBt := Lib.hid (fun W => bit24_any (w := W) HIn.1 HIn.2)
    rw [hq.out] at HGo H1 HBt
    obtain ⟨z, hz⟩ : ∃ z, Hid (y ||| q = z) := ⟨_, Lib.hid rfl⟩
    rw [hz.out] at HGo H1
    have h3 : bits .or .u16 (y : Int) (q : Int) = (z : Int) := H1.out
    clear HIn
    gi_wp2_with (refine ⟨trivial, ?_⟩; gi_at_call 24; refine (CallsIn.inRound l (callsIn_wide.2 HG.out)).mono ?_; rintro e W2 ⟨rfl, hb2⟩)
    have HK2 : Hid (KeepsOthers W W2) := Lib.hid ⟨hb2.size, fun k o hk _ => (hb2.block k (Array.getElem?_eq_some_iff.1 hk).1).trans hk⟩
    have HP2 : Hid (Kp24 (w.heap.size + 1) W W2) := Lib.hid ⟨hb2.size, fun k h1 h2 => hb2.block k (by omega)⟩
    have HB2 := Lib.hid (hB.trans (hb2.mono (by omega)))
    have hc2 := (hb2.cell (p := ⟨w.heap.size, 0, none⟩) hlt).trans hc
    have hf2 := (hb2.frozen (p := ⟨w.heap.size, 0, none⟩) hlt).trans hf
    have HS2 := Lib.hid hb2.size
    clear hb2 hc hf hB
    gi_wp2
    gi_region_with_o (refine ⟨trivial, ?_⟩; gi_at_call 20; refine (CallsIn.inRound l (callsIn_wide.2 (HBt.out _))).mono ?_; rintro e w' ⟨rfl, rfl⟩)
    all_goals gi_wp2
    all_goals (
      refine ⟨HK2.out.trans ((KeepsOthers.setCell _ _ _).trans (KeepsOthers.drew _)), HP2.out.trans ⟨(KeepsOthers.setCell W2 ⟨w.heap.size, 0, none⟩ (.int .u16 (z : Int))).size, fun k h1 h2 => ?_⟩, ?_, ?_, ?_, ?_⟩
      · exact Below.heap_setCell W2 ⟨w.heap.size, 0, none⟩ _ k (by show ¬ k = w.heap.size; omega)
      · rw [HGo.out]; exact World.cell?_setCell_same' _ _ _ (by rw [hc2]; rfl)
      · rw [frozen_drew_own, World.frozen?_setCell]; exact hf2
      · exact HB2.out.trans (((Below.refl w.heap.size W2).setCell (p := ⟨w.heap.size, 0, none⟩) (Nat.le_refl _) _).trans (Below.refl _ _).drew)
      · exact Nat.le_trans hsz (Nat.le_trans HS2.out (KeepsOthers.setCell W2 ⟨w.heap.size, 0, none⟩ (.int .u16 (z : Int))).size))
  case done =>
    rintro D xs W hD hS ⟨hc, hf, hB, hsz⟩ hK
    have HK := Lib.hid hK
    have HD := Lib.hid hD
    have HBw := Lib.hid hB
    have hlt : w.heap.size < W.heap.size := by omega
    have HG : Hid (Vs.gotN xs = Vs.set (Vs.words S [])) := Lib.hid (by unfold Vs.gotN; rw [hS, Vs.orN_set])
    rw [HG.out] at hc
    have HRd : Hid (Vs.read S = if Vs.text (Vs.set (Vs.words S [])) = S then (Vs.set (Vs.words S []), 0) else (0, 3)) := Lib.hid rfl
    have HTt := Lib.hid (Txt.of (Vs.text_byte (Vs.set (Vs.words S []))))
    have heq := HTt.out.eql (Txt.of hbyte)
    have hts := Vs.set_lt (Vs.words S [])
    obtain ⟨z, hz⟩ : ∃ z, Hid (decide (Vs.text (Vs.set (Vs.words S [])) = S) = z) := ⟨_, Lib.hid rfl⟩
    rw [hz.out] at heq
    obtain ⟨t, ht⟩ : ∃ t, Hid (Vs.set (Vs.words S []) = t) := ⟨_, Lib.hid rfl⟩
    rw [ht.out] at HRd HTt heq hts hz hc
    have CT := Lib.hid (ctext24_any (w := W) hts)
    obtain ⟨u, hu⟩ : ∃ u, Hid (strOf (Vs.text t) = u) := ⟨_, Lib.hid rfl⟩
    rw [hu.out] at CT heq
    have HR : Hid (Vs.read S = if z = true then (t, 0) else (0, 3)) := Lib.hid (by
      rw [HRd.out, ← hz.out]
      by_cases h : Vs.text t = S
      · rw [if_pos h, if_pos (decide_eq_true h)]
      · rw [if_neg h, if_neg (by simp [h])])
    clear HG HRd hz ht hK hD hB hS
    have HC : Hid (∀ W2, Below W.heap.size W W2 → W2.cell? ⟨w.heap.size, 0, none⟩ = some (.int .u16 (t : Int)) ∧ Below w.heap.size w W2 ∧ W2.heap[D]? = some (.deferred (some []))) := Lib.hid (fun W2 h =>
      ⟨(h.cell (p := ⟨w.heap.size, 0, none⟩) hlt).trans hc, HBw.out.trans (h.mono (by omega)), (h.block D (Array.getElem?_eq_some_iff.1 HK.out).1).trans HK.out⟩)
    clear hsz
    cases z
    · have HF : Hid (Vs.read S = (0, 3)) := Lib.hid HR.out
      gi_wp2_with (refine ⟨trivial, ?_⟩; gi_at_call 18; refine (callsIn_wide.2 CT.out).mono ?_; rintro e W2 ⟨rfl, hb2⟩; obtain ⟨hc2, hbw2, hK2⟩ := HC.out W2 hb2; clear hb2)
      refine ⟨by simp, .inl ⟨_, _, rfl, run_takeDeferred hK2, ?_⟩⟩
      refine ⟨_, results_tmp2 rfl _ _ _, ?_⟩
      refine ⟨by rw [HF.out]; rfl, hbw2.trans (belowK_b (w := w) (Nat.le_refl _) W2 D _ _ (by have := HD.out; omega) hK2 rfl rfl)⟩
    · have HF : Hid (Vs.read S = (t, 0)) := Lib.hid HR.out
      gi_wp2_with (refine ⟨trivial, ?_⟩; gi_at_call 18; refine (callsIn_wide.2 CT.out).mono ?_; rintro e W2 ⟨rfl, hb2⟩; obtain ⟨hc2, hbw2, hK2⟩ := HC.out W2 hb2; clear hb2)
      refine ⟨by simp, .inl ⟨_, _, rfl, run_takeDeferred hK2, ?_⟩⟩
      refine ⟨_, results_tmp2 rfl _ _ _, ?_⟩
      refine ⟨by rw [HF.out]; rfl, hbw2.trans (belowK_b (w := w) (Nat.le_refl _) W2 D _ _ (by have := HD.out; omega) hK2 rfl rfl)⟩
end Go.Proofs.YtocgoibohfjgjaaDoor
