/- Contract of utf.Quote. -/
import Derived.Test.YtlelhoghbgbciaaUtf
import Derived.Test.YtlelhoghbgbciaaBytes
import Derived.Test.YtlelhoghbgbciaaRegion
import Derived.Lib.AppendStr
namespace Go.Proofs.Ytlelhoghbgbciaa
open Go.RowKit
set_option linter.unusedVariables false

theorem own_iterAt {w : World} {base t n k pos : Nat} {v : Value} {xs : List Value} {s : ByteArray} (h : w.ownsRow base t 1 v n xs) (hk : k < base) : (w.iterAt k s pos).ownsRow base t 1 v n xs := by
  refine ⟨h.1, ?_⟩
  rcases h.2 with h2 | ⟨g, c, cur, hv, hg, hh, r⟩
  · exact .inl h2
  · exact .inr ⟨g, c, cur, hv, hg, by rw [Lib.iterAt_other _ _ _ _ _ (by omega)]; exact hh, r⟩

/-- what the loop of Quote has done when it stands at byte pos -/
structure Quo (s : ByteArray) (l : List Nat) (w : World) (acc : List Nat) (pos : Nat) (v : Value) (wr : World) : Prop where
  own : wr.ownsRow (w.heap.size + 1) 5 1 v acc.length (ints .u8 acc)
  iter : wr.heap[w.heap.size]? = some (.stringIter s pos)
  below : Below w.heap.size w wr
  size : w.heap.size + 1 ≤ wr.heap.size
  same : Tm.words l = acc ++ Tm.words (l.drop pos)
  few : acc.length ≤ 4 * pos
section
variable {s : ByteArray} {l : List Nat} {w : World} {acc : List Nat} {pos : Nat} {v v' : Value} {wr w1 : World}
theorem Quo.start (s : ByteArray) (l : List Nat) (w : World) : Quo s l w [] 0 (.slice none 0 0) (w.iter s 0) :=
  ⟨World.ownsRow_nil _ _ _ _, World.iter_heap w s 0, below_iter w s 0, by simp [World.iter], by simp, by simp⟩
theorem Quo.moved (h : Quo s l w acc pos v wr) (q : Nat) : (wr.iterAt w.heap.size s q).ownsRow (w.heap.size + 1) 5 1 v acc.length (ints .u8 acc) ∧ (wr.iterAt w.heap.size s q).heap[w.heap.size]? = some (.stringIter s q) ∧
    Below w.heap.size w (wr.iterAt w.heap.size s q) ∧ w.heap.size + 1 ≤ (wr.iterAt w.heap.size s q).heap.size :=
  ⟨own_iterAt h.own (by omega), Lib.iterAt_heap wr _ s pos q h.iter, Lib.below_iterAt h.below (Nat.le_refl _) s q, by rw [Lib.iterAt_size]; exact h.size⟩
/-- a part was appended in the world W that has the iterator moved on -/
theorem Quo.next (h : Quo s l w acc pos v wr) (hp : pos < l.length) {W : World} {p : List Nat} (hpp : Tm.word1 ((l.drop pos).take (Tm.step (l.drop pos))) = p)
    (hW1 : W.heap[w.heap.size]? = some (.stringIter s (pos + Tm.step (l.drop pos)))) (hW2 : Below w.heap.size w W) (hW3 : w.heap.size + 1 ≤ W.heap.size) (hW4 : W.ownsRow (w.heap.size + 1) 5 1 v acc.length (ints .u8 acc))
    (ho : w1.ownsRow (w.heap.size + 1) 5 1 v' (acc.length + p.length) (ints .u8 acc ++ ints .u8 p)) (hg : W.grownBy w1 v.ownBlock) :
    Quo s l w (acc ++ p) (pos + Tm.step (l.drop pos)) v' w1 := by
  obtain ⟨h1, h2, h3, h4, h5, h6⟩ := h
  have hne := Tm.drop_ne hp
  have hwl := Tm.word1_length ((l.drop pos).take (Tm.step (l.drop pos))) (by rw [Tm.step_piece hne _ (Nat.le_refl _), List.length_take]; have := Tm.step_le hne; omega)
  rw [hpp] at hwl
  have hsp := Tm.step_pos (l.drop pos)
  refine ⟨by rw [ints_append, List.length_append]; exact ho, ?_, hW2.grown hg (by omega) (fun k hk => by have := (hW4.lt k hk).1; omega), Nat.le_trans hW3 hg.size, ?_, by rw [List.length_append]; omega⟩
  · rw [hg.block _ (by omega) (fun e => by have := (hW4.lt _ e.symm).1; omega)]; exact hW1
  · rw [h5, Tm.words_step hne, hpp, List.drop_drop, List.append_assoc]
theorem Quo.done (h : Quo s l w acc pos v wr) (hp : ¬ pos < l.length) (hl : l ≠ []) : acc = Tm.quote l := by
  have := h.same
  rw [List.drop_eq_nil_of_le (by omega), Tm.words_nil, List.append_nil] at this
  unfold Tm.quote
  rw [if_neg hl, this]
end

/-- the digits -/
theorem digits_at (n : Nat) (h : n < (⟨#[48, 49, 50, 51, 52, 53, 54, 55, 56, 57, 97, 98, 99, 100, 101, 102]⟩ : ByteArray).size) : ((⟨#[48, 49, 50, 51, 52, 53, 54, 55, 56, 57, 97, 98, 99, 100, 101, 102]⟩ : ByteArray)[n]'h).toNat = Tm.hex n := by
  have h' : n < 16 := h
  have : n = 0 ∨ n = 1 ∨ n = 2 ∨ n = 3 ∨ n = 4 ∨ n = 5 ∨ n = 6 ∨ n = 7 ∨ n = 8 ∨ n = 9 ∨ n = 10 ∨ n = 11 ∨ n = 12 ∨ n = 13 ∨ n = 14 ∨ n = 15 := by omega
  rcases this with rfl | rfl | rfl | rfl | rfl | rfl | rfl | rfl | rfl | rfl | rfl | rfl | rfl | rfl | rfl | rfl <;> rfl

set_option maxRecDepth 100000 in
set_option maxHeartbeats 800000 in
theorem quote_any {s : ByteArray} {l : List Nat} (T : Txt s l) (hl : l.length ≤ 10000000000) (w : World) :
    Calls Try.prog 16 #[.string s] w fun e w' => e = .returned (.string (strOf (Tm.quote l))) ∧ Below w.heap.size w w' := by
  have hsz := T.size
  have Hem : Hid ((s.toList == []) = decide (l = [])) := Lib.hid (T.eql_lit [])
  by_cases hl0 : l = []
  · subst hl0
    have he : (s.toList == []) = true := by have := Hem.out; rw [decide_eq_true rfl] at this; exact this
    clear Hem
    go_enter Try.func16, Try.ntmps16
    go_wp2_with fail
    go_ret
    exact ⟨rfl, Below.refl _ _⟩
  have he : (s.toList == []) = false := by have := Hem.out; rw [decide_eq_false hl0] at this; exact this
  clear Hem
  have HS := Lib.hid (Quo.start s l w)
  go_enter Try.func16, Try.ntmps16
  go_wp2_with fail
  go_loopw [3] (fun v wr => ∃ (acc : List Nat) (pos : Nat), pos ≤ l.length ∧ Hid (Quo s l w acc pos v wr)) (fun _ wr => s.size - wr.iterPos w.heap.size)
  case atStart => exact ⟨[], 0, by omega, HS⟩
  case round =>
    clear HS
    obtain ⟨acc, pos, hpos, HQ⟩ := hrel
    have hit := HQ.out.iter
    by_cases hp : pos < l.length
    · have hnx : ∀ ty, (Instr.next (.pointer (some ⟨w.heap.size, 0, none⟩)) true ty).run Try.prog wr = _ := fun ty => Lib.run_next_any_at wr w.heap.size s pos ty hit (by omega)
      have hd := Tm.decode_step T hp
      have hs1 := Tm.step_pos (l.drop pos)
      have hs2 := Tm.step_le (Tm.drop_ne hp)
      rw [List.length_drop] at hs2
      rw [hd] at hnx
      have C1 := Lib.hid (fun W => isStray_any T pos hp (by omega) W)
      have Henc := Lib.hid (fun h => Tm.encode_left T hp h)
      have Hleft := Lib.hid (Tm.decode_left T hp)
      have hdl := decode_le s pos
      obtain ⟨d, Hd⟩ : ∃ d, Hid ((Utf8.decode s pos).1 = d) := ⟨_, rfl⟩
      rw [Hd.out] at hnx C1 Henc Hleft hdl
      clear hd
      obtain ⟨m1, m2, m3, m4⟩ := HQ.out.moved (pos + Tm.step (l.drop pos))
      have HN := Lib.hid (fun (p : List Nat) (v' : Value) (w1 : World) (W : World) => HQ.out.next (v' := v') (w1 := w1) (W := W) hp (p := p))
      have hfew := HQ.out.few
      have hmea : wr.iterPos w.heap.size = pos := by simp [World.iterPos, hit]
      have M1 := Lib.hid m1
      have M2 := Lib.hid m2
      have M3 := Lib.hid m3
      have M4 := Lib.hid m4
      clear m1 m2 m3 HQ
      obtain ⟨k, Hk⟩ : ∃ k, Hid (Tm.step (l.drop pos) = k) := ⟨_, rfl⟩
      rw [Hk.out] at hnx hs1 hs2 Henc Hleft M1 M2 M3 M4 HN m4
      obtain ⟨W0, HW0⟩ : ∃ W0, Hid (wr.iterAt w.heap.size s (pos + k) = W0) := ⟨_, rfl⟩
      rw [HW0.out] at hnx M1 M2 M3 M4 m4
      by_cases hleft : Tm.left ((l.drop pos).take k) = true
      · obtain ⟨hnr, hnw⟩ := Hleft.out.1 hleft
        have hencd := Henc.out hnw
        have hpl : ((l.drop pos).take k).length = k := by rw [List.length_take, List.length_drop]; omega
        have hbt : ∀ x ∈ (l.drop pos).take k, x < 256 := fun x hx => T.byte x (List.mem_of_mem_drop (List.mem_of_mem_take hx))
        have hk4 : k ≤ 4 := by rw [← Hk.out]; have := Tm.wid_le4 (l.drop pos); unfold Tm.step; split <;> omega
        have Hw1 : Hid (Tm.word1 ((l.drop pos).take k) = (l.drop pos).take k) := Lib.hid (by unfold Tm.word1; rw [if_pos hleft])
        have Hcells := Lib.hid (Txt.of hbt).cells
        have hse : (strOf ((l.drop pos).take k)).size = k := by rw [strOf_size, hpl]
        have HNR := Lib.hid hnr
        have HPL := Lib.hid hpl
        clear hnr hbt hpl Hleft
        go_wp2_with fail
        refine (isReplaced_any d hdl _).mono ?_
        rintro e w1 ⟨rfl, rfl⟩
        rw [decide_eq_false HNR.out]
        go_wp2_with fail
        refine (C1.out _).mono ?_
        rintro e w1 ⟨rfl, rfl⟩
        rw [decide_eq_false hnw]
        go_wp2_with (at_builtin; refine Lib.wpList_append_own_string (P := Try.prog) _ rfl (.tmp 35) (.tmp 37) 39 9 rfl (w.heap.size + 1) 5 _ Try.underlying39 Try.underlying9 rfl rfl rfl rfl _ acc.length (ints .u8 acc) rfl M1.out _ rfl (by unfold maxLen; omega) (by omega) m4 ?_; intro v' w1 ho1 hg1 _)
        go_roundw
        case rel =>
          refine ⟨acc ++ (l.drop pos).take k, pos + k, by omega, Lib.hid (HN.out _ v' w1 _ Hw1.out M2.out M3.out M4.out M1.out ?_ hg1)⟩
          rw [HPL.out, ← Hcells.out]
          rw [hse] at ho1
          exact ho1
        case measure =>
          have := (HN.out _ v' w1 _ Hw1.out M2.out M3.out M4.out M1.out (by rw [HPL.out, ← Hcells.out]; rw [hse] at ho1; exact ho1) hg1).iter
          simp only [World.iterPos, this, hit]
          omega
      · obtain ⟨c, Hc⟩ : ∃ c, Hid (l.getD pos 0 = c) := ⟨_, rfl⟩
        have hat : ∀ (h : pos < s.size), (s[pos]'h).toNat = c := fun h => by rw [← Hc.out]; exact T.at_ pos h
        have hc := getD_lt T.byte pos
        rw [Hc.out] at hc
        have hdig := digits_at
        have Hw1 : Hid (Tm.word1 ((l.drop pos).take k) = [37, Tm.hex (c / 16), Tm.hex (c % 16)]) := Lib.hid (by
          unfold Tm.word1
          rw [if_neg hleft, ← Hk.out, Tm.piece_first l pos, ← Hc.out]
          simp [List.getD])
        obtain ⟨q, Hq⟩ : ∃ q, Hid (c / 16 = q) := ⟨_, rfl⟩
        obtain ⟨r, Hr⟩ : ∃ r, Hid (c % 16 = r) := ⟨_, rfl⟩
        rw [Hq.out, Hr.out] at Hw1
        have hq16 : (c : Int) / 16 = (q : Int) := by have := Hq.out; omega
        have hr16 : (c : Int) % 16 = (r : Int) := by have := Hr.out; omega
        have hq : q < 16 := by have := Hq.out; omega
        have hr : r < 16 := by have := Hr.out; omega
        have hr16' : (c : Int).tmod 16 = (r : Int) := by rw [Int.tmod_eq_emod_of_nonneg (by omega)]; exact hr16
        have hq' : (q : Int) < 16 := by omega
        have hr' : (r : Int) < 16 := by omega
        have Hh1 : Hid (Tm.hex q < 256) := Lib.hid (by have := Tm.hex_facts hq; omega)
        have Hh2 : Hid (Tm.hex r < 256) := Lib.hid (by have := Tm.hex_facts hr; omega)
        have Hstray : Hid (¬ (d ≤ 32 ∨ d = 127 ∨ d = 37) → Tm.wid (l.drop pos) = 0) := Lib.hid (fun h => by
          rcases Nat.eq_zero_or_pos (Tm.wid (l.drop pos)) with h0 | h0
          · exact h0
          · exact absurd (Hleft.out.2 ⟨h, by omega⟩) hleft)
        clear Hleft Henc
        go_wp2_with fail
        refine (isReplaced_any d hdl _).mono ?_
        rintro e w1 ⟨rfl, rfl⟩
        by_cases hrep : d ≤ 32 ∨ d = 127 ∨ d = 37
        · rw [decide_eq_true hrep]
          clear hrep Hstray
          go_wp2_with fail
          refine wp_region_plan (S := fun _ => True) [(0, true), (1, true), (2, true), (3, true), (4, true), (5, true), (6, true), (7, true), (8, true), (9, true), (10, true), (11, false), (12, false), (13, true)] (by kernel_rfl) (by kernel_rfl) rfl (by kernel_rfl) (fun _ _ _ _ _ h => h) trivial ?_
          iterate 11
            refine along_take (v := ?_) rfl (by rfl) ?_ ?_
            rotate_left
            · intro W hW; go_simp; try with_reducible rfl
            simp only [Act.put, List.setIfInBounds_toArray, List.set_cons_zero, List.set_cons_succ]
          refine along_step rfl (fun K hK => ?_)
          go_simp
          refine hK.out _ _ trivial ?_
          clear hK K
          try simp only [Act.put, List.setIfInBounds_toArray, List.set_cons_zero, List.set_cons_succ]
          have ho0 : (w1.alloc (.cells #[.int .u8 37, .int .u8 (Tm.hex q : Int), .int .u8 (Tm.hex r : Int)] 5)).drew.ownsRow (w.heap.size + 1) 5 1 u3 acc.length (ints .u8 acc) := M1.out.alloc _
          have hs1 : Sees .u8 (w1.alloc (.cells #[.int .u8 37, .int .u8 (Tm.hex q : Int), .int .u8 (Tm.hex r : Int)] 5)).drew (w1.heap.size + 1) (some ⟨w1.heap.size, 0, none⟩) [37, Tm.hex q, Tm.hex r] := sees_new w1.heap.size _ _ _ rfl rfl
          refine along_step rfl (fun K hK => ?_)
          refine step_append_row byteT _ _ rfl rfl (w.heap.size + 1) _ acc.length _ rfl ho0 3 3 rfl rfl (fun h => by cases h) hs1 (by omega) (by simp; omega) ?_
          intro v2 w2 ho2 hg2
          refine hK.out _ _ trivial ?_
          clear hK K hs1
          try simp only [Act.put, List.setIfInBounds_toArray, List.set_cons_zero, List.set_cons_succ]
          refine along_take (v := ?_) rfl (by rfl) ?_ ?_
          rotate_left
          · intro W hW; go_simp; try with_reducible rfl
          simp only [Act.put, List.setIfInBounds_toArray, List.set_cons_zero, List.set_cons_succ]
          refine along_done ?_
          have HQ2 := Lib.hid (HN.out [37, Tm.hex q, Tm.hex r] v2 w2 (w1.alloc (.cells #[.int .u8 37, .int .u8 (Tm.hex q : Int), .int .u8 (Tm.hex r : Int)] 5)).drew Hw1.out ((Lib.alloc_old _ _ _ (by omega)).trans M2.out) (M3.out.alloc (by omega) _).drew (by simp; omega) ho0 ho2 hg2)
          clear ho0 ho2 hg2
          go_wp2_with fail
          go_roundw
          case rel => exact ⟨_, pos + k, by omega, HQ2⟩
          case measure =>
            have := HQ2.out.iter
            simp only [World.iterPos, this, hit]
            omega
        · rw [decide_eq_false hrep]
          go_wp2_with fail
          refine (C1.out _).mono ?_
          rintro e w1 ⟨rfl, rfl⟩
          rw [decide_eq_true (Hstray.out hrep)]
          clear hrep Hstray
          go_wp2_with fail
          refine wp_region_plan (S := fun _ => True) [(0, true), (1, true), (2, true), (3, true), (4, true), (5, true), (6, true), (7, true), (8, true), (9, true), (10, true), (11, false), (12, false), (13, true)] (by kernel_rfl) (by kernel_rfl) rfl (by kernel_rfl) (fun _ _ _ _ _ h => h) trivial ?_
          iterate 11
            refine along_take (v := ?_) rfl (by rfl) ?_ ?_
            rotate_left
            · intro W hW; go_simp; try with_reducible rfl
            simp only [Act.put, List.setIfInBounds_toArray, List.set_cons_zero, List.set_cons_succ]
          refine along_step rfl (fun K hK => ?_)
          go_simp
          refine hK.out _ _ trivial ?_
          clear hK K
          try simp only [Act.put, List.setIfInBounds_toArray, List.set_cons_zero, List.set_cons_succ]
          have ho0 : (w1.alloc (.cells #[.int .u8 37, .int .u8 (Tm.hex q : Int), .int .u8 (Tm.hex r : Int)] 5)).drew.ownsRow (w.heap.size + 1) 5 1 u3 acc.length (ints .u8 acc) := M1.out.alloc _
          have hs1 : Sees .u8 (w1.alloc (.cells #[.int .u8 37, .int .u8 (Tm.hex q : Int), .int .u8 (Tm.hex r : Int)] 5)).drew (w1.heap.size + 1) (some ⟨w1.heap.size, 0, none⟩) [37, Tm.hex q, Tm.hex r] := sees_new w1.heap.size _ _ _ rfl rfl
          refine along_step rfl (fun K hK => ?_)
          refine step_append_row byteT _ _ rfl rfl (w.heap.size + 1) _ acc.length _ rfl ho0 3 3 rfl rfl (fun h => by cases h) hs1 (by omega) (by simp; omega) ?_
          intro v2 w2 ho2 hg2
          refine hK.out _ _ trivial ?_
          clear hK K hs1
          try simp only [Act.put, List.setIfInBounds_toArray, List.set_cons_zero, List.set_cons_succ]
          refine along_take (v := ?_) rfl (by rfl) ?_ ?_
          rotate_left
          · intro W hW; go_simp; try with_reducible rfl
          simp only [Act.put, List.setIfInBounds_toArray, List.set_cons_zero, List.set_cons_succ]
          refine along_done ?_
          have HQ2 := Lib.hid (HN.out [37, Tm.hex q, Tm.hex r] v2 w2 (w1.alloc (.cells #[.int .u8 37, .int .u8 (Tm.hex q : Int), .int .u8 (Tm.hex r : Int)] 5)).drew Hw1.out ((Lib.alloc_old _ _ _ (by omega)).trans M2.out) (M3.out.alloc (by omega) _).drew (by simp; omega) ho0 ho2 hg2)
          clear ho0 ho2 hg2
          go_wp2_with fail
          go_roundw
          case rel => exact ⟨_, pos + k, by omega, HQ2⟩
          case measure =>
            have := HQ2.out.iter
            simp only [World.iterPos, this, hit]
            omega
    · have hnx : ∀ ty, (Instr.next (.pointer (some ⟨w.heap.size, 0, none⟩)) true ty).run Try.prog wr = _ := fun ty => Lib.run_next_end_at wr w.heap.size s pos ty hit (by omega)
      have hacc := HQ.out.done hp hl0
      have hcv := conv_own (dst := 9) Try.underlying39 Try.underlying5 Try.underlying9 HQ.out.own
      rw [hacc] at hcv
      clear hacc
      go_wp2_with fail
      go_ret
      exact ⟨rfl, HQ.out.below⟩
end Go.Proofs.Ytlelhoghbgbciaa
