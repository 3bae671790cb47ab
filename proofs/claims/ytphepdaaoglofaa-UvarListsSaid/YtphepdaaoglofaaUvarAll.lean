/- Contracts of uvar.PutAll, uvar.GetAll, and of the reference's GetAll and Same. -/
import Derived.Test.YtphepdaaoglofaaUvar
import Derived.Test.YtphepdaaoglofaaRef1
import Derived.Test.YtphepdaaoglofaaRegion
import Derived.BigQuiet
import Derived.Deep.QuietTactic
namespace Go.Proofs.Ytphepdaaoglofaa
open Go.RowKit
set_option linter.unusedVariables false

theorem u64T : ElemT Try.prog 33 23 (.int .u64 0) 8 := ⟨Try.underlying33, by kernel_rfl, rfl, by decide⟩

/-- numbers, how many bytes, and an error, the numbers in a row of the call's own -/
def AllPost (base : Nat) (r : List Nat × Nat × Nat) (w : World) (e : Ending) (w' : World) : Prop :=
  ∃ v, e = .returned (.tuple #[v, .int .i64 (r.2.1 : Int), .int .i64 (r.2.2 : Int)]) ∧ w'.ownsRow base 23 1 v r.1.length (ints .u64 r.1) ∧ Below base w w'

/-- what the loop of GetAll has done when it stands at byte j -/
structure Alls (base : Nat) (l : List Nat) (n : Nat) (w : World) (acc : List Nat) (j f : Nat) (v : Value) (wr : World) : Prop where
  same : Um.getAll n l 0 [] = Um.getAll f (l.drop j) j acc
  fuel : (l.drop j).length ≤ f
  few : acc.length ≤ j
  le : j ≤ l.length
  small : acc.length ≤ 1000000000
  own : wr.ownsRow base 23 1 v acc.length (ints .u64 acc)
  below : Below base w wr
  size : base ≤ wr.heap.size

section
variable {base : Nat} {l : List Nat} {n : Nat} {w : World} {acc : List Nat} {j f : Nat} {v v' : Value} {wr w1 : World} {o : Obj}
theorem Alls.start (hn : l.length = n) (ho : w.ownsRow base 23 1 v 0 []) (hb : base ≤ w.heap.size) : Alls base l n w [] 0 n v w :=
  ⟨by simp, by simp [hn], by simp, by omega, by simp, by simpa [ints] using ho, Below.refl _ _, hb⟩
theorem Alls.next (h : Alls base l n w acc j f v wr) (hn : l.length = n) (hj : j < n) (he : (Um.get (l.drop j)).2.2 = 0) (h9 : n ≤ 1000000000)
    (ho : w1.ownsRow base 23 1 v' (acc.length + 1) (ints .u64 acc ++ [.int .u64 ((Um.get (l.drop j)).1 : Int)])) (hg : (wr.alloc o).grownBy w1 v.ownBlock) :
    Alls base l n w (acc ++ [(Um.get (l.drop j)).1]) (j + (Um.get (l.drop j)).2.1) (f - 1) v' w1 := by
  obtain ⟨h1, h2, h3, h4, h5, h6, h7, h8⟩ := h
  have hp : 0 < (l.drop j).length := by rw [List.length_drop]; omega
  have hu := Um.get_used (l.drop j)
  have hq := Um.get_pos he
  obtain ⟨g, rfl⟩ : ∃ g, f = g + 1 := ⟨f - 1, by omega⟩
  obtain ⟨e1, e2⟩ := Um.getAll_good g j acc hp h2 he
  rw [List.length_drop] at hu
  rw [List.drop_drop] at e1 e2
  refine ⟨by rw [h1, e1, Nat.add_sub_cancel], by rw [Nat.add_sub_cancel]; exact e2, by simp; omega, by omega, by simp; omega, ?_, ?_, ?_⟩
  · rw [ints_append, List.length_append]; exact ho
  · exact (h7.alloc h8 o).grown hg (by simp; omega) (fun k hk => (h6.lt k hk).1)
  · have := hg.size; simp at this; omega
theorem Alls.fail (h : Alls base l n w acc j f v wr) (hn : l.length = n) (hj : j < n) (he : (Um.get (l.drop j)).2.2 ≠ 0) : AllPost base (Um.getAll n l 0 []) w (.returned (.tuple #[.slice none 0 0, .int .i64 (j : Int), .int .i64 ((Um.get (l.drop j)).2.2 : Int)])) wr := by
  have hp : 0 < (l.drop j).length := by rw [List.length_drop]; omega
  rw [h.same, Um.getAll_bad f j acc hp h.fuel he]
  exact ⟨_, rfl, World.ownsRow_nil _ _ _ _, h.below⟩
theorem Alls.done (h : Alls base l n w acc j f v wr) (hn : l.length = n) (hj : j = n) : AllPost base (Um.getAll n l 0 []) w (.returned (.tuple #[v, .int .i64 (j : Int), .int .i64 0])) wr := by
  rw [h.same, Um.getAll_end f j acc (by rw [List.length_drop]; omega)]
  exact ⟨_, rfl, h.own, h.below⟩
end

set_option maxRecDepth 100000 in
set_option maxHeartbeats 400000 in
theorem getall_any (base B : Nat) (A : Option Addr) (l : List Nat) (n c : Nat) (w : World) (hn : l.length = n) (hn1 : n ≤ 1000000000) (hc : n ≤ c) (hc1 : c ≤ 9223372036854775807) (hA : Sees .u8 w B A l) (hB : B ≤ base) (hbase : base ≤ w.heap.size) (hb : ∀ x ∈ l, x < 256) :
    Calls Try.prog 14 #[.slice A n c] w (AllPost base (Um.getAll n l 0 []) w) := by
  have HS := Lib.hid (Alls.start hn (World.ownsRow_nil w base 23 1) hbase)
  have Hn := Lib.hid hn
  clear hn
  have HA := Lib.hid hA
  clear hA
  have Hb := Lib.hid hb
  clear hb
  go_enter Try.func14, Try.ntmps14
  go_wp2_with fail
  go_loopw [5, 6] (fun v i wr => ∃ (acc : List Nat) (j f : Nat), i = .int .i64 j ∧ j ≤ n ∧ Hid (Alls base l n w acc j f v wr)) (fun _ i _ => n - (intOf i).toNat)
  case atStart => exact ⟨[], 0, n, rfl, by omega, HS⟩
  case round =>
    obtain ⟨acc, j, f, rfl, hj, HP⟩ := hrel
    by_cases hlt : j < n
    · obtain ⟨b, off, rfl, hbB, _⟩ := HA.out (by rw [Hn.out]; omega)
      have hsj := (HA.out.below (HP.out.below.mono hB)).drop j
      have hcj : ¬ c = j := by omega
      have hge := get_any B (some ⟨b, off + j, none⟩) (l.drop j) (n - j) (c - j) wr (by rw [List.length_drop, Hn.out]) (by omega) hsj (fun x hx => Hb.out x (List.mem_of_mem_drop hx))
      have Hge := Lib.hid hge
      clear hge hsj
      have hpos : 0 < (l.drop j).length := by rw [List.length_drop, Hn.out]; omega
      have hg1 := Um.get_num (l.drop j)
      have hg2 := Um.get_used (l.drop j)
      rw [List.length_drop, Hn.out] at hg2 hpos
      by_cases he : (Um.get (l.drop j)).2.2 = 0
      · have hg3 := Um.get_pos he
        have HN := Lib.hid (fun (v' : Value) (w1 : World) (o : Obj) (h1 : w1.ownsRow base 23 1 v' (acc.length + 1) (ints .u64 acc ++ [.int .u64 ((Um.get (l.drop j)).1 : Int)])) (h2 : (wr.alloc o).grownBy w1 _) => HP.out.next Hn.out hlt he hn1 h1 h2)
        obtain ⟨q, u, e, Hg⟩ : ∃ q u e, Hid (Um.get (l.drop j) = (q, u, e)) := ⟨_, _, _, rfl⟩
        rw [Hg.out] at hg1 hg2 hg3 he HN
        simp only at hg1 hg2 hg3 he
        subst he
        have hz1 := HP.out.size
        go_wp2_with fail
        refine (Hge.out).mono ?_
        rintro e w1 ⟨rfl, rfl⟩
        rw [Hg.out]
        have hal := HP.out.small
        go_wp2_with (at_builtin; refine wpList_append1 u64T _ _ rfl rfl base _ acc.length (ints .u64 acc) rfl rfl rfl HP.out.own (by omega) hz1 ?_; intro v' w1 ho1 hg1)
        go_roundw
        case rel => exact ⟨acc ++ [q], j + u, f - 1, by go_num, by omega, Lib.hid (HN.out v' w1 _ ho1 hg1)⟩
        case measure => simp [intOf]; omega
      · have HE := Lib.hid (HP.out.fail Hn.out hlt he)
        obtain ⟨q, u, e, Hg⟩ : ∃ q u e, Hid (Um.get (l.drop j) = (q, u, e)) := ⟨_, _, _, rfl⟩
        rw [Hg.out] at hg1 hg2 he HE
        simp only at hg1 hg2 he
        have hne : ((e : Int) != 0) = true := by simp; omega
        go_wp2_with fail
        refine (Hge.out).mono ?_
        rintro e w1 ⟨rfl, rfl⟩
        rw [Hg.out]
        go_wp2_with fail
        go_ret3
        exact HE.out
    · go_wp2_with fail
      go_ret3
      exact HP.out.done Hn.out (by omega)

set_option maxRecDepth 100000 in
set_option maxHeartbeats 400000 in
theorem getallr_any (base B : Nat) (A : Option Addr) (l : List Nat) (n c : Nat) (w : World) (hn : l.length = n) (hn1 : n ≤ 1000000000) (hc : n ≤ c) (hc1 : c ≤ 9223372036854775807) (hA : Sees .u8 w B A l) (hB : B ≤ base) (hbase : base ≤ w.heap.size) (hb : ∀ x ∈ l, x < 256) :
    Calls Try.prog 15 #[.slice A n c] w (AllPost base (Um.getAll n l 0 []) w) := by
  have HS := Lib.hid (Alls.start hn (World.ownsRow_nil w base 23 1) hbase)
  have Hn := Lib.hid hn
  clear hn
  have HA := Lib.hid hA
  clear hA
  have Hb := Lib.hid hb
  clear hb
  go_enter Try.func15, Try.ntmps15
  go_wp2_with fail
  go_loopw [5, 6] (fun v i wr => ∃ (acc : List Nat) (j f : Nat), i = .int .i64 j ∧ j ≤ n ∧ Hid (Alls base l n w acc j f v wr)) (fun _ i _ => n - (intOf i).toNat)
  case atStart => exact ⟨[], 0, n, rfl, by omega, HS⟩
  case round =>
    obtain ⟨acc, j, f, rfl, hj, HP⟩ := hrel
    by_cases hlt : j < n
    · obtain ⟨b, off, rfl, hbB, _⟩ := HA.out (by rw [Hn.out]; omega)
      have hsj := (HA.out.below (HP.out.below.mono hB)).drop j
      have hcj : ¬ c = j := by omega
      have hge := getr_any B (some ⟨b, off + j, none⟩) (l.drop j) (n - j) (c - j) wr (by rw [List.length_drop, Hn.out]) (by omega) hsj (fun x hx => Hb.out x (List.mem_of_mem_drop hx))
      have Hge := Lib.hid hge
      clear hge hsj
      have hpos : 0 < (l.drop j).length := by rw [List.length_drop, Hn.out]; omega
      have hg1 := Um.get_num (l.drop j)
      have hg2 := Um.get_used (l.drop j)
      rw [List.length_drop, Hn.out] at hg2 hpos
      by_cases he : (Um.get (l.drop j)).2.2 = 0
      · have hg3 := Um.get_pos he
        have HN := Lib.hid (fun (v' : Value) (w1 : World) (o : Obj) (h1 : w1.ownsRow base 23 1 v' (acc.length + 1) (ints .u64 acc ++ [.int .u64 ((Um.get (l.drop j)).1 : Int)])) (h2 : (wr.alloc o).grownBy w1 _) => HP.out.next Hn.out hlt he hn1 h1 h2)
        obtain ⟨q, u, e, Hg⟩ : ∃ q u e, Hid (Um.get (l.drop j) = (q, u, e)) := ⟨_, _, _, rfl⟩
        rw [Hg.out] at hg1 hg2 hg3 he HN
        simp only at hg1 hg2 hg3 he
        subst he
        have hz1 := HP.out.size
        go_wp2_with fail
        refine (Hge.out).mono ?_
        rintro e w1 ⟨rfl, rfl⟩
        rw [Hg.out]
        have hal := HP.out.small
        go_wp2_with (at_builtin; refine wpList_append1 u64T _ _ rfl rfl base _ acc.length (ints .u64 acc) rfl rfl rfl HP.out.own (by omega) hz1 ?_; intro v' w1 ho1 hg1)
        go_roundw
        case rel => exact ⟨acc ++ [q], j + u, f - 1, by go_num, by omega, Lib.hid (HN.out v' w1 _ ho1 hg1)⟩
        case measure => simp [intOf]; omega
      · have HE := Lib.hid (HP.out.fail Hn.out hlt he)
        obtain ⟨q, u, e, Hg⟩ : ∃ q u e, Hid (Um.get (l.drop j) = (q, u, e)) := ⟨_, _, _, rfl⟩
        rw [Hg.out] at hg1 hg2 he HE
        simp only at hg1 hg2 he
        have hne : ((e : Int) != 0) = true := by simp; omega
        go_wp2_with fail
        refine (Hge.out).mono ?_
        rintro e w1 ⟨rfl, rfl⟩
        rw [Hg.out]
        go_wp2_with fail
        go_ret3
        exact HE.out
    · go_wp2_with fail
      go_ret3
      exact HP.out.done Hn.out (by omega)


/-- what the loop of PutAll, and that of the law, have done when j numbers are written -/
structure Lays (base : Nat) (l : List Nat) (w : World) (j : Nat) (v : Value) (wr : World) : Prop where
  le : j ≤ l.length
  small : ((l.take j).map Um.put).flatten.length ≤ 10 * j
  own : wr.ownsRow base 5 1 v ((l.take j).map Um.put).flatten.length (ints .u8 ((l.take j).map Um.put).flatten)
  below : Below base w wr
  size : base ≤ wr.heap.size

theorem flat_next (l : List Nat) (j : Nat) (hj : j < l.length) : ((l.take (j + 1)).map Um.put).flatten = ((l.take j).map Um.put).flatten ++ Um.put (l.getD j 0) := by
  rw [List.take_succ_eq_append_getElem hj, List.map_append, List.flatten_append]
  simp [List.getD, List.getElem?_eq_getElem hj]
section
variable {base : Nat} {l : List Nat} {w : World} {j : Nat} {v v' : Value} {wr w1 : World}
theorem Lays.start (base : Nat) (l : List Nat) (w : World) (hb : base ≤ w.heap.size) : Lays base l w 0 (.slice none 0 0) w :=
  ⟨by omega, by simp, by simpa [ints] using World.ownsRow_nil w base 5 1, Below.refl _ _, hb⟩
theorem Lays.next (h : Lays base l w j v wr) (hj : j < l.length) (ho : w1.ownsRow base 5 1 v' (((l.take j).map Um.put).flatten ++ Um.put (l.getD j 0)).length (ints .u8 (((l.take j).map Um.put).flatten ++ Um.put (l.getD j 0)))) (hb : Below base wr w1) : Lays base l w (j + 1) v' w1 := by
  obtain ⟨h1, h2, h3, h4, h5⟩ := h
  refine ⟨by omega, ?_, ?_, h4.trans hb, Nat.le_trans h5 hb.size⟩
  · rw [flat_next l j hj, List.length_append]
    have : (Um.put (l.getD j 0)).length ≤ 10 := Um.enc_le 9 _
    omega
  · rw [flat_next l j hj]; exact ho
end

theorem getD_u64 {l : List Nat} (h : ∀ x ∈ l, x < 18446744073709551616) (j : Nat) : l.getD j 0 < 18446744073709551616 := by
  rcases Nat.lt_or_ge j l.length with hj | hj
  · simp only [List.getD, List.getElem?_eq_getElem hj, Option.getD_some]
    exact h _ (List.getElem_mem hj)
  · simp [List.getD, List.getElem?_eq_none hj]

set_option maxRecDepth 100000 in
set_option maxHeartbeats 400000 in
theorem putall_any (base B : Nat) (A : Option Addr) (l : List Nat) (n c : Nat) (w : World) (hn : l.length = n) (hn1 : n ≤ 1000000000) (hA : Sees .u64 w B A l) (hB : B ≤ base) (hbase : base ≤ w.heap.size) (hb : ∀ x ∈ l, x < 18446744073709551616) :
    Calls Try.prog 16 #[.slice A n c] w (Made .u8 5 base (l.map Um.put).flatten w) := by
  have HS := Lib.hid (Lays.start base l w hbase)
  have Hn := Lib.hid hn
  clear hn
  have HA := Lib.hid hA
  clear hA
  have Hb := Lib.hid hb
  clear hb
  go_enter Try.func16, Try.ntmps16
  go_wp2_with fail
  go_loopw [3, 8] (fun v i wr => ∃ (j : Nat), i = .int .i64 j ∧ j ≤ n ∧ Hid (Lays base l w j v wr)) (fun _ i _ => n - (intOf i).toNat)
  case atStart => exact ⟨0, rfl, by omega, HS⟩
  case round =>
    obtain ⟨j, rfl, hj, HP⟩ := hrel
    by_cases hlt : j < n
    · obtain ⟨b, off, rfl, hbB, hcell⟩ := (HA.out.below (HP.out.below.mono hB)).at_ (i := j) (by rw [Hn.out]; exact hlt)
      have hx := getD_u64 Hb.out j
      have hsm := HP.out.small
      have hz := HP.out.size
      have HN := Lib.hid (fun (v' : Value) (w1 : World) h1 (h2 : Below base wr w1) => HP.out.next (v' := v') (by rw [Hn.out]; exact hlt) h1 h2)
      obtain ⟨x, Hx⟩ : ∃ x, Hid (l.getD j 0 = x) := ⟨_, rfl⟩
      rw [Hx.out] at hcell hx HN
      go_wp2_with fail
      refine (put_any base _ _ _ _ (by omega) (by omega) HP.out.own hz (by omega)).mono ?_
      rintro e w1 ⟨v', rfl, ho1, hb1⟩
      rw [Int.toNat_natCast] at ho1
      have HL := Lib.hid (HN.out v' w1 ho1 hb1)
      clear ho1 hb1
      go_wp2_with fail
      go_roundw
      case rel => exact ⟨j + 1, by go_num, by omega, HL⟩
      case measure => simp [intOf]; omega
    · go_wp2_with fail
      go_ret
      have e : l.take j = l := List.take_of_length_le (by rw [Hn.out]; omega)
      have ho := HP.out.own
      rw [e] at ho
      exact ⟨_, rfl, ho, HP.out.below⟩

set_option maxRecDepth 100000 in
set_option maxHeartbeats 400000 in
theorem same_any (l : List Nat) (n : Nat) (hn : l.length = n) (hn1 : n ≤ 1000000000) (B : Nat) (A1 A2 : Option Addr) (c1 c2 : Nat) (w : World) (h1 : Sees .u64 w B A1 l) (h2 : Sees .u64 w B A2 l) :
    Calls Try.prog 17 #[.slice A1 n c1, .slice A2 n c2] w fun e w' => e = .returned (.bool true) ∧ ∃ k, w' = w.drewN k := by
  have Hn := Lib.hid hn
  clear hn
  have H1 := Lib.hid h1
  have H2 := Lib.hid h2
  clear h1 h2
  go_enter Try.func17, Try.ntmps17
  go_wp2_with fail
  go_loopw [5] (fun i wr => ∃ (j k : Nat), i = .int .i64 j ∧ j ≤ n ∧ wr = w.drewN k) (fun i _ => n - (intOf i).toNat)
  case atStart => exact ⟨0, 0, rfl, by omega, rfl⟩
  case round =>
    obtain ⟨j, k, rfl, hj, rfl⟩ := hrel
    by_cases hlt : j < n
    · obtain ⟨b, off, rfl, _, hc1⟩ := H1.out.at_ (i := j) (by rw [Hn.out]; exact hlt)
      obtain ⟨b', off', rfl, _, hc2⟩ := H2.out.at_ (i := j) (by rw [Hn.out]; exact hlt)
      obtain ⟨x, Hx⟩ : ∃ x, Hid (l.getD j 0 = x) := ⟨_, rfl⟩
      rw [Hx.out] at hc1 hc2
      have hj0 : (0 : Int) ≤ (j : Int) := by omega
      have hj1 : (j : Int) < (n : Int) := by omega
      go_wp2_with fail
      go_quiet (fail)
      go_wp2_with fail
      go_roundw
      case rel => exact ⟨j + 1, _, by go_num, by omega, rfl⟩
      case measure => simp [intOf]; omega
    · go_wp2_with fail
      go_ret
      exact ⟨rfl, _, rfl⟩
end Go.Proofs.Ytphepdaaoglofaa
