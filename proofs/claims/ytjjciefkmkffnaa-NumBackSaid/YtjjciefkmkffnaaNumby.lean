/- Contracts of num.Bytes, Unbytes. -/
import Derived.Test.YtjjciefkmkffnaaNum
namespace Go.Proofs.Ytjjciefkmkffnaa
open Go.RowKit
set_option linter.unusedVariables false

theorem cut2 (g : Nat) (W : World) : (Instr.sliceAt 42 (.pointer (some ⟨g, 0, none⟩)) none none none).run Try.prog W = .ok (.slice (some ⟨g, 0, none⟩) 2 2) W := by
  have hl : Try.prog.arrayLen 42 = 2 := by kernel_rfl
  have he : Try.prog.elem 42 = 5 := by kernel_rfl
  rw [run_sliceAt_array_all W 42 _ (by kernel_rfl), hl, he]
  have hs : (sizeOf 5).run Try.prog W = .ok 1 W := by
    go_simp
  rw [hs]
  simp [slicedAt, Addr.add]

/-- what the loop of Bytes has done when the first j bytes are written -/
structure Pairs (l : List Nat) (w : World) (j : Nat) (v : Value) (wr : World) : Prop where
  own : wr.ownsRow w.heap.size 5 1 v (2 * j) (ints .u8 (Nm.flat (l.take j)))
  below : Below w.heap.size w wr
  size : w.heap.size ≤ wr.heap.size
section
variable {l : List Nat} {w : World} {j : Nat} {v v' : Value} {wr W w1 : World}
theorem Pairs.start (ho : w1.ownsRow w.heap.size 5 1 v 0 []) (hg : w.grownBy w1 none) : Pairs l w 0 v w1 :=
  ⟨by simpa [Nm.flat, ints] using ho, (Below.refl _ w).grown hg (Nat.le_refl _) (fun k hk => by cases hk), hg.size⟩
theorem Pairs.next (h : Pairs l w j v wr) (hj : j < l.length) {x : Nat} (hx : l.getD j 0 = x) (hW : Below w.heap.size w W) (hW2 : w.heap.size ≤ W.heap.size) (hW3 : W.ownsRow w.heap.size 5 1 v (2 * j) (ints .u8 (Nm.flat (l.take j))))
    (ho : w1.ownsRow w.heap.size 5 1 v' (2 * j + 2) (ints .u8 (Nm.flat (l.take j)) ++ ints .u8 (Nm.pair x))) (hg : W.grownBy w1 v.ownBlock) : Pairs l w (j + 1) v' w1 := by
  refine ⟨?_, hW.grown hg hW2 (fun k hk => (hW3.lt k hk).1), Nat.le_trans hW2 hg.size⟩
  rw [take_next hj, hx, Nm.flat_snoc, ints_append]
  exact ho
end

set_option maxRecDepth 100000 in
set_option maxHeartbeats 800000 in
theorem nbytes_any (B : Nat) (A : Option Addr) (l : List Nat) (n c : Nat) (w : World) (hn : l.length = n) (hn2 : n ≤ 1000000000) (hc : A = none → c = 0) (hB : B ≤ w.heap.size) (hs : Sees .u8 w B A l) (hb : ∀ x ∈ l, x < 256) :
    Calls Try.prog 11 #[.slice A n c] w fun e w' => e = .returned (.string (strOf (Nm.bytes l))) ∧ Below w.heap.size w w' := by
  by_cases h0 : n = 0
  · subst h0
    have hl : l = [] := List.eq_nil_of_length_eq_zero hn
    subst hl
    go_enter Try.func11, Try.ntmps11
    go_wp2_with fail
    go_ret
    exact ⟨rfl, Below.refl _ _⟩
  · have h0' : ((n : Int) == 0) = false := by simp; omega
    obtain ⟨m, Hm⟩ : ∃ m, Hid (2 * n = m) := ⟨_, rfl⟩
    have hm : 2 * (n : Int) = (m : Int) := by have := Hm.out; omega
    have hml : m ≤ 2000000000 := by have := Hm.out; omega
    have hne : Hid (Nm.bytes l = Nm.flat l) := Nm.bytes_ne (by rintro rfl; simp at hn; omega)
    obtain ⟨i0, hi, hz0, hz1, hz2⟩ := info_parts byteT.info
    obtain ⟨w0, hmk, ho0, hg0⟩ := run_make_own (P := Try.prog) w w.heap.size 23 5 i0 _ 1 byteT.under hi hz0 hz1 .i64 .i64 m (by rw [hz2]; omega) (by unfold maxLen; omega) (Nat.le_refl _)
    have HP := Lib.hid (Pairs.start (l := l) ho0 hg0)
    have Hs := Lib.hid hs
    have hdig := digs_at
    clear ho0 hg0 hi hz0 hz1 hz2 hs
    go_enter Try.func11, Try.ntmps11
    go_wp2_with fail
    go_loopw [3, 16] (fun v i wr => ∃ (j : Nat), i = .int .i64 j ∧ j ≤ n ∧ Hid (Pairs l w j v wr)) (fun _ i _ => n - (intOf i).toNat)
    case atStart => exact ⟨0, rfl, by omega, HP⟩
    case round =>
      obtain ⟨j, rfl, hj, HP⟩ := hrel
      by_cases hlt : j < n
      · obtain ⟨b, off, rfl, hbB, hcell⟩ := (Hs.out.keep (w' := wr) (fun p hp => HP.out.below.cell (by omega))).at_ (i := j) (by omega)
        obtain ⟨x, Hx⟩ : ∃ x, Hid (l.getD j 0 = x) := ⟨_, rfl⟩
        rw [Hx.out] at hcell
        have hx := getD_lt hb j
        rw [Hx.out] at hx
        obtain ⟨q, Hq⟩ : ∃ q, Hid (x / 16 = q) := ⟨_, rfl⟩
        obtain ⟨r, Hr⟩ : ∃ r, Hid (x % 16 = r) := ⟨_, rfl⟩
        have hq16 : (x : Int) / 16 = (q : Int) := by have := Hq.out; omega
        have hr16 : (x : Int) % 16 = (r : Int) := by have := Hr.out; omega
        have hq : q < 16 := by have := Hq.out; omega
        have hr : r < 16 := by have := Hr.out; omega
        have hr16' : (x : Int).tmod 16 = (r : Int) := by rw [Int.tmod_eq_emod_of_nonneg (by omega)]; exact hr16
        have hq' : (q : Int) < 16 := by omega
        have hr' : (r : Int) < 16 := by omega
        have hm1 := HP.out.own
        have hm2 := HP.out.below
        have hm3 := HP.out.size
        have HN := Lib.hid (fun (v' : Value) (w1 : World) (W : World) => HP.out.next (v' := v') (w1 := w1) (W := W) (by omega) Hx.out)
        go_wp2_with fail
        refine wp_region_plan (S := fun _ => True) [(0, true), (1, true), (2, true), (3, true), (4, true), (5, true), (6, true), (7, false), (8, false)] (by kernel_rfl) (by kernel_rfl) rfl (by kernel_rfl) (fun _ _ _ _ _ h => h) trivial ?_
        iterate 7
          refine along_take (v := ?_) rfl (by rfl) ?_ ?_
          rotate_left
          · intro W hW; go_simp; try with_reducible rfl
          simp only [Act.put, List.setIfInBounds_toArray, List.set_cons_zero, List.set_cons_succ]
        refine along_step rfl (fun K hK => ?_)
        go_simp
        refine hK.out _ _ trivial ?_
        clear hK K
        try simp only [Act.put, List.setIfInBounds_toArray, List.set_cons_zero, List.set_cons_succ]
        refine along_step rfl (fun K hK => ?_)
        go_simp
        refine hK.out _ _ trivial ?_
        clear hK K
        refine along_done ?_
        have hcut := cut2 wr.heap.size
        have ho0 : (wr.alloc (.cells #[.int .u8 (Nm.dig q : Int), .int .u8 (Nm.dig r : Int)] 42)).drew.ownsRow w.heap.size 5 1 u3 (2 * j) (ints .u8 (Nm.flat (l.take j))) := hm1.alloc _
        have hb0 : Below w.heap.size w (wr.alloc (.cells #[.int .u8 (Nm.dig q : Int), .int .u8 (Nm.dig r : Int)] 42)).drew := (hm2.alloc hm3 _).drew
        have hz0 : w.heap.size ≤ (wr.alloc (.cells #[.int .u8 (Nm.dig q : Int), .int .u8 (Nm.dig r : Int)] 42)).drew.heap.size := by simp; omega
        have hs1 : Sees .u8 (wr.alloc (.cells #[.int .u8 (Nm.dig q : Int), .int .u8 (Nm.dig r : Int)] 42)).drew (wr.heap.size + 1) (some ⟨wr.heap.size, 0, none⟩) (Nm.pair x) := sees_new wr.heap.size _ _ _ rfl (by unfold Nm.pair; rw [Hq.out, Hr.out]; rfl)
        obtain ⟨W, HWd⟩ : ∃ W, Hid ((wr.alloc (.cells #[.int .u8 (Nm.dig q : Int), .int .u8 (Nm.dig r : Int)] 42)).drew = W) := ⟨_, rfl⟩
        rw [HWd.out] at ho0 hb0 hz0 hs1 ⊢
        have H0 := Lib.hid ho0
        have H1 := Lib.hid hb0
        have H2 := Lib.hid hs1
        clear ho0 hb0 hs1 hm1 hm2
        go_wp2_with (at_builtin; refine wpList_append_row byteT _ _ rfl rfl w.heap.size _ (2 * j) _ rfl H0.out 2 2 rfl rfl (fun h => by cases h) H2.out (by omega) hz0 ?_; intro v' w1 ho1 hg1)
        go_roundw
        case rel => exact ⟨j + 1, by go_num, by omega, Lib.hid (HN.out v' w1 W H1.out hz0 H0.out ho1 hg1)⟩
        case measure => simp [intOf]; omega
      · have hjn : j = n := by omega
        have ho := HP.out.own
        rw [hjn, ← hn, List.take_length] at ho
        have hcv := conv_own (dst := 9) (l := Nm.flat l) Try.underlying23 Try.underlying5 Try.underlying9 (by rw [Nm.flat_length]; exact ho)
        clear ho
        go_wp2_with fail
        go_ret
        exact ⟨by rw [hne.out]; rfl, HP.out.below⟩

/-- the first j numbers of a block of its own are those of l -/
def Fill (w : World) (g : Nat) (l : List Nat) (j : Nat) : Prop := ∃ m, Ints .u8 w g 5 m ∧ m.length = l.length ∧ ∀ i, i < j → m.getD i 0 = l.getD i 0
section
variable {w : World} {g j : Nat} {l : List Nat}
theorem Fill.start {k : Nat} (h : Ints .u8 w g 5 (List.replicate k 0)) (hk : l.length = k) : Fill w g l 0 := ⟨_, h, by rw [List.length_replicate, hk], fun _ h => by omega⟩
theorem Fill.cell (h : Fill w g l j) (i : Nat) (hi : i < l.length) : (∃ u, w.cell? ⟨g, i, none⟩ = some u) ∧ w.frozen? ⟨g, i, none⟩ = false := by
  obtain ⟨m, h1, h2, _⟩ := h
  exact ⟨⟨_, h1.at_ i (by omega)⟩, h1.free i⟩
theorem Fill.next (h : Fill w g l j) (hj : j < l.length) {x : Nat} (hx : l.getD j 0 = x) : Fill (w.setCell ⟨g, j, none⟩ (.int .u8 (x : Int))) g l (j + 1) := by
  obtain ⟨m, h1, h2, h3⟩ := h
  refine ⟨_, h1.put j x, by rw [List.length_set, h2], fun i hi => ?_⟩
  by_cases e : j = i
  · subst e
    rw [hx]
    simp [List.getD, List.getElem?_set_self (show j < m.length by omega)]
  · rw [← h3 i (by omega)]
    simp [List.getD, List.getElem?_set_ne e]
theorem Fill.all (h : Fill w g l j) (hj : ¬ j < l.length) : Ints .u8 w g 5 l := by
  obtain ⟨m, h1, h2, h3⟩ := h
  have : m = l := by
    refine List.ext_getElem h2 fun i h4 h5 => ?_
    have := h3 i (by omega)
    simpa [List.getD, List.getElem?_eq_getElem h4, List.getElem?_eq_getElem h5] using this
  exact this ▸ h1
theorem Fill.lt (h : Fill w g l j) : g < w.heap.size := by
  obtain ⟨m, h1, _⟩ := h
  exact h1.lt
end

/-- what Unbytes answers: the bytes, which nobody else has, and the error -/
def Unby (l : List Nat) (w : World) (e : Ending) (w' : World) : Prop :=
  ∃ A c, e = .returned (.tuple #[.slice A (Nm.unbytes l).1.length c, .int .i64 ((Nm.unbytes l).2 : Int)]) ∧ Sees .u8 w' w'.heap.size A (Nm.unbytes l).1 ∧ (A = none → c = 0) ∧ Below w.heap.size w w'

set_option maxRecDepth 100000 in
set_option maxHeartbeats 800000 in
theorem nunbytes_any {s : ByteArray} {l : List Nat} (T : Txt s l) (hl : l.length ≤ 1000000000) (w : World) :
    Calls Try.prog 17 #[.string s] w (Unby l w) := by
  obtain ⟨n, Hn⟩ : ∃ n, Hid (l.length = n) := ⟨_, rfl⟩
  have hsz : s.size = n := by rw [T.size, Hn.out]
  rw [Hn.out] at hl
  obtain ⟨k, Hk⟩ : ∃ k, Hid (n / 2 = k) := ⟨_, rfl⟩
  have hk : (n : Int) / 2 = (k : Int) := by have := Hk.out; omega
  have hk' : (n : Int).tdiv 2 = (k : Int) := by rw [Int.tdiv_eq_ediv_of_nonneg (by omega)]; exact hk
  have hkn : 2 * k ≤ n := by have := Hk.out; omega
  have hcode := Nm.unbytes_code l
  rw [Hn.out, Hk.out] at hcode
  have hul := Nm.ub_length l k
  have Hby := Lib.hid (Nm.ub_byte l k)
  have Hget := Lib.hid (Nm.ub_get l k)
  obtain ⟨u, Hu⟩ : ∃ u, Hid (Nm.ub l k = u) := ⟨_, rfl⟩
  rw [Hu.out] at hcode hul Hby Hget
  have hmk := run_make_ints byteT k (by omega)
  have HF0 : Hid (Fill (w.alloc (.cells (ints .u8 (List.replicate k 0)).toArray 5)) w.heap.size u 0) := Lib.hid (Fill.start (Whole.made _ _ _) hul)
  have HB0 : Hid (Below w.heap.size w (w.alloc (.cells (ints .u8 (List.replicate k 0)).toArray 5))) := Lib.hid ((Below.refl _ _).alloc (Nat.le_refl _) _)
  obtain ⟨zs, Hzs⟩ : ∃ zs, Hid ((ints .u8 (List.replicate k 0)).toArray = zs) := ⟨_, rfl⟩
  rw [Hzs.out] at hmk HF0 HB0
  have heq := (Txt.of (Nm.bytes_byte Hby.out)).eql T
  have Hcode := Lib.hid hcode
  have Heq := Lib.hid heq
  clear hcode heq
  have key : ∀ (ok : Bool), Hid (ok = decide (Nm.bytes u = l)) → ((strOf (Nm.bytes u)).toList == s.toList) = ok → Calls Try.prog 17 #[.string s] w (Unby l w) := by
    intro ok Hok heq
    go_enter Try.func17, Try.ntmps17
    go_wp2_with fail
    go_loopw [12] (fun i wr => ∃ (j : Nat), i = .int .i64 j ∧ j ≤ k ∧ Hid (Fill wr w.heap.size u j) ∧ Hid (Below w.heap.size w wr)) (fun i _ => k - (intOf i).toNat)
    case atStart => exact ⟨0, rfl, by omega, HF0, HB0⟩
    case round =>
      obtain ⟨j, rfl, hj, HF, HW⟩ := hrel
      by_cases hlt : j < k
      · obtain ⟨a, Ha⟩ : ∃ a, Hid (2 * j = a) := ⟨_, rfl⟩
        have ha : 2 * (j : Int) = (a : Int) := by have := Ha.out; omega
        have hal : a + 2 ≤ n := by have := Ha.out; omega
        obtain ⟨b, Hb⟩ : ∃ b, Hid (a + 2 = b) := ⟨_, rfl⟩
        have hb : 2 * ((j : Int) + 1) = (b : Int) := by have := Ha.out; have := Hb.out; omega
        have hbl : b ≤ n := by rw [← Hb.out]; exact hal
        have hab : a ≤ b := by rw [← Hb.out]; omega
        have T2 : Txt (s.extract a b) ((l.drop a).take 2) := by
          have := T.cut a b
          rw [← Hb.out, Nat.add_sub_cancel_left, Hb.out] at this
          exact this
        have C : Hid (∀ W, Calls Try.prog 20 #[.string (s.extract a b), .int .u64 16] W fun e w' => e = .returned (.int .u64 (Nm.num 16 ((l.drop a).take 2) : Int)) ∧ w' = W) := Lib.hid (fun W => number_any T2 16 (by omega) (by rw [List.length_take]; omega) W)
        have hg := Hget.out j hlt
        rw [Ha.out] at hg
        have hql := Nm.num_lt 16 ((l.drop a).take 2)
        obtain ⟨q, Hq⟩ : ∃ q, Hid (Nm.num 16 ((l.drop a).take 2) = q) := ⟨_, rfl⟩
        rw [Hq.out] at C hg hql
        obtain ⟨x, Hx⟩ : ∃ x, Hid (q % 256 = x) := ⟨_, rfl⟩
        have hx : IntKind.u8.wrap (q : Int) = (x : Int) := by rw [IntKind.wrap_u8, ← Hx.out]; omega
        rw [Hx.out] at hg
        have HF' := Lib.hid (HF.out.next (by omega) hg)
        have HW' := Lib.hid (HW.out.setCell (p := ⟨w.heap.size, j, none⟩) (Nat.le_refl _) (.int .u8 (x : Int)))
        obtain ⟨⟨c, hcu⟩, hfu⟩ := HF.out.cell j (by omega)
        clear hg T2
        go_wp2_with fail
        refine (C.out _).mono ?_
        rintro e w1 ⟨rfl, rfl⟩
        go_wp2_with fail
        go_roundw
        case rel => exact ⟨j + 1, by go_num, by omega, HF', HW'⟩
        case measure => simp [intOf]; omega
      · have HI := Lib.hid (HF.out.all (by omega))
        have hlt2 := HF.out.lt
        have CB := Lib.hid (nbytes_any (w.heap.size + 1) _ u k k wr hul (by omega) (fun h => by cases h) hlt2 HI.out.sees Hby.out)
        clear HF
        go_wp2_with fail
        refine CB.out.mono ?_
        rintro e w1 ⟨rfl, hb⟩
        have HB1 := Lib.hid (HW.out.trans (hb.mono (by omega)))
        have HI1 := Lib.hid (HI.out.below hb HI.out.lt)
        have hz1 := hb.size
        clear hb
        cases ok with
        | true =>
          have hp : Nm.bytes u = l := of_decide_eq_true Hok.out.symm
          have hun : Nm.unbytes l = (u, 0) := by rw [Hcode.out, if_pos hp]
          have HU := Lib.hid hun
          clear hp hun
          go_wp2_with fail
          go_ret2
          exact ⟨some ⟨w.heap.size, 0, none⟩, k, by rw [HU.out, hul]; rfl, by rw [HU.out]; exact HI1.out.sees.more HI1.out.lt, (fun h => by cases h), HB1.out⟩
        | false =>
          have hp : ¬ Nm.bytes u = l := of_decide_eq_false Hok.out.symm
          have hun : Nm.unbytes l = ([], 3) := by rw [Hcode.out, if_neg hp]
          have HU := Lib.hid hun
          clear hp hun
          go_wp2_with fail
          go_ret2
          exact ⟨none, 0, by rw [HU.out]; rfl, by rw [HU.out]; exact fun h => absurd h (by simp), fun _ => rfl, HB1.out⟩
  exact key _ (Lib.hid rfl) Heq.out
end Go.Proofs.Ytjjciefkmkffnaa
