/- Contracts of package room: made, within, New, Open, Held, find, begin. -/
import Derived.Test.YtbhdgfpaoghnbaaMs22
import Derived.Test.YtbhdgfpaoghnbaaRnew22
import Derived.Test.YtbhdgfpaoghnbaaGv
import Derived.Deep.CutRange
namespace Go.Proofs.Ytbhdgfpaoghnbaa
open Go.RowKit
set_option linter.unusedVariables false
set_option maxRecDepth 100000
set_option linter.unusedSimpArgs false

theorem tmade22_any {w : World} {h o : Nat} (hc : w.cell? ⟨h, 0, none⟩ = some (.int .i64 (o : Int))) (h1 : 1 ≤ o) :
    Calls Try.prog 30 #[pt h] w fun e w' => e = .returned (.bool true) ∧ w' = w := by
  have hp : (0 : Int) < (o : Int) := by omega
  go_enter Try.func30, Try.ntmps30
  go_wp2_with fail
  go_ret
  exact ⟨by simp; omega, rfl⟩
theorem tmade22_nil (w : World) : Calls Try.prog 30 #[.pointer none] w fun e w' => e = .returned (.bool false) ∧ w' = w := by
  go_enter Try.func30, Try.ntmps30
  go_wp2_with fail
  go_ret
  exact ⟨rfl, rfl⟩
theorem within22_any (a b : Int) (w : World) : Calls Try.prog 29 #[.int .i64 a, .int .i64 b] w fun e w' => e = .returned (.bool (decide (1 ≤ a ∧ a ≤ b))) ∧ w' = w := by
  by_cases h : 1 ≤ a
  · have hd : decide (1 ≤ a) = true := decide_eq_true h
    go_enter Try.func29, Try.ntmps29
    go_wp2_with fail
    go_ret
    exact ⟨by simp [h], rfl⟩
  · have hd : decide (1 ≤ a) = false := decide_eq_false h
    go_enter Try.func29, Try.ntmps29
    go_wp2_with fail
    go_ret
    exact ⟨by simp [h], rfl⟩
theorem tnew22_bad (a b c : Int) (wa : -9223372036854775808 ≤ a ∧ a ≤ 9223372036854775807) (wb : -9223372036854775808 ≤ b ∧ b ≤ 9223372036854775807) (wc : -9223372036854775808 ≤ c ∧ c ≤ 9223372036854775807) (hbad : a < 1 ∨ 16 < a ∨ b < 1 ∨ 65536 < b ∨ c < 1 ∨ 32 < c) (w : World) :
    Calls Try.prog 14 #[.agg #[.int .i64 a, .int .i64 b, .int .i64 c]] w fun e w' => e = .returned (.tuple #[.pointer none, .int .i64 1]) ∧ Below w.heap.size w w' := by
  have HB : Hid (Below w.heap.size w (w.alloc (.cells #[.int .i64 a, .int .i64 b, .int .i64 c] 23))) := Lib.hid ((Below.refl _ _).alloc (Nat.le_refl _) _)
  have W1 := Lib.hid (fun W => within22_any a 16 W)
  have W2 := Lib.hid (fun W => within22_any b 65536 W)
  have W3 := Lib.hid (fun W => within22_any c 32 W)
  by_cases h0 : 1 ≤ a ∧ a ≤ 16
  case neg =>
    rw [decide_eq_false h0] at W1
    clear hbad h0 wa wb wc
    go_enter Try.func14, Try.ntmps14
    go_wp2_with fail
    refine (W1.out _).mono ?_
    rintro e w1 ⟨rfl, rfl⟩
    go_wp2_with fail
    go_ret2
    exact ⟨rfl, HB.out⟩
  rw [decide_eq_true h0] at W1
  by_cases h2 : 1 ≤ b ∧ b ≤ 65536
  case neg =>
    rw [decide_eq_false h2] at W2
    clear hbad h0 h2 wa wb wc
    go_enter Try.func14, Try.ntmps14
    go_wp2_with fail
    refine (W1.out _).mono ?_
    rintro e w1 ⟨rfl, rfl⟩
    go_wp2_with fail
    refine (W2.out _).mono ?_
    rintro e w1 ⟨rfl, rfl⟩
    go_wp2_with fail
    go_ret2
    exact ⟨rfl, HB.out⟩
  rw [decide_eq_true h2] at W2
  have h3 : ¬ (1 ≤ c ∧ c ≤ 32) := by omega
  rw [decide_eq_false h3] at W3
  clear hbad h0 h2 h3 wa wb wc
  go_enter Try.func14, Try.ntmps14
  go_wp2_with fail
  refine (W1.out _).mono ?_
  rintro e w1 ⟨rfl, rfl⟩
  go_wp2_with fail
  refine (W2.out _).mono ?_
  rintro e w1 ⟨rfl, rfl⟩
  go_wp2_with fail
  refine (W3.out _).mono ?_
  rintro e w1 ⟨rfl, rfl⟩
  go_wp2_with fail
  go_ret2
  exact ⟨rfl, HB.out⟩
/-- a table that was just made -/
theorem TtAt.made (w w0 : World) (hb : Below w.heap.size w w0) (m : Tm.Lim) :
    TtAt (w0.alloc (.cells #[.int .i64 (m.op : Int), .int .i64 (m.by_ : Int), .int .i64 (m.ex : Int), .slice none 0 0] 76)) (fun b => w.heap.size ≤ b ∧ b < (w0.alloc (.cells #[.int .i64 (m.op : Int), .int .i64 (m.by_ : Int), .int .i64 (m.ex : Int), .slice none 0 0] 76)).heap.size) w0.heap.size (.slice none 0 0) m [] (fun _ _ => False) :=
  ⟨Whole.made _ _ _, World.ownsRow_nil _ _ 77 1, ⟨hb.size, by simp⟩, fun b hb => by simp [Value.ownBlock] at hb, ⟨(fun x hx => by cases hx), (fun x hx => by cases hx), by simp⟩, (fun x hx => by cases hx), fun b hb => hb.2⟩
theorem tnew22_any (m : Tm.Lim) (hm : m.Ok) (w : World) :
    Calls Try.prog 14 #[.agg #[.int .i64 (m.op : Int), .int .i64 (m.by_ : Int), .int .i64 (m.ex : Int)]] w fun e w' => ∃ h, e = .returned (.tuple #[.pointer (some ⟨h, 0, none⟩), .int .i64 0]) ∧ Tt w' (fun b => w.heap.size ≤ b ∧ b < w'.heap.size) h m [] ∧ Below w.heap.size w w' := by
  obtain ⟨h1, h2, h3, h4, h5, h6⟩ := hm
  obtain ⟨w0, hw0⟩ : ∃ W, w.alloc (.cells #[.int .i64 (m.op : Int), .int .i64 (m.by_ : Int), .int .i64 (m.ex : Int)] 23) = W := ⟨_, rfl⟩
  have HB0 : Below w.heap.size w w0 := by rw [← hw0]; exact (Below.refl _ _).alloc (Nat.le_refl _) _
  have HT := Lib.hid (TtAt.made w w0 HB0 m)
  have HB : Hid (Below w.heap.size w (w0.alloc (.cells #[.int .i64 (m.op : Int), .int .i64 (m.by_ : Int), .int .i64 (m.ex : Int), .slice none 0 0] 76))) := Lib.hid (HB0.alloc HB0.size _)
  have hx : Whole w0 w.heap.size 23 #[.int .i64 (m.op : Int), .int .i64 (m.by_ : Int), .int .i64 (m.ex : Int)] := by rw [← hw0]; exact Whole.made _ _ _
  have c0 := hx.at_ 0
  have c1 := hx.at_ 1
  have c2 := hx.at_ 2
  have W1 := Lib.hid (fun W => within22_any m.op 16 W)
  have W2 := Lib.hid (fun W => within22_any m.by_ 65536 W)
  have W3 := Lib.hid (fun W => within22_any m.ex 32 W)
  rw [decide_eq_true (by omega : 1 ≤ (m.op : Int) ∧ (m.op : Int) ≤ 16)] at W1
  rw [decide_eq_true (by omega : 1 ≤ (m.by_ : Int) ∧ (m.by_ : Int) ≤ 65536)] at W2
  rw [decide_eq_true (by omega : 1 ≤ (m.ex : Int) ∧ (m.ex : Int) ≤ 32)] at W3
  clear h1 h2 h3 h4 h5 h6 HB0 hx
  go_enter Try.func14, Try.ntmps14
  go_wp2_with fail
  refine (W1.out _).mono ?_
  rintro e w1 ⟨rfl, rfl⟩
  go_wp2_with fail
  refine (W2.out _).mono ?_
  rintro e w1 ⟨rfl, rfl⟩
  go_wp2_with fail
  refine (W3.out _).mono ?_
  rintro e w1 ⟨rfl, rfl⟩
  go_wp2_with fail
  go_ret2
  exact ⟨_, rfl, ⟨_, _, _, rfl, HT.out⟩, HB.out⟩
set_option maxHeartbeats 1000000 in
theorem theld22_at {w : World} {F : Nat → Prop} {h : Nat} {vl : Value} {m : Tm.Lim} {L : List (Tm.One × Nat)} {Fo : Nat → Nat → Prop} (r : TtAt w F h vl m L Fo) (hm : m.Ok) (hL : L.length ≤ 1000) (hs : Tm.held (ones L) ≤ 1000000000) :
    Calls Try.prog 28 #[pt h] w fun e w' => e = .returned (.int .i64 (Tm.held (ones L) : Int)) ∧ w' = w := by
  have MA := Lib.hid (tmade22_any (r.whole.at_ 0) hm.op1)
  obtain ⟨A, cp, rfl, hle, hmx⟩ := r.shape
  have hc3 : w.cell? ⟨h, 3, none⟩ = some (.slice A L.length cp) := r.whole.at_ 3
  have HP : Hid (∀ i (hi : i < L.length), ∃ B, A = some ⟨B, 0, none⟩ ∧ w.cell? ⟨B, i, none⟩ = some (pt L[i].2)) := Lib.hid (fun i hi => by
    obtain ⟨B, e, _, hb, hc⟩ := r.ptr hi
    exact ⟨B, e, hc⟩)
  have HG : Hid (∀ i (hi : i < L.length), ∃ g, w.cell? ⟨L[i].2, 6, none⟩ = some (pt g) ∧ ∃ G, Pt w G g L[i].1.s) := Lib.hid (fun i hi => by
    obtain ⟨g, G, hg⟩ := r.bag.mg _ (List.getElem_mem hi)
    exact ⟨g, hg.whole.at_ 6, G, hg.parts⟩)
  have HT := Lib.hid (fun k (hk : k < L.length) => held_ones_take hk)
  have HLe := Lib.hid (fun k => held_take_le L k)
  obtain ⟨n, hn⟩ : ∃ n, Hid (L.length = n) := ⟨_, Lib.hid rfl⟩
  obtain ⟨z, hz⟩ : ∃ z, Hid (Tm.held (ones L) = z) := ⟨_, Lib.hid rfl⟩
  unfold maxLen at hmx
  rw [hn.out] at hle hL hc3
  rw [hz.out] at hs HLe ⊢
  clear r
  go_enter Try.func28, Try.ntmps28
  go_wp2_with fail
  refine (MA.out).mono ?_
  rintro e w1 ⟨rfl, rfl⟩
  go_wp2_with fail
  go_loop [3, 14] (fun u v => ∃ k q : Nat, v = .int .i64 k ∧ u = .int .i64 q ∧ k ≤ n ∧ Hid (q = Tm.held (ones (L.take k)))) (fun _ v => n - (intOf v).toNat)
  case atStart => exact ⟨0, 0, rfl, rfl, Nat.zero_le _, Lib.hid (by simp [ones, Tm.held])⟩
  case round =>
    obtain ⟨k, q, rfl, rfl, hk, HQ0⟩ := hrel
    by_cases hlt : k < n
    · have hkl : k < L.length := by rw [hn.out]; exact hlt
      obtain ⟨B, rfl, hcp⟩ := HP.out k hkl
      obtain ⟨g, hc6, G, hpt⟩ := HG.out k hkl
      have HQ := Lib.hid (HT.out k hkl)
      have hQl := HLe.out (k + 1)
      obtain ⟨y, hy⟩ : ∃ y, Hid (L[k].1.s.size = y) := ⟨_, Lib.hid rfl⟩
      rw [hy.out, ← HQ0.out] at HQ
      rw [HQ.out] at hQl
      have C := Lib.hid (psize21_eq hpt (by rw [hy.out]; omega))
      rw [hy.out] at C
      obtain ⟨b, hb⟩ : ∃ b, Hid (L[k].2 = b) := ⟨_, Lib.hid rfl⟩
      rw [hb.out] at hcp hc6
      have hw : IntKind.i64.wrap ((q : Int) + (y : Int)) = ((q + y : Nat) : Int) := by rw [IntKind.wrap_i64]; omega
      clear hpt
      go_wp2_with fail
      refine (C.out).mono ?_
      rintro e w2 ⟨rfl, rfl⟩
      go_wp2_with fail
      go_round
      case rel => exact ⟨k + 1, q + y, by go_num, rfl, by omega, Lib.hid HQ.out.symm⟩
      case measure => simp [intOf]; omega
    · obtain rfl : k = n := by omega
      have HE : Hid (q = z) := Lib.hid (by rw [HQ0.out, List.take_of_length_le (by rw [hn.out]; exact Nat.le_refl _), hz.out])
      go_wp2_with fail
      go_ret
      exact ⟨by rw [HE.out]; rfl, rfl⟩
theorem theld22_any {w : World} {F : Nat → Prop} {h : Nat} {m : Tm.Lim} {l : List Tm.One} (r : Tt w F h m l) (hm : m.Ok) (hok : Tm.Ok m l) :
    Calls Try.prog 28 #[.pointer (some ⟨h, 0, none⟩)] w fun e w' => e = .returned (.int .i64 (Tm.held l : Int)) ∧ Below w.heap.size w w' := by
  obtain ⟨vl, L, Fo, rfl, r⟩ := r
  have h1 := hok.open_
  have h2 := hm.op2
  have h3 := hok.few
  have h4 := hm.by2
  rw [ones_len] at h1
  refine (theld22_at r hm (by omega) (by omega)).mono ?_
  rintro e w1 ⟨rfl, rfl⟩
  exact ⟨rfl, Below.refl _ _⟩
theorem fieldsName : Try.prog.fieldsOf 79 = #[⟨ "from", 32, 0, false, "", "annulet/room", 0⟩, ⟨ "epoch", 33, 1, false, "", "annulet/room", 4⟩, ⟨ "id", 33, 2, false, "", "annulet/room", 8⟩] := by kernel_rfl
theorem guardName : Try.prog.eqGuardType Try.prog.depth 79 = false := by kernel_rfl
theorem eqName (W : World) (a b c a' b' c' : Nat) : (Op.equalIn 10000 79 (.agg #[.int .u16 (a : Int), .int .u32 (b : Int), .int .u32 (c : Int)]) (.agg #[.int .u16 (a' : Int), .int .u32 (b' : Int), .int .u32 (c' : Int)])).run Try.prog W = .ok (decide ((a, b, c) = (a', b', c'))) W := by
  rw [run_equalIn_struct W 9999 79 _ _ (by rw [fieldsName]; exact Try.underlying79) (by kernel_rfl), fieldsName]
  have p0 : ∀ W x y z, (part 32 #[Value.int .u16 x, y, z] 0).run Try.prog W = .ok (.int .u16 x) W := by intro W x y z; kernel_rfl
  have p1 : ∀ W x y z, (part 33 #[x, Value.int .u32 y, z] 1).run Try.prog W = .ok (.int .u32 y) W := by intro W x y z; kernel_rfl
  have p2 : ∀ W x y z, (part 33 #[x, y, Value.int .u32 z] 2).run Try.prog W = .ok (.int .u32 z) W := by intro W x y z; kernel_rfl
  simp [Op.eqFields, p0, p1, p2, run_equalIn_int W _ _ _ _ _ _ Try.underlying32, run_equalIn_int W _ _ _ _ _ _ Try.underlying33]
  by_cases h : a = a'
  · by_cases h2 : b = b'
    · by_cases h3 : c = c'
      · simp [h, h2, h3]
      · have : ¬ (c : Int) = (c' : Int) := by omega
        simp [h, h2, h3, this]
    · have : ¬ (b : Int) = (b' : Int) := by omega
      simp [h, h2, this]
  · have : ¬ (a : Int) = (a' : Int) := by omega
    simp [h, this]
/-- what find answers -/
def foundV (L : List (Tm.One × Nat)) (k : Tm.Key) : Value := match Tm.find (ones L) k with
  | some i => (match L[i]? with
    | some x => pt x.2
    | none => .pointer none)
  | none => .pointer none
theorem foundV_some {L : List (Tm.One × Nat)} {k : Tm.Key} {i : Nat} (h : Tm.find (ones L) k = some i) (hi : i < L.length) : foundV L k = pt L[i].2 := by
  unfold foundV
  rw [h]
  simp only [List.getElem?_eq_getElem hi]
theorem foundV_none {L : List (Tm.One × Nat)} {k : Tm.Key} (h : Tm.find (ones L) k = none) : foundV L k = .pointer none := by
  unfold foundV
  rw [h]
set_option maxHeartbeats 1000000 in
theorem tfind22_any {w : World} {F : Nat → Prop} {h : Nat} {vl : Value} {m : Tm.Lim} {L : List (Tm.One × Nat)} {Fo : Nat → Nat → Prop} (r : TtAt w F h vl m L Fo) (hL : L.length ≤ 1000) (a b c : Nat) :
    Calls Try.prog 35 #[pt h, .agg #[.int .u16 (a : Int), .int .u32 (b : Int), .int .u32 (c : Int)]] w fun e w' => e = .returned (.tuple #[foundV L (a, b, c), .bool (Tm.find (ones L) (a, b, c)).isSome]) ∧ Below w.heap.size w w' := by
  obtain ⟨A, cp, rfl, hle, hmx⟩ := r.shape
  obtain ⟨w0, hw0⟩ : ∃ W, w.alloc (.cells #[.int .u16 (a : Int), .int .u32 (b : Int), .int .u32 (c : Int)] 79) = W := ⟨_, rfl⟩
  have HB0 : Below w.heap.size w w0 := by rw [← hw0]; exact (Below.refl _ _).alloc (Nat.le_refl _) _
  have hx0 : Whole w0 w.heap.size 79 #[.int .u16 (a : Int), .int .u32 (b : Int), .int .u32 (c : Int)] := by rw [← hw0]; exact Whole.made _ _ _
  obtain ⟨bx, hbx⟩ : ∃ x, w.heap.size = x := ⟨_, rfl⟩
  rw [hbx] at hx0
  have HX : Hid (∀ q, (w0.drewN q).cell? ⟨bx, 0, none⟩ = some (.int .u16 (a : Int)) ∧ (w0.drewN q).cell? ⟨bx, 1, none⟩ = some (.int .u32 (b : Int)) ∧ (w0.drewN q).cell? ⟨bx, 2, none⟩ = some (.int .u32 (c : Int))) := Lib.hid (fun q => ⟨hx0.at_ 0, hx0.at_ 1, hx0.at_ 2⟩)
  have hc3 : w0.cell? ⟨h, 3, none⟩ = some (.slice A L.length cp) := (r.stay HB0).whole.at_ 3
  have r0 := r.stay HB0
  have HP : Hid (∀ i (hi : i < L.length), ∃ B, A = some ⟨B, 0, none⟩ ∧ ∀ q, (w0.drewN q).cell? ⟨B, i, none⟩ = some (pt L[i].2)) := Lib.hid (fun i hi => by
    obtain ⟨B, e, _, hb, hc⟩ := r0.ptr hi
    exact ⟨B, e, fun q => hc⟩)
  have HG : Hid (∀ i (hi : i < L.length) q, (w0.drewN q).cell? ⟨L[i].2, 0, none⟩ = some (.int .u16 (L[i].1.sender : Int)) ∧ (w0.drewN q).cell? ⟨L[i].2, 1, none⟩ = some (.int .u32 (L[i].1.epoch : Int)) ∧ (w0.drewN q).cell? ⟨L[i].2, 2, none⟩ = some (.int .u32 (L[i].1.id : Int))) := Lib.hid (fun i hi q => by
    obtain ⟨g, hg⟩ := (r0.bag.mg _ (List.getElem_mem hi)).whole
    exact ⟨hg.at_ 0, hg.at_ 1, hg.at_ 2⟩)
  have HBD : Hid (∀ q, Below w.heap.size w (w0.drewN q)) := Lib.hid (fun q => ⟨HB0.os, HB0.tape, HB0.output, HB0.size, HB0.block⟩)
  have HD := Lib.hid (fun x y => drewN_add w0 x y)
  have HF : Hid (∀ i (hi : i < L.length), (L[i].1.sender, L[i].1.epoch, L[i].1.id) = (a, b, c) → (∀ j, j < i → ∀ hj : j < (ones L).length, ((ones L)[j]).key ≠ (a, b, c)) → foundV L (a, b, c) = pt L[i].2 ∧ (Tm.find (ones L) (a, b, c)).isSome = true) := Lib.hid (fun i hi e hall => by
    have hl : i < (ones L).length := by rw [ones_len]; exact hi
    have := Tm.find_is (k := (a, b, c)) hl (by rw [ones_get hl]; exact e) (fun j hj => hall j hj (by omega))
    exact ⟨foundV_some this hi, by rw [this]; rfl⟩)
  have HN : Hid ((∀ j, j < L.length → ∀ hj : j < (ones L).length, ((ones L)[j]).key ≠ (a, b, c)) → foundV L (a, b, c) = .pointer none ∧ (Tm.find (ones L) (a, b, c)).isSome = false) := Lib.hid (fun hall => by
    have := Tm.find_not (l := ones L) (k := (a, b, c)) (fun j hj => hall j (by rw [ones_len] at hj; exact hj) hj)
    exact ⟨foundV_none this, by rw [this]; rfl⟩)
  obtain ⟨V, hV⟩ : ∃ V, Hid (foundV L (a, b, c) = V) := ⟨_, Lib.hid rfl⟩
  obtain ⟨Bo, hBo⟩ : ∃ V, Hid ((Tm.find (ones L) (a, b, c)).isSome = V) := ⟨_, Lib.hid rfl⟩
  rw [hV.out, hBo.out]
  rw [hV.out, hBo.out] at HN
  rw [hV.out, hBo.out] at HF
  obtain ⟨n, hn⟩ : ∃ n, Hid (L.length = n) := ⟨_, Lib.hid rfl⟩
  unfold maxLen at hmx
  rw [hn.out] at hle hL hc3 HN
  have HGn := Lib.hid guardName
  clear r r0 HB0 hx0
  go_enter Try.func35, Try.ntmps35
  go_wp2_with fail
  go_loopw [13] (fun v wr => ∃ k q : Nat, v = .int .i64 k ∧ k ≤ n ∧ Hid (wr = w0.drewN q) ∧ Hid (∀ j, j < k → ∀ hj : j < (ones L).length, ((ones L)[j]).key ≠ (a, b, c))) (fun v _ => n - (intOf v).toNat)
  case atStart => exact ⟨0, 0, rfl, Nat.zero_le _, Lib.hid rfl, Lib.hid (fun j hj => by omega)⟩
  case round =>
    obtain ⟨k, q, rfl, hk, HW, HI⟩ := hrel
    by_cases hlt : k < n
    · have hkl : k < L.length := by rw [hn.out]; exact hlt
      obtain ⟨B, rfl, hB⟩ := HP.out k hkl
      have hcp := hB q
      obtain ⟨g0, g1, g2⟩ := HG.out k hkl q
      obtain ⟨x0, x1, x2⟩ := HX.out q
      rw [← HW.out] at hcp g0 g1 g2 x0 x1 x2
      have HFk := Lib.hid (fun e => HF.out k hkl e HI.out)
      have HNk : Hid ((L[k].1.sender, L[k].1.epoch, L[k].1.id) ≠ (a, b, c) → ∀ j, j < k + 1 → ∀ hj : j < (ones L).length, ((ones L)[j]).key ≠ (a, b, c)) := Lib.hid (fun hne j hj hjl => by
        rcases Nat.lt_or_ge j k with h | h
        · exact HI.out j h hjl
        · obtain rfl : j = k := by omega
          rw [ones_get hjl]; exact hne)
      obtain ⟨o, ho⟩ : ∃ o, Hid (L[k].1 = o) := ⟨_, Lib.hid rfl⟩
      obtain ⟨p, hp⟩ : ∃ p, Hid (L[k].2 = p) := ⟨_, Lib.hid rfl⟩
      rw [ho.out] at g0 g1 g2 HFk HNk
      rw [hp.out] at hcp g0 g1 g2 HFk
      have heq := fun W => eqName W o.sender o.epoch o.id a b c
      have hgn := HGn.out
      by_cases hd : (o.sender, o.epoch, o.id) = (a, b, c)
      · obtain ⟨e1, e2⟩ := HFk.out hd
        rw [decide_eq_true hd] at heq
        have HE1 := Lib.hid e1
        have HE2 := Lib.hid e2
        clear hd e1 e2 hB
        go_wp2_with fail
        go_quiet (fail)
        go_wp2_with fail
        go_ret2
        refine ⟨by rw [HE1.out, HE2.out]; rfl, ?_⟩
        rw [HW.out, HD.out]
        exact HBD.out _
      · have HI' := Lib.hid (HNk.out hd)
        rw [decide_eq_false hd] at heq
        clear hd hB
        go_wp2_with fail
        go_quiet (fail)
        go_wp2_with fail
        go_roundw
        case rel => exact ⟨k + 1, _, by go_num, by omega, Lib.hid (by rw [HW.out, HD.out]), HI'⟩
        case measure => simp [intOf]; omega
    · obtain rfl : k = n := by omega
      obtain ⟨e1, e2⟩ := HN.out (fun j hj hjl => HI.out j (by omega) hjl)
      have HE1 := Lib.hid e1
      have HE2 := Lib.hid e2
      clear e1 e2
      go_wp2_with fail
      go_ret2
      refine ⟨by rw [HE1.out, HE2.out]; rfl, ?_⟩
      rw [HW.out]
      exact HBD.out _
end Go.Proofs.Ytbhdgfpaoghnbaa
