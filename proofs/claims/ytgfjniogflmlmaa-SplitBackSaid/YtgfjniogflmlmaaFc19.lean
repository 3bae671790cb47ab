/- Contracts of layer 19's code: Room, Count, Split. -/
import Derived.Test.YtgfjniogflmlmaaFc19a
import Derived.Test.YtgfjniogflmlmaaRsq19
import Derived.Test.YtgfjniogflmlmaaFc18p
namespace Go.Proofs.Ytgfjniogflmlmaa
open Go.RowKit
set_option linter.unusedVariables false
set_option maxRecDepth 100000
set_option linter.unusedSimpArgs false

theorem BoAt.only {w w' : World} {b base : Nat} {v : Value} {L : List (Value × List Nat)} (h : BoAt w base v L) (k : Only b w w') (hb : b < base) : BoAt w' base v L :=
  ⟨own_only h.own k hb, fun x hx => (h.each x hx).keep (fun c hP hlt => ⟨k.block c hlt (by have := hP.1; omega), hP⟩)⟩
/-- what the box of Split holds -/
def boxS (g : Gd) (k : Nat) (X Y : Value) : Array Value := #[.int .u8 (g.kind : Int), .int .u8 (g.version : Int), .int .u32 (g.epoch : Int), .int .u32 (g.id : Int), X, .int .u16 (k : Int), Y]
/-- what the loop of Split has done when it stands at part i -/
structure Cps (b k r : Nat) (g : Gd) (w1 : World) (L : List (Value × List Nat)) (i : Nat) (v X Y : Value) (wr : World) : Prop where
  all : L.map (·.2) = Sp.ahead g r k i
  len : L.length = i
  at_ : BoAt wr (b + 1) v L
  below : Below b w1 wr
  size : b + 1 ≤ wr.heap.size
  whole : Whole wr b 32 (boxS g k X Y)
theorem Cps.next {b k r i : Nat} {g : Gd} {w1 wr w4 w5 w6 : World} {L : List (Value × List Nat)} {v v' u X Y X' Y' : Value} (h : Cps b k r g w1 L i v X Y wr) (ho4 : Only b wr w4) (hw4 : Whole w4 b 32 (boxS g k X' Y')) (hb5 : Below w4.heap.size w4 w5)
    (ho5 : w5.ownsRow w4.heap.size 5 1 u (Gr.bytes (Sp.part g r k i)).length (ints .u8 (Gr.bytes (Sp.part g r k i))))
    (ho : w6.ownsRow (b + 1) 30 1 v' (L.length + 1) (L.map (·.1) ++ [u])) (hg : (w5.alloc (.cells #[u] 30)).grownBy w6 v.ownBlock) (hv : v'.ownBlock = v.ownBlock ∨ v'.ownBlock = some (w5.alloc (.cells #[u] 30)).heap.size) :
    Cps b k r g w1 (L ++ [(u, Gr.bytes (Sp.part g r k i))]) (i + 1) v' X' Y' w6 := by
  obtain ⟨h1, h2, h5, h6, h7, h8⟩ := h
  have hz4 : wr.heap.size ≤ w4.heap.size := ho4.size
  have hz5 : w4.heap.size ≤ w5.heap.size := hb5.size
  have hba : Below w4.heap.size w4 (w5.alloc (.cells #[u] 30)) := hb5.alloc hb5.size _
  have hown : ∀ q, v.ownBlock = some q → b + 1 ≤ q := fun q hq => (h5.own.lt q hq).1
  have h4 := h5.only ho4 (Nat.lt_succ_self b)
  refine ⟨by rw [Sp.ahead_succ, ← h1]; simp, by simp [h2], ?_, ?_, ?_, ?_⟩
  · exact h4.snoc hba ((Bq.own ho5).keep (fun c hP hlt => ⟨((Below.refl _ _).alloc (Nat.le_refl _) _ : Below w5.heap.size w5 (w5.alloc (.cells #[u] 30))).block c hlt, hP⟩)) (by omega) ho hg hv
  · exact ((h6.trans (ho4.below (Nat.le_refl _) (by omega))).trans (hba.mono (by omega))).grown hg (by simp; omega) (fun q hq => by have := hown q hq; omega)
  · have := hg.size; simp at this; omega
  · have hx : Whole (w5.alloc (.cells #[u] 30)) b 32 (boxS g k X' Y') := (hw4.below hba (by omega))
    exact (hg.block b (by have := hx.lt; omega) (fun e => by have := hown b e.symm; omega)).trans hx
theorem store_whole {w : World} {b : Nat} {g : Gd} {k : Nat} {X Y : Value} (h : Whole w b 32 (boxS g k X Y)) (X' Y' : Value) : Whole ((w.setCell ⟨b, 4, none⟩ X').setCell ⟨b, 6, none⟩ Y') b 32 (boxS g k X' Y') := (h.put 4 X').put 6 Y'
def HoldF (p : Prop) : Prop := p
theorem holdF {p : Prop} (h : HoldF p) : p := h
set_option maxHeartbeats 4000000 in
theorem csplit19_any {w : World} {B : Nat} {g : Gd} {v : Value} (H : Gv w B g v) (hl : g.body.length ≤ 1000000000) {m : Int} (h1 : -9223372036854775808 ≤ m) (h2 : m ≤ 9223372036854775807) :
    Calls Try.prog 11 #[.int .i64 m, v] w (SplitPost (Sp.split m g) w) := by
  obtain ⟨b, A, c, w1, rfl, hb, hal, hsz, hx, hb1⟩ := boxedG H
  have HB1 : Hid (Below w.heap.size w w1) := Lib.hid (by rw [hb]; exact hb1)
  have HBW : Hid (b = w.heap.size) := Lib.hid hb.symm
  obtain ⟨k0, k1, k2, k3, k4, k5, k6⟩ := hx.cells
  have HPi := Lib.hid hx.piece
  have HOk := Lib.hid hx.ok
  have HWh := Lib.hid hx.whole
  have HF5 := Lib.hid (hx.whole.free 5)
  have RM := Lib.hid (fun W => croom19_eq (w := W) h1 h2)
  have RC := Lib.hid (fun W => ccount19_eq (w := W) (n := (g.body.length : Int)) h1 h2 (by omega) (by omega))
  have HSb := Lib.hid (fun h => Sp.split_bad (m := m) (g := g) h)
  have HSk := Lib.hid (fun h k => Sp.split_kind (m := m) (g := g) h k)
  have HSg := Lib.hid (fun h k => Sp.split_good (m := m) (g := g) h k)
  have HCo := Lib.hid (fun h => Sp.count_ok (m := m) (n := g.body.length) h)
  have hrl := Sp.room_le m
  obtain ⟨r, hr⟩ : ∃ r, Hid (Sp.room m = r) := ⟨_, Lib.hid rfl⟩
  rw [hr.out] at RM HSg HCo hrl
  obtain ⟨C, hC⟩ : ∃ C, Hid (Sp.count m (g.body.length : Int) = C) := ⟨_, Lib.hid rfl⟩
  rw [hC.out] at RC HSb HSk HSg HCo
  obtain ⟨k, x⟩ := C
  simp only at RC HSb HSk HSg HCo
  clear hx hb1 H hC hr
  obtain ⟨n, hn⟩ : ∃ n, Hid (g.body.length = n) := ⟨_, Lib.hid rfl⟩
  rw [hn.out] at hal k6 hl RC HCo HPi HWh ⊢
  by_cases hx0 : x = 0
  case neg =>
    have hne : ((x : Int) != 0) = true := by simp; omega
    rw [HSb.out hx0]
    go_enter Try.func11, Try.ntmps11
    go_wp2_with fail
    refine (RC.out _).mono ?_
    rintro e w2 ⟨rfl, rfl⟩
    go_wp2_with fail
    go_ret2
    exact SplitPost.bad HB1.out
  subst hx0
  obtain ⟨hr0, hkm, hkl⟩ := HCo.out rfl
  have HIn := Lib.hid (fun i (h : i < k) => Sp.many_in (n := n) (i := i) hr0 (by rw [← hkm]; exact h))
  have hkpos : 0 < k := by rw [hkm]; exact Sp.many_pos _ _
  have hk65 : k ≤ 65535 := by omega
  have hcv2 : IntKind.u16.wrap (k : Int) = (k : Int) := by
    show (k : Int) % 65536 = _
    omega
  clear hkm hkl HCo HSb
  obtain ⟨w3, hw3⟩ : ∃ W, w1.setCell ⟨b, 5, none⟩ (.int .u16 (k : Int)) = W := ⟨_, rfl⟩
  have HW3 : Hid (Whole w3 b 32 (boxS g k (.int .u16 (g.index : Int)) (.slice A n c))) := Lib.hid (by rw [← hw3]; exact HWh.out.put 5 _)
  have HB3 : Hid (Below b w1 w3) := Lib.hid (by rw [← hw3]; exact (Below.refl b w1).setCell (p := ⟨b, 5, none⟩) (Nat.le_refl _) _)
  have HZ3 : Hid (b + 1 ≤ w3.heap.size) := Lib.hid (by have := HW3.out.lt; omega)
  obtain ⟨i0, hi, hz0, hz1, hz2⟩ := info_parts rowsI
  obtain ⟨p0, hmk, ho0, hg0⟩ := run_make_own (P := Try.prog) (w := w3) (b + 1) 33 30 i0 _ 1 rowsT hi hz0 hz1 .i64 .i64 k (by rw [hz2]; omega) (by unfold maxLen; omega) HZ3.out
  have HP0 : Hid (Cps b k r g w1 [] 0 (.slice (some ⟨w3.heap.size, 0, none⟩) 0 k) (.int .u16 (g.index : Int)) (.slice A n c) p0) := Lib.hid ⟨rfl, rfl, ⟨ho0, fun x hx => by cases hx⟩, HB3.out.grown hg0 (by have := HZ3.out; omega) (fun q hq => by cases hq), by have := hg0.size; have := HZ3.out; omega, (hg0.block b (by have := HZ3.out; omega) (fun e => by cases e)).trans HW3.out⟩
  have HPc0 : Hid (Piece w1 b (.slice A n c) (g.body.drop (0 * r))) := Lib.hid (by rw [Nat.zero_mul, List.drop_zero]; exact HPi.out)
  have f5 := HF5.out
  clear ho0 hg0 hi hz0 hz1 hz2 HPi HWh HW3 HB3 HZ3 HF5
  go_enter Try.func11, Try.ntmps11
  go_wp2_with fail
  refine (RC.out _).mono ?_
  rintro e w2 ⟨rfl, rfl⟩
  go_wp2_with fail
  clear hmk k0 k1 k2 k3 k4 k5 k6 f5
  go_loopw [8, 9, 33] (fun y v x wr => ∃ (L : List (Value × List Nat)) (i : Nat) (X Y : Value), i ≤ k ∧ x = .int .i64 (i : Int) ∧ Hid (Cps b k r g w2 L i v X Y wr) ∧ Hid (Piece w2 b y (g.body.drop (i * r))) ∧ Hid (g.kind < 1 ∨ 2 < g.kind → i = 0)) (fun _ _ x _ => k - (intOf x).toNat)
  case atStart => exact ⟨[], 0, _, _, by omega, rfl, HP0, HPc0, Lib.hid (fun _ => rfl)⟩
  case round =>
    obtain ⟨L, i, X, Y, hik, rfl, HP, HPc, HKb⟩ := hrel
    obtain ⟨Av, cv, rfl, hLc, _, _⟩ := HP.out.at_.size
    by_cases hlt : i < k
    · have hfn := HIn.out i hlt
      obtain ⟨fr, hfr⟩ : ∃ f, Hid (i * r = f) := ⟨_, Lib.hid rfl⟩
      have HNx : Hid ((i + 1) * r = fr + r) := Lib.hid (by rw [Nat.add_mul, hfr.out]; omega)
      rw [hfr.out] at hfn HPc
      obtain ⟨A', c', rfl, hse, hnu, hle, hmx⟩ := HPc.out
      rw [List.length_drop, hn.out] at hle
      have hdl : (g.body.drop fr).length = n - fr := by rw [List.length_drop, hn.out]
      rw [hdl] at HPc ⊢
      have HSe := Lib.hid hse
      have HNu := Lib.hid hnu
      have HMx := Lib.hid hmx
      have HDl := Lib.hid hdl
      obtain ⟨ln, hln⟩ : ∃ q, Hid (n - fr = q) := ⟨_, Lib.hid rfl⟩
      rw [hln.out] at hle HPc HDl ⊢
      have HLn : Hid (fr + ln = n) := Lib.hid (by have := hln.out; omega)
      have hln1 : ln ≤ 1000000000 := by have := HLn.out; omega
      have hcv1 : IntKind.u16.wrap (i : Int) = (i : Int) := by
        show (i : Int) % 65536 = _
        omega
      have f4 := HP.out.whole.free 4
      have f6 := HP.out.whole.free 6
      have q4 : wr.cell? ⟨b, 4, none⟩ = some X := HP.out.whole.at_ 4
      have q6 : wr.cell? ⟨b, 6, none⟩ = some Y := HP.out.whole.at_ 6
      have HPn := Lib.hid (fun w4 w5 w6 v' u X' Y' h1 h2 h3 h4 h5 h6 h7 => HP.out.next (w4 := w4) (w5 := w5) (w6 := w6) (v' := v') (u := u) (X' := X') (Y' := Y') h1 h2 h3 h4 h5 h6 h7)
      have HPo := Lib.hid (fun w4 (h : Only b wr w4) => own_only HP.out.at_.own h (Nat.lt_succ_self b))
      have HPb := Lib.hid HP.out.below
      have HPz := Lib.hid HP.out.size
      have HStw := Lib.hid (fun X' Y' => store_whole HP.out.whole X' Y')
      have hL65 : L.length ≤ 65535 := by have := HP.out.len; omega
      have hpl : (Sp.part g r k i).body.length = min r ln := by rw [Sp.part_len, hn.out, hfr.out, hln.out]
      have hpb : (Sp.part g r k i).body = (g.body.drop fr).take r := by show (g.body.drop (i * r)).take r = _; rw [hfr.out]
      have HPl := Lib.hid hpl
      have HPbd := Lib.hid hpb
      clear hse hnu hmx hdl hfr hpl hpb
      obtain ⟨bs, hbs⟩ : ∃ l, Hid (Gr.bytes (Sp.part g r k i) = l) := ⟨_, Lib.hid rfl⟩
      rw [hbs.out] at HPn
      by_cases hlr : ln < r
      · have hlr' : (ln : Int) < (r : Int) := by omega
        have hzc : ln ≤ c' := by omega
        have hzl : ln ≤ ln := by omega
        have HMin : Hid (min r ln = ln) := Lib.hid (by omega)
        have hAk : (if c' = ln then A' else A'.map (fun x => x.add ln)) = cutAt A' c' ln := rfl
        obtain ⟨w4, hw4⟩ : ∃ W, (wr.setCell ⟨b, 4, none⟩ (.int .u16 (i : Int))).setCell ⟨b, 6, none⟩ (.slice A' ln c') = W := ⟨_, rfl⟩
        have HO4 : Hid (Only b wr w4) := Lib.hid (by rw [← hw4]; exact ((Only.refl b wr).setCell 4 _).setCell 6 _)
        have HW4 : Hid (Whole w4 b 32 (boxS g k (.int .u16 (i : Int)) (.slice A' ln c'))) := Lib.hid (by rw [← hw4]; exact HStw.out _ _)
        clear hlr
        go_wp2_with fail
        refine (RM.out _).mono ?_
        rintro e w5 ⟨rfl, rfl⟩
        go_wp2_with fail
        go_region
        obtain ⟨w7, hw7⟩ : ∃ W, w4.drew = W := ⟨_, rfl⟩
        have HO7 : Hid (Only b w5 w7) := Lib.hid (by rw [← hw7]; exact HO4.out.drew)
        have HW7 : Hid (Whole w7 b 32 #[.int .u8 (g.kind : Int), .int .u8 (g.version : Int), .int .u32 (g.epoch : Int), .int .u32 (g.id : Int), .int .u16 (i : Int), .int .u16 (k : Int), .slice A' ln c']) := Lib.hid (by rw [← hw7]; exact HW4.out.drew)
        rw [hw7]
        clear hw7 hw4 HO4 HW4 hAk f4 f6 q4 q6 HStw
        have HB7 : Hid (Below b w2 w7) := Lib.hid (HPb.out.trans (HO7.out.below (Nat.le_refl _) (by have := HPz.out; omega)))
        have hz7 : b + 1 ≤ w7.heap.size := by have := HPz.out; have := HO7.out.size; omega
        have HGv : Hid (Gv w7 w7.heap.size (Sp.part g r k i) (.agg #[.int .u8 (g.kind : Int), .int .u8 (g.version : Int), .int .u32 (g.epoch : Int), .int .u32 (g.id : Int), .int .u16 (i : Int), .int .u16 (k : Int), .slice A' ln c'])) := Lib.hid (by
          have hlen : (Sp.part g r k i).body.length = ln := by rw [HPl.out]; exact HMin.out
          have hmx := HMx.out
          refine ⟨⟨A', c', ?_, ?_⟩, Sp.part_ok HOk.out hk65 hlt⟩
          · rw [hlen]; rfl
          · rw [hlen]
            refine ⟨A', c', by rw [hlen], ?_, HNu.out, by rw [hlen]; omega, hmx⟩
            rw [HPbd.out]
            exact ((HSe.out.take r).below HB7.out).more (by omega))
        have CP := Lib.hid (gput18_any HGv.out)
        have HPc2 : Hid (Piece w2 b (.slice (cutAt A' c' ln) (0) (c' - ln)) (g.body.drop ((i + 1) * r))) := Lib.hid (by
          have hd : g.body.drop ((i + 1) * r) = (g.body.drop fr).drop ln := by
            rw [HNx.out, List.drop_drop]
            rw [List.drop_of_length_le (by rw [hn.out]; have := HLn.out; omega), List.drop_of_length_le (by rw [hn.out]; have := HLn.out; omega)]
          have hdl := HDl.out
          have hmx := HMx.out
          have hl2 : ((g.body.drop fr).drop ln).length = 0 := by rw [List.length_drop, hdl]; omega
          rw [hd]
          exact ⟨_, _, by rw [hl2], HSe.out.cut (by rw [hdl]; omega) (by rw [hdl]; omega), cutAt_null HNu.out, by rw [hl2]; omega, by unfold maxLen at *; omega⟩)
        clear HGv HMin
        by_cases hbad : g.kind < 1 ∨ 2 < g.kind
        · have hE := Lib.hid (HSk.out trivial hbad)
          have hr9 : Gr.right (Sp.part g r k i) = 9 := Gr.right_kind hbad
          rw [Gr.put_bad (by rw [hr9]; decide), hr9] at CP
          go_wp2_with (refine wpList_load_struct Try.underlying32 (gramI rfl) rfl rfl rfl HW7.out ?_)
          refine (CP.out).mono ?_
          rintro e w8 ⟨v8, rfl, ho8, hb8⟩
          have HB8 := Lib.hid hb8
          clear ho8 hb8
          go_wp2_with fail
          go_ret2
          rw [hE.out]
          exact SplitPost.bad (HB1.out.trans ((HB7.out.trans (HB8.out.mono (by omega))).mono (by have := HBW.out; omega)))
        · rw [Gr.put_good (Sp.part_right hbad hrl hlt), hbs.out] at CP
          go_wp2_with (refine wpList_load_struct Try.underlying32 (gramI rfl) rfl rfl rfl HW7.out ?_)
          refine (CP.out).mono ?_
          rintro e w8 ⟨v8, rfl, ho8, hb8⟩
          obtain ⟨Au, cu, rfl, _⟩ := own_look ho8
          have HO8 := Lib.hid ho8
          have HB8 := Lib.hid hb8
          have hz8 : w7.heap.size ≤ w8.heap.size := hb8.size
          have ho2 : Hid ((w8.alloc (.cells #[.slice Au bs.length cu] 30)).ownsRow (b + 1) 30 1 (.slice Av L.length cv) L.length (L.map (·.1))) := Lib.hid (own_below (HPo.out w7 HO7.out) (hb8.alloc hz8 _))
          clear ho8 hb8
          go_wp2_with (at_builtin; refine wpList_append_cells rowsT rowsI rfl (by decide) (by decide) _ _ rfl rfl (b + 1) (.slice Av L.length cv) L.length (List.map (fun x : Value × List Nat => x.1) L) rfl ho2.out 1 1 [.slice Au bs.length cu] rfl rfl (fun h => by cases h) (by decide) (src_one _ _ _) (one_slice _ _ _) (by omega) (by simp; omega) ?_; intro v' w9 hr9 hg9 hv9)
          go_roundw
          case rel => exact ⟨L ++ [(.slice Au bs.length cu, bs)], i + 1, _, _, by omega, by go_num, Lib.hid (HPn.out w7 w8 w9 v' _ _ _ HO7.out HW7.out HB8.out HO8.out hr9 hg9 hv9), HPc2, Lib.hid (fun h => absurd h hbad)⟩
          case measure => simp [intOf]; omega
      · have hlr' : ¬ (ln : Int) < (r : Int) := by omega
        have hzc : r ≤ c' := by omega
        have hzl : r ≤ ln := by omega
        have HMin : Hid (min r ln = r) := Lib.hid (by omega)
        have hAk : (if c' = r then A' else A'.map (fun x => x.add r)) = cutAt A' c' r := rfl
        obtain ⟨w4, hw4⟩ : ∃ W, (wr.setCell ⟨b, 4, none⟩ (.int .u16 (i : Int))).setCell ⟨b, 6, none⟩ (.slice A' r c') = W := ⟨_, rfl⟩
        have HO4 : Hid (Only b wr w4) := Lib.hid (by rw [← hw4]; exact ((Only.refl b wr).setCell 4 _).setCell 6 _)
        have HW4 : Hid (Whole w4 b 32 (boxS g k (.int .u16 (i : Int)) (.slice A' r c'))) := Lib.hid (by rw [← hw4]; exact HStw.out _ _)
        clear hlr
        go_wp2_with fail
        refine (RM.out _).mono ?_
        rintro e w5 ⟨rfl, rfl⟩
        go_wp2_with fail
        go_region
        obtain ⟨w7, hw7⟩ : ∃ W, w4.drew = W := ⟨_, rfl⟩
        have HO7 : Hid (Only b w5 w7) := Lib.hid (by rw [← hw7]; exact HO4.out.drew)
        have HW7 : Hid (Whole w7 b 32 #[.int .u8 (g.kind : Int), .int .u8 (g.version : Int), .int .u32 (g.epoch : Int), .int .u32 (g.id : Int), .int .u16 (i : Int), .int .u16 (k : Int), .slice A' r c']) := Lib.hid (by rw [← hw7]; exact HW4.out.drew)
        rw [hw7]
        clear hw7 hw4 HO4 HW4 hAk f4 f6 q4 q6 HStw
        have HB7 : Hid (Below b w2 w7) := Lib.hid (HPb.out.trans (HO7.out.below (Nat.le_refl _) (by have := HPz.out; omega)))
        have hz7 : b + 1 ≤ w7.heap.size := by have := HPz.out; have := HO7.out.size; omega
        have HGv : Hid (Gv w7 w7.heap.size (Sp.part g r k i) (.agg #[.int .u8 (g.kind : Int), .int .u8 (g.version : Int), .int .u32 (g.epoch : Int), .int .u32 (g.id : Int), .int .u16 (i : Int), .int .u16 (k : Int), .slice A' r c'])) := Lib.hid (by
          have hlen : (Sp.part g r k i).body.length = r := by rw [HPl.out]; exact HMin.out
          have hmx := HMx.out
          refine ⟨⟨A', c', ?_, ?_⟩, Sp.part_ok HOk.out hk65 hlt⟩
          · rw [hlen]; rfl
          · rw [hlen]
            refine ⟨A', c', by rw [hlen], ?_, HNu.out, by rw [hlen]; omega, hmx⟩
            rw [HPbd.out]
            exact ((HSe.out.take r).below HB7.out).more (by omega))
        have CP := Lib.hid (gput18_any HGv.out)
        have HPc2 : Hid (Piece w2 b (.slice (cutAt A' c' r) (ln - r) (c' - r)) (g.body.drop ((i + 1) * r))) := Lib.hid (by
          have hd : g.body.drop ((i + 1) * r) = (g.body.drop fr).drop r := by
            rw [HNx.out, List.drop_drop]
            
          have hdl := HDl.out
          have hmx := HMx.out
          have hl2 : ((g.body.drop fr).drop r).length = ln - r := by rw [List.length_drop, hdl]
          rw [hd]
          exact ⟨_, _, by rw [hl2], HSe.out.cut (by rw [hdl]; omega) (by rw [hdl]; omega), cutAt_null HNu.out, by rw [hl2]; omega, by unfold maxLen at *; omega⟩)
        clear HGv HMin
        by_cases hbad : g.kind < 1 ∨ 2 < g.kind
        · have hE := Lib.hid (HSk.out trivial hbad)
          have hr9 : Gr.right (Sp.part g r k i) = 9 := Gr.right_kind hbad
          rw [Gr.put_bad (by rw [hr9]; decide), hr9] at CP
          go_wp2_with (refine wpList_load_struct Try.underlying32 (gramI rfl) rfl rfl rfl HW7.out ?_)
          refine (CP.out).mono ?_
          rintro e w8 ⟨v8, rfl, ho8, hb8⟩
          have HB8 := Lib.hid hb8
          clear ho8 hb8
          go_wp2_with fail
          go_ret2
          rw [hE.out]
          exact SplitPost.bad (HB1.out.trans ((HB7.out.trans (HB8.out.mono (by omega))).mono (by have := HBW.out; omega)))
        · rw [Gr.put_good (Sp.part_right hbad hrl hlt), hbs.out] at CP
          go_wp2_with (refine wpList_load_struct Try.underlying32 (gramI rfl) rfl rfl rfl HW7.out ?_)
          refine (CP.out).mono ?_
          rintro e w8 ⟨v8, rfl, ho8, hb8⟩
          obtain ⟨Au, cu, rfl, _⟩ := own_look ho8
          have HO8 := Lib.hid ho8
          have HB8 := Lib.hid hb8
          have hz8 : w7.heap.size ≤ w8.heap.size := hb8.size
          have ho2 : Hid ((w8.alloc (.cells #[.slice Au bs.length cu] 30)).ownsRow (b + 1) 30 1 (.slice Av L.length cv) L.length (L.map (·.1))) := Lib.hid (own_below (HPo.out w7 HO7.out) (hb8.alloc hz8 _))
          clear ho8 hb8
          go_wp2_with (at_builtin; refine wpList_append_cells rowsT rowsI rfl (by decide) (by decide) _ _ rfl rfl (b + 1) (.slice Av L.length cv) L.length (List.map (fun x : Value × List Nat => x.1) L) rfl ho2.out 1 1 [.slice Au bs.length cu] rfl rfl (fun h => by cases h) (by decide) (src_one _ _ _) (one_slice _ _ _) (by omega) (by simp; omega) ?_; intro v' w9 hr9 hg9 hv9)
          go_roundw
          case rel => exact ⟨L ++ [(.slice Au bs.length cu, bs)], i + 1, _, _, by omega, by go_num, Lib.hid (HPn.out w7 w8 w9 v' _ _ _ HO7.out HW7.out HB8.out HO8.out hr9 hg9 hv9), HPc2, Lib.hid (fun h => absurd h hbad)⟩
          case measure => simp [intOf]; omega
    · obtain rfl : i = k := by omega
      have hnk : ¬ (g.kind < 1 ∨ 2 < g.kind) := fun h => by have := HKb.out h; omega
      have HE := Lib.hid (HSg.out trivial hnk)
      go_wp2_with fail
      go_ret2
      rw [HE.out]
      exact ⟨_, rfl, Bo.lower ⟨L, HP.out.all, HP.out.at_⟩ (by have := HBW.out; omega), HB1.out.trans (HP.out.below.mono (by have := HBW.out; omega))⟩
end Go.Proofs.Ytgfjniogflmlmaa
