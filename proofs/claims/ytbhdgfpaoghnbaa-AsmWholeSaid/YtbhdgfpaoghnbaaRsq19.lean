/- Contract of layer 19's reference: Split. -/
import Derived.Test.YtbhdgfpaoghnbaaRsp19
import Derived.Test.YtbhdgfpaoghnbaaRgb18
import Derived.Test.YtbhdgfpaoghnbaaBl
import Derived.Test.YtbhdgfpaoghnbaaPM
import Derived.Test.YtbhdgfpaoghnbaaPA
namespace Go.Proofs.Ytbhdgfpaoghnbaa
open Go.RowKit
set_option linter.unusedVariables false
set_option maxRecDepth 100000
set_option linter.unusedSimpArgs false

/-- a new variable -/
theorem varG (w : World) : ∃ b w0, w.heap.size = b ∧ w.alloc (.cells #[.int .u8 0, .int .u8 0, .int .u32 0, .int .u32 0, .int .u16 0, .int .u16 0, .slice none 0 0] 36) = w0 ∧ w0.heap.size = b + 1 ∧ Whole w0 b 36 #[.int .u8 0, .int .u8 0, .int .u32 0, .int .u32 0, .int .u16 0, .int .u16 0, .slice none 0 0] ∧ Below w.heap.size w w0 :=
  ⟨_, _, rfl, rfl, by simp, Whole.made _ _ _, (Below.refl _ _).alloc (Nat.le_refl _) _⟩
/-- what Split answers -/
def SplitPost (r : List (List Nat) × Nat) (w : World) (e : Ending) (w' : World) : Prop :=
  ∃ v, e = .returned (.tuple #[v, .int .i64 (r.2 : Int)]) ∧ Bo w' w.heap.size v r.1 ∧ Below w.heap.size w w'
theorem SplitPost.bad {w w' : World} {x : Nat} (hb : Below w.heap.size w w') : SplitPost ([], x) w (.returned (.tuple #[.slice none 0 0, .int .i64 (x : Int)])) w' := ⟨_, rfl, Bo.nil _ _, hb⟩
/-- what the loop of Split has done when it stands at part i -/
structure Sps (base : Nat) (g : Gd) (r k : Nat) (w : World) (L : List (Value × List Nat)) (i : Nat) (v : Value) (wr : World) : Prop where
  all : L.map (·.2) = Sp.ahead g r k i
  len : L.length = i
  at_ : BoAt wr base v L
  below : Below base w wr
  size : base ≤ wr.heap.size
theorem Sps.next {base r k i : Nat} {g : Gd} {w wr w1 w2 : World} {L : List (Value × List Nat)} {v v' u : Value} (h : Sps base g r k w L i v wr) (hb1 : Below wr.heap.size wr w1)
    (ho1 : w1.ownsRow wr.heap.size 5 1 u (Gr.bytes (Sp.part g r k i)).length (ints .u8 (Gr.bytes (Sp.part g r k i))))
    (ho : w2.ownsRow base 34 1 v' (L.length + 1) (L.map (·.1) ++ [u])) (hg : (w1.alloc (.cells #[u] 34)).grownBy w2 v.ownBlock) (hv : v'.ownBlock = v.ownBlock ∨ v'.ownBlock = some (w1.alloc (.cells #[u] 34)).heap.size) :
    Sps base g r k w (L ++ [(u, Gr.bytes (Sp.part g r k i))]) (i + 1) v' w2 := by
  obtain ⟨h1, h2, h5, h6, h7⟩ := h
  have hba : Below wr.heap.size wr (w1.alloc (.cells #[u] 34)) := hb1.alloc hb1.size _
  refine ⟨by rw [Sp.ahead_succ, ← h1]; simp, by simp [h2], ?_, ?_, ?_⟩
  · exact h5.snoc hba ((Bq.own ho1).keep (fun b hP hlt => ⟨((Below.refl _ _).alloc (Nat.le_refl _) _ : Below w1.heap.size w1 (w1.alloc (.cells #[u] 34))).block b hlt, hP⟩)) h7 ho hg hv
  · exact (h6.trans (hba.mono h7)).grown hg (by simp; have := hb1.size; omega) (fun q hq => (h5.own.lt q hq).1)
  · have := hg.size; simp at this; have := hb1.size; omega
set_option maxHeartbeats 4000000 in
theorem rsplit19_any {w : World} {B : Nat} {g : Gd} {v : Value} (H : Gv w B g v) (hl : g.body.length ≤ 1000000000) {m : Int} (h1 : -9223372036854775808 ≤ m) (h2 : m ≤ 9223372036854775807) :
    Calls Try.prog 10 #[.int .i64 m, v] w (SplitPost (Sp.split m g) w) := by
  obtain ⟨b, A, c, w1, rfl, hb, hal, hsz, hx, hb1⟩ := boxedG H
  have HB1 : Hid (Below w.heap.size w w1) := Lib.hid (by rw [hb]; exact hb1)
  have HX := Lib.hid (fun W (hW : Below w1.heap.size w1 W) => hx.kept hW)
  obtain ⟨k0, k1, k2, k3, k4, k5, k6⟩ := hx.cells
  have hpc := hx.piece
  have hok := hx.ok
  have RM := Lib.hid (fun W => rroom19_any (w := W) h1 h2)
  have RC := Lib.hid (fun W => rcount19_any (w := W) (n := (g.body.length : Int)) h1 h2 (by omega) (by omega))
  have HSb := Lib.hid (fun h => Sp.split_bad (m := m) (g := g) h)
  have HSk := Lib.hid (fun h k => Sp.split_kind (m := m) (g := g) h k)
  have HSg := Lib.hid (fun h k => Sp.split_good (m := m) (g := g) h k)
  have HCo := Lib.hid (fun h => Sp.count_ok (m := m) (n := g.body.length) h)
  have hrl := Sp.room_le m
  obtain ⟨r, hr⟩ : ∃ r, Hid (Sp.room m = r) := ⟨_, Lib.hid rfl⟩
  rw [hr.out] at RM HSg HCo hrl
  obtain ⟨C, hC⟩ : ∃ C, Hid (Sp.count m (g.body.length : Int) = C) := ⟨_, Lib.hid rfl⟩
  rw [hC.out] at RC HSb HSk HSg HCo
  obtain ⟨k, x⟩ := C
  simp only at RC HSb HSk HSg HCo
  clear hx hb1 H hC hr
  have hgo : Hid (g.kind < 256) := Lib.hid hok.kind
  obtain ⟨n, hn⟩ : ∃ n, Hid (g.body.length = n) := ⟨_, Lib.hid rfl⟩
  have HPc := Lib.hid hpc
  have HOk := Lib.hid hok
  rw [hn.out] at hal k6 hl RC HCo ⊢
  have HPn : Hid (Piece w1 b (.slice A n c) g.body) := Lib.hid (by rw [← hn.out]; exact hpc)
  obtain ⟨gk, hgk⟩ : ∃ q, Hid (g.kind = q) := ⟨_, Lib.hid rfl⟩
  obtain ⟨gv, hgv⟩ : ∃ q, Hid (g.version = q) := ⟨_, Lib.hid rfl⟩
  obtain ⟨ge, hge⟩ : ∃ q, Hid (g.epoch = q) := ⟨_, Lib.hid rfl⟩
  obtain ⟨gi, hgi⟩ : ∃ q, Hid (g.id = q) := ⟨_, Lib.hid rfl⟩
  rw [hgk.out, hgv.out, hge.out, hgi.out] at hal ⊢
  rw [hgk.out] at k0 HSk HSg hgo
  rw [hgv.out] at k1
  rw [hge.out] at k2
  rw [hgi.out] at k3
  clear hpc hok
  by_cases hx0 : x = 0
  case neg =>
    have hne : ((x : Int) != 0) = true := by simp; omega
    rw [HSb.out hx0]
    go_enter Try.func10, Try.ntmps10
    go_wp2_with fail
    refine (RC.out _).mono ?_
    rintro e w2 ⟨rfl, rfl⟩
    go_wp2_with fail
    go_ret2
    exact SplitPost.bad HB1.out
  subst hx0
  by_cases hk1 : gk < 1
  · have hkd : decide ((gk : Int) < 1) = true := decide_eq_true (by omega)
    rw [HSk.out rfl (.inl hk1)]
    go_enter Try.func10, Try.ntmps10
    go_wp2_with fail
    refine (RC.out _).mono ?_
    rintro e w2 ⟨rfl, rfl⟩
    go_wp2_with fail
    go_ret2
    exact SplitPost.bad HB1.out
  by_cases hk2 : 2 < gk
  · have hkd : decide ((gk : Int) < 1) = false := decide_eq_false (by omega)
    have hkd2 : decide (2 < (gk : Int)) = true := decide_eq_true (by omega)
    rw [HSk.out rfl (.inr hk2)]
    go_enter Try.func10, Try.ntmps10
    go_wp2_with fail
    refine (RC.out _).mono ?_
    rintro e w2 ⟨rfl, rfl⟩
    go_wp2_with fail
    go_ret2
    exact SplitPost.bad HB1.out
  rw [HSg.out rfl (by omega)]
  obtain ⟨hr0, hkm, hkl⟩ := HCo.out rfl
  have hkd : decide ((gk : Int) < 1) = false := decide_eq_false (by omega)
  have hkd2 : decide (2 < (gk : Int)) = false := decide_eq_false (by omega)
  have HIn := Lib.hid (fun i (h : i < k) => Sp.many_in (n := n) (i := i) hr0 (by rw [← hkm]; exact h))
  have hk65 : k ≤ 65535 := by omega
  have hHk : Hid (¬ (gk < 1 ∨ 2 < gk)) := Lib.hid (by omega)
  clear hkm hkl HCo HSb HSk HSg hk1 hk2
  go_enter Try.func10, Try.ntmps10
  go_wp2_with fail
  refine (RC.out _).mono ?_
  rintro e w2 ⟨rfl, rfl⟩
  go_wp2_with fail
  go_loopw [8, 9] (fun v x wr => ∃ (L : List (Value × List Nat)) (i : Nat), i ≤ k ∧ x = .int .i64 (i : Int) ∧ Hid (Sps w2.heap.size g r k w2 L i v wr)) (fun _ x _ => k - (intOf x).toNat)
  case atStart => exact ⟨[], 0, by omega, rfl, Lib.hid ⟨rfl, rfl, BoAt.nil _ _, Below.refl _ _, Nat.le_refl _⟩⟩
  case round =>
    obtain ⟨L, i, hik, rfl, HP⟩ := hrel
    obtain ⟨Av, cv, rfl, hLc, _, _⟩ := HP.out.at_.size
    by_cases hlt : i < k
    · have hfn := HIn.out i hlt
      have HXr := Lib.hid (HX.out wr HP.out.below)
      have HPp := Lib.hid (HPn.out.below (HP.out.below.mono (by omega)))
      obtain ⟨fr, hfr⟩ : ∃ f, Hid (i * r = f) := ⟨_, Lib.hid rfl⟩
      rw [hfr.out] at hfn
      have hmul : (i : Int) * (r : Int) = (fr : Int) := by rw [← hfr.out, Int.natCast_mul]
      obtain ⟨s, hs⟩ : ∃ s, Hid (fr + r = s) := ⟨_, Lib.hid rfl⟩
      have hadd : (fr : Int) + (r : Int) = (s : Int) := by have := hs.out; omega
      have hsl : s ≤ 1000070000 := by have := hs.out; omega
      have hfs : fr ≤ s := by have := hs.out; omega
      have HCX : Hid (∀ W, Below wr.heap.size wr W → W.cell? ⟨b, 0, none⟩ = some (.int .u8 (gk : Int)) ∧ W.cell? ⟨b, 1, none⟩ = some (.int .u8 (gv : Int)) ∧ W.cell? ⟨b, 2, none⟩ = some (.int .u32 (ge : Int)) ∧ W.cell? ⟨b, 3, none⟩ = some (.int .u32 (gi : Int)) ∧ W.cell? ⟨b, 4, none⟩ = some (.int .u16 (g.index : Int)) ∧ W.cell? ⟨b, 5, none⟩ = some (.int .u16 (g.count : Int)) ∧ W.cell? ⟨b, 6, none⟩ = some (.slice A n c)) := Lib.hid (fun W hW => by
        have h := (HXr.out.kept hW).cells
        rw [hgk.out, hgv.out, hge.out, hgi.out, hn.out] at h
        exact h)
      have hcv1 : IntKind.u16.wrap (i : Int) = (i : Int) := by
        show (i : Int) % 65536 = _
        omega
      have hcv2 : IntKind.u16.wrap (k : Int) = (k : Int) := by
        show (k : Int) % 65536 = _
        omega
      have hnc : n ≤ c := by
        obtain ⟨_, _, e, _, _, h, _⟩ := HPn.out
        cases e
        rw [hn.out] at h
        exact h
      have hAk : (if c = fr then A else A.map (fun x => x.add fr)) = cutAt A c fr := rfl
      have HSee : Hid (∀ t, fr ≤ t → t ≤ n → (t = n ∧ n < s ∨ t = s) → ∀ W, Below w2.heap.size w2 W → Gv W W.heap.size (Sp.part g r k i) (.agg #[.int .u8 (gk : Int), .int .u8 (gv : Int), .int .u32 (ge : Int), .int .u32 (gi : Int), .int .u16 (i : Int), .int .u16 (k : Int), .slice (cutAt A c fr) (t - fr) (c - fr)])) := Lib.hid (fun t ht1 ht2 ht3 W hW => by
        have hlen : (Sp.part g r k i).body.length = t - fr := by
          rw [Sp.part_len, hn.out, hfr.out]
          have := hs.out
          omega
        obtain ⟨A', c', e, hse, hnu, hle, hmx⟩ := HPn.out
        cases e
        refine ⟨⟨cutAt A c fr, c - fr, ?_, ?_⟩, Sp.part_ok HOk.out hk65 hlt⟩
        · rw [hlen, ← hgk.out, ← hgv.out, ← hge.out, ← hgi.out]; rfl
        · rw [hlen]
          have hq : Sees .u8 w2 b (cutAt A c fr) (Sp.part g r k i).body := by
            show Sees .u8 w2 b (cutAt A c fr) ((g.body.drop (i * r)).take r)
            rw [hfr.out]
            exact (hse.cut (by rw [hn.out]; exact hfn) (by rw [hn.out] at hle ⊢; exact hle)).take r
          have hp : Piece w2 b (.slice (cutAt A c fr) (t - fr) (c - fr)) (Sp.part g r k i).body := ⟨_, _, by rw [hlen], hq, cutAt_null hnu, by rw [hlen]; omega, by omega⟩
          exact (hp.all.below hW).more hW.size)
      have hPl : (Sp.part g r k i).body.length ≤ 100000 := by rw [Sp.part_len]; omega
      obtain ⟨d0, d1, d2, d3, d4, d5, d6⟩ := HCX.out wr (Below.refl _ _)
      have HPn' := Lib.hid (fun w1 w2' v' u h1 h2 h3 h4 h5 => HP.out.next (w1 := w1) (w2 := w2') (v' := v') (u := u) h1 h2 h3 h4 h5)
      have HPb := Lib.hid HP.out.below
      have HPs := Lib.hid HP.out.size
      have HPo := Lib.hid HP.out.at_.own
      have HLi := Lib.hid HP.out.len
      have hL65 : L.length ≤ 65535 := by have := HP.out.len; omega
      obtain ⟨bs, hbs⟩ : ∃ l, Hid (Gr.bytes (Sp.part g r k i) = l) := ⟨_, Lib.hid rfl⟩
      have CB : Hid (∀ t, fr ≤ t → t ≤ n → (t = n ∧ n < s ∨ t = s) → ∀ W, Below w2.heap.size w2 W → Calls Try.prog 22 #[.agg #[.int .u8 (gk : Int), .int .u8 (gv : Int), .int .u32 (ge : Int), .int .u32 (gi : Int), .int .u16 (i : Int), .int .u16 (k : Int), .slice (cutAt A c fr) (t - fr) (c - fr)]] W (Made .u8 5 W.heap.size bs W)) := Lib.hid (fun t h1 h2 h3 W hW => by
        rw [← hbs.out]
        exact rbytes18_any (HSee.out t h1 h2 h3 W hW) hPl)
      rw [hbs.out] at HPn'
      clear HSee hPl HXr HP hfr
      by_cases hto : n < s
      · have hto' : (n : Int) < (s : Int) := by omega
        go_wp2_with fail
        refine (RM.out _).mono ?_
        rintro e w3 ⟨rfl, rfl⟩
        go_wp2_with fail
        refine (RM.out _).mono ?_
        rintro e w4 ⟨rfl, rfl⟩
        have CBt := Lib.hid (CB.out n hfn (Nat.le_refl _) (.inl ⟨rfl, hto⟩))
        clear CB hto
        go_wp2_with fail
        refine wp_region_fork (S := fun W => Below w4.heap.size w4 W) 19 (.take 0 (.take 1 (.take 2 (.take 3 (.take 4 (.take 5 (.take 6 (.take 7 (.take 8 (.take 9 (.take 10 (.take 11 (.take 12 (.take 13 (.take 14 (.take 15 (.take 16 (.take 17 (.step 18 (.step 19 .done)))))))))))))))))))) (by kernel_rfl) (by kernel_rfl) rfl (by kernel_rfl) (by rfl) (fun _ _ _ _ _ h => h) (Below.refl _ _).drew ?_
        obtain ⟨wx, hwx⟩ : ∃ W, w4.drew = W := ⟨_, rfl⟩
        have HS0 : Hid (Below w4.heap.size w4 wx) := Lib.hid (by rw [← hwx]; exact (Below.refl _ _).drew)
        rw [hwx]
        clear hwx
        iterate 18
          refine alongF_take (v := ?_) rfl (by rfl) ?_ ?_
          rotate_left
          · intro W hW; obtain ⟨k0, k1, k2, k3, k4, k5, k6⟩ := HCX.out W hW; clear hW; go_simp; try with_reducible rfl
          simp only [Act.put, List.setIfInBounds_toArray, List.set_cons_zero, List.set_cons_succ]
        refine alongF_step rfl (fun K hK => ?_)
        go_simp
        obtain ⟨y, wy, hgy, haly, hsy, hY0, hby⟩ := varG wx
        try rw [haly]
        try rw [hgy]
        have hb4 : Below w4.heap.size w4 wy := HS0.out.trans (hby.mono HS0.out.size)
        have HS1 := Lib.hid hb4
        have HY0 := Lib.hid hY0
        have hyl : w4.heap.size ≤ y := by have := HS0.out.size; omega
        refine hK.out _ _ HS1.out ?_
        clear hK K hby hb4 hsy hY0 haly hgy
        try simp only [Act.put, List.setIfInBounds_toArray, List.set_cons_zero, List.set_cons_succ]
        refine alongF_last rfl (fun K hK => ?_)
        refine step_store_row rfl rfl rfl rfl rfl HY0.out (gramI rfl) rfl (by simp [Value.oneCell']) ?_
        obtain ⟨wz, hz⟩ : ∃ W, wy.setRow y #[.int .u8 (gk : Int), .int .u8 (gv : Int), .int .u32 (ge : Int), .int .u32 (gi : Int), .int .u16 (i : Int), .int .u16 (k : Int), .slice (cutAt A c fr) (n - fr) (c - fr)] = W := ⟨_, rfl⟩
        try rw [hz]
        refine hK.out _ _ ?_
        clear hK K
        have HYz : Hid (Whole wz y 36 #[.int .u8 (gk : Int), .int .u8 (gv : Int), .int .u32 (ge : Int), .int .u32 (gi : Int), .int .u16 (i : Int), .int .u16 (k : Int), .slice (cutAt A c fr) (n - fr) (c - fr)]) := Lib.hid (by rw [← hz]; exact HY0.out.row _)
        have HBz : Hid (Below w4.heap.size w4 wz) := Lib.hid (by rw [← hz]; exact below_row HS1.out hyl _)
        clear hz
        have HBw : Hid (Below w2.heap.size w2 wz) := Lib.hid (HPb.out.trans (HBz.out.mono HPs.out))
        have CBz := Lib.hid (CBt.out wz HBw.out)
        have hz4 : w4.heap.size ≤ wz.heap.size := HBz.out.size
        have hz2 : w2.heap.size ≤ w4.heap.size := HPs.out
        go_wp2_with (refine wpList_load_struct Try.underlying36 (gramI rfl) rfl rfl rfl HYz.out ?_)
        refine (CBz.out).mono ?_
        rintro e w5 ⟨v5, rfl, ho5, hb5⟩
        obtain ⟨Au, cu, rfl, _⟩ := own_look ho5
        have HO := Lib.hid (own_lower1 ho5 hz4)
        have hbw : Below w4.heap.size w4 w5 := HBz.out.trans (hb5.mono hz4)
        have HB5 := Lib.hid hbw
        have hz5 : w4.heap.size ≤ w5.heap.size := hbw.size
        have ho2 : Hid ((w5.alloc (.cells #[.slice Au bs.length cu] 34)).ownsRow w2.heap.size 34 1 (.slice Av L.length cv) L.length (L.map (·.1))) := Lib.hid (own_below HPo.out (hbw.alloc hz5 _))
        clear ho5 hb5 hbw
        go_wp2_with (at_builtin; refine wpList_append_cells rowsT rowsI rfl (by decide) (by decide) _ _ rfl rfl w2.heap.size (.slice Av L.length cv) L.length (List.map (fun x : Value × List Nat => x.1) L) rfl ho2.out 1 1 [.slice Au bs.length cu] rfl rfl (fun h => by cases h) (by decide) (src_one _ _ _) (one_slice _ _ _) (by omega) (by simp; omega) ?_; intro v' w6 hr6 hg6 hv6)
        go_roundw
        case rel => exact ⟨L ++ [(.slice Au bs.length cu, bs)], i + 1, by omega, by go_num, Lib.hid (HPn'.out w5 w6 v' _ HB5.out HO.out hr6 hg6 hv6)⟩
        case measure => simp [intOf]; omega
      · have hto' : ¬ (n : Int) < (s : Int) := by omega
        have hsn : s ≤ n := by omega
        have hsc : s ≤ c := by omega
        go_wp2_with fail
        refine (RM.out _).mono ?_
        rintro e w3 ⟨rfl, rfl⟩
        go_wp2_with fail
        refine (RM.out _).mono ?_
        rintro e w4 ⟨rfl, rfl⟩
        have CBt := Lib.hid (CB.out s hfs hsn (.inr rfl))
        clear CB hto
        go_wp2_with fail
        refine wp_region_fork (S := fun W => Below w4.heap.size w4 W) 19 (.take 0 (.take 1 (.take 2 (.take 3 (.take 4 (.take 5 (.take 6 (.take 7 (.take 8 (.take 9 (.take 10 (.take 11 (.take 12 (.take 13 (.take 14 (.take 15 (.take 16 (.take 17 (.step 18 (.step 19 .done)))))))))))))))))))) (by kernel_rfl) (by kernel_rfl) rfl (by kernel_rfl) (by rfl) (fun _ _ _ _ _ h => h) (Below.refl _ _).drew ?_
        obtain ⟨wx, hwx⟩ : ∃ W, w4.drew = W := ⟨_, rfl⟩
        have HS0 : Hid (Below w4.heap.size w4 wx) := Lib.hid (by rw [← hwx]; exact (Below.refl _ _).drew)
        rw [hwx]
        clear hwx
        iterate 18
          refine alongF_take (v := ?_) rfl (by rfl) ?_ ?_
          rotate_left
          · intro W hW; obtain ⟨k0, k1, k2, k3, k4, k5, k6⟩ := HCX.out W hW; clear hW; go_simp; try with_reducible rfl
          simp only [Act.put, List.setIfInBounds_toArray, List.set_cons_zero, List.set_cons_succ]
        refine alongF_step rfl (fun K hK => ?_)
        go_simp
        obtain ⟨y, wy, hgy, haly, hsy, hY0, hby⟩ := varG wx
        try rw [haly]
        try rw [hgy]
        have hb4 : Below w4.heap.size w4 wy := HS0.out.trans (hby.mono HS0.out.size)
        have HS1 := Lib.hid hb4
        have HY0 := Lib.hid hY0
        have hyl : w4.heap.size ≤ y := by have := HS0.out.size; omega
        refine hK.out _ _ HS1.out ?_
        clear hK K hby hb4 hsy hY0 haly hgy
        try simp only [Act.put, List.setIfInBounds_toArray, List.set_cons_zero, List.set_cons_succ]
        refine alongF_last rfl (fun K hK => ?_)
        refine step_store_row rfl rfl rfl rfl rfl HY0.out (gramI rfl) rfl (by simp [Value.oneCell']) ?_
        obtain ⟨wz, hz⟩ : ∃ W, wy.setRow y #[.int .u8 (gk : Int), .int .u8 (gv : Int), .int .u32 (ge : Int), .int .u32 (gi : Int), .int .u16 (i : Int), .int .u16 (k : Int), .slice (cutAt A c fr) (s - fr) (c - fr)] = W := ⟨_, rfl⟩
        try rw [hz]
        refine hK.out _ _ ?_
        clear hK K
        have HYz : Hid (Whole wz y 36 #[.int .u8 (gk : Int), .int .u8 (gv : Int), .int .u32 (ge : Int), .int .u32 (gi : Int), .int .u16 (i : Int), .int .u16 (k : Int), .slice (cutAt A c fr) (s - fr) (c - fr)]) := Lib.hid (by rw [← hz]; exact HY0.out.row _)
        have HBz : Hid (Below w4.heap.size w4 wz) := Lib.hid (by rw [← hz]; exact below_row HS1.out hyl _)
        clear hz
        have HBw : Hid (Below w2.heap.size w2 wz) := Lib.hid (HPb.out.trans (HBz.out.mono HPs.out))
        have CBz := Lib.hid (CBt.out wz HBw.out)
        have hz4 : w4.heap.size ≤ wz.heap.size := HBz.out.size
        have hz2 : w2.heap.size ≤ w4.heap.size := HPs.out
        go_wp2_with (refine wpList_load_struct Try.underlying36 (gramI rfl) rfl rfl rfl HYz.out ?_)
        refine (CBz.out).mono ?_
        rintro e w5 ⟨v5, rfl, ho5, hb5⟩
        obtain ⟨Au, cu, rfl, _⟩ := own_look ho5
        have HO := Lib.hid (own_lower1 ho5 hz4)
        have hbw : Below w4.heap.size w4 w5 := HBz.out.trans (hb5.mono hz4)
        have HB5 := Lib.hid hbw
        have hz5 : w4.heap.size ≤ w5.heap.size := hbw.size
        have ho2 : Hid ((w5.alloc (.cells #[.slice Au bs.length cu] 34)).ownsRow w2.heap.size 34 1 (.slice Av L.length cv) L.length (L.map (·.1))) := Lib.hid (own_below HPo.out (hbw.alloc hz5 _))
        clear ho5 hb5 hbw
        go_wp2_with (at_builtin; refine wpList_append_cells rowsT rowsI rfl (by decide) (by decide) _ _ rfl rfl w2.heap.size (.slice Av L.length cv) L.length (List.map (fun x : Value × List Nat => x.1) L) rfl ho2.out 1 1 [.slice Au bs.length cu] rfl rfl (fun h => by cases h) (by decide) (src_one _ _ _) (one_slice _ _ _) (by omega) (by simp; omega) ?_; intro v' w6 hr6 hg6 hv6)
        go_roundw
        case rel => exact ⟨L ++ [(.slice Au bs.length cu, bs)], i + 1, by omega, by go_num, Lib.hid (HPn'.out w5 w6 v' _ HB5.out HO.out hr6 hg6 hv6)⟩
        case measure => simp [intOf]; omega
    · obtain rfl : i = k := by omega
      go_wp2_with fail
      go_ret2
      exact ⟨_, rfl, Bo.lower ⟨L, HP.out.all, HP.out.at_⟩ HB1.out.size, HB1.out.trans (HP.out.below.mono HB1.out.size)⟩
end Go.Proofs.Ytbhdgfpaoghnbaa
