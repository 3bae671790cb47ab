/- Contracts of the reference's Take, Fix, Uvar, Text of layer 6. -/
import Derived.Test.YtbhdgfpaoghnbaaCur
import Derived.Test.YtbhdgfpaoghnbaaPA
namespace Go.Proofs.Ytbhdgfpaoghnbaa
open Go.RowKit
set_option linter.unusedVariables false

/-- the bytes that are still to be read -/
theorem CuAt.sees_rest {w : World} {B h c p : Nat} {A : Option Addr} {f : List Nat} {e : Int} (H : CuAt w B h A c f p e) : Sees .u8 w B (cutAt A c p) (f.drop p) := H.sees.cut H.at_ H.le

set_option maxRecDepth 100000 in
theorem curtake_any {w : World} {B h : Nat} {l : List Nat} {e : Int} (n : Int) (h1 : -9223372036854775808 ≤ n) (h2 : n ≤ 9223372036854775807) (H : Cu w B h l e) :
    Calls Try.prog 25 #[.pointer (some ⟨h, 0, none⟩), .int .i64 n] w fun en w' => ∃ v, en = .returned v ∧ w'.ownsRow w.heap.size 5 1 v (Bm.take l e n).1.length (ints .u8 (Bm.take l e n).1) ∧ Cu w' B h (Bm.take l e n).2.1 (Bm.take l e n).2.2 ∧ Only h w w' := by
  have HH := Lib.hid H
  obtain ⟨A, c, f, p, H, hl⟩ := H
  have c2 := H.c2
  have hf2 := H.free 2
  have HA := Lib.hid H
  have Hl := Lib.hid hl
  by_cases he : e = 0
  · subst he
    by_cases hn : n < 0
    · rw [Bm.take_neg hn]
      clear H hl
      go_enter Try.func25, Try.ntmps25
      go_wp2_with fail
      go_ret
      exact ⟨_, rfl, World.ownsRow_nil _ _ 5 1, ⟨A, c, f, p, HA.out.fail 1, Hl.out⟩, (Only.refl _ _).setCell _ _⟩
    · obtain ⟨k, rfl⟩ : ∃ k : Nat, n = (k : Int) := ⟨n.toNat, by omega⟩
      have hcl := Lib.hid (curleft_any HH.out)
      by_cases hk : k ≤ l.length
      · rw [Bm.take_good hk]
        have hlen : l.length = f.length - p := by rw [← hl, List.length_drop]
        have hp := H.at_
        have hfew := H.few
        have hle := H.le
        have hmax := H.max
        unfold maxLen at hmax
        have c1 := H.c1
        have hf1 := H.free 1
        have hpk : p + k ≤ f.length := by omega
        have Hrest := Lib.hid (H.sees_rest)
        have Hlk : Hid ((l.take k).length = k) := by show (l.take k).length = k; rw [List.length_take]; omega
        obtain ⟨r, Hr⟩ : ∃ r, Hid (f.length = r) := ⟨_, rfl⟩
        obtain ⟨q, Hq⟩ : ∃ q, Hid (l.length = q) := ⟨_, rfl⟩
        rw [Hq.out] at hcl hk hlen
        rw [Hr.out] at hpk hlen hfew hle hp
        clear H hl
        go_enter Try.func25, Try.ntmps25
        go_wp2_with fail
        refine (hcl.out).mono ?_
        rintro e w1 ⟨rfl, m, rfl⟩
        go_wp2_with fail
        have H2 := (HA.out.drewN m).on (q := p + k) (z := (p : Int) + k) (by rw [Hr.out]; exact hpk) (by omega)
        have HO : Hid (Only h w ((w.drewN m).setCell ⟨h, 1, none⟩ (.int .i64 ((p : Int) + k)))) := ((Only.refl _ _).drewN _).setCell _ _
        have HS : Hid (Sees .u8 ((w.drewN m).setCell ⟨h, 1, none⟩ (.int .i64 ((p : Int) + k))) B (cutAt A c p) (f.drop p)) := Hrest.out.only (((Only.refl h w).drewN m).setCell 1 _) HA.out.base
        obtain ⟨w2, Hw2⟩ : ∃ w2, Hid ((w.drewN m).setCell ⟨h, 1, none⟩ (.int .i64 ((p : Int) + k)) = w2) := ⟨_, rfl⟩
        rw [Hw2.out] at H2 HO HS ⊢
        have d0 := H2.c0
        have d1 := H2.c1
        rw [Hr.out] at d0
        obtain ⟨s, Hs⟩ : ∃ s, Hid (p + k = s) := ⟨_, rfl⟩
        rw [Hs.out] at d1 H2 hpk
        have HH2 := Lib.hid H2
        have hsub : (s : Int) - (k : Int) = (p : Int) := by have := Hs.out; omega
        have hps : p ≤ s := by have := Hs.out; omega
        have hlt := H2.lt
        have HC : Hid (∀ W, Below w2.heap.size w2 W → W.cell? ⟨h, 0, none⟩ = some (.slice A r c) ∧ W.cell? ⟨h, 1, none⟩ = some (.int .i64 (s : Int))) := fun W hW => by
          have := H2.below hW hlt
          have e0 := this.c0
          rw [Hr.out] at e0
          exact ⟨e0, this.c1⟩
        have hAk : (if c = p then A else A.map (fun x => x.add p)) = cutAt A c p := rfl
        have hsp : s - p = k := by have := Hs.out; omega
        have hsc : s ≤ c := by omega
        have hwr : IntKind.i64.wrap (p : Int) = (p : Int) := by rw [IntKind.wrap_i64]; omega
        clear H2 c1 c2 hf1 hf2 h1
        refine wp_region_plans (fun W => Below w2.heap.size w2 W) [(1, true), (2, true), (3, true), (4, true), (5, true), (6, true), (7, true), (8, true), (9, true), (10, true), (11, true), (12, true), (13, true), (14, true), (15, true), (0, false), (16, false), (17, true)] (by kernel_rfl) (by kernel_rfl) rfl (by kernel_rfl) (fun _ _ _ _ _ h => h) (Below.refl _ _).drew ?_
        iterate 15
          refine alongs_take (v := ?_) rfl (by rfl) ?_ ?_
          rotate_left
          · intro W hW; obtain ⟨k0, k1⟩ := HC.out W hW; go_simp; try with_reducible rfl
          simp only [Act.put, List.setIfInBounds_toArray, List.set_cons_zero, List.set_cons_succ]
        refine alongs_step rfl (fun K hK => ?_)
        go_simp
        refine hK.out _ _ _ (fun W hW => hW) (((Below.refl _ _).drew).alloc (by simp) _) ?_
        clear hK K
        try simp only [Act.put, List.setIfInBounds_toArray, List.set_cons_zero, List.set_cons_succ]
        have ho0 : (w2.alloc (.cells #[] 5)).drew.ownsRow w2.heap.size 5 1 (.slice (some ⟨w2.heap.size, 0, none⟩) 0 0) 0 [] := World.ownsRow_lit w2 #[] 0 (Nat.le_refl _) (by decide) rfl
        have hsee : Sees .u8 (w2.alloc (.cells #[] 5)).drew B (cutAt A c p) (l.take k) := by
          rw [← Hl.out]
          exact (HS.out.below (((Below.refl w2.heap.size w2).alloc (Nat.le_refl _) _).drew.mono (by have := HA.out.base; omega))).take k
        refine alongs_step rfl (fun K hK => ?_)
        refine step_append_row byteT _ _ rfl rfl w2.heap.size _ 0 [] rfl ho0 k (c - p) rfl Hlk.out (cutAt_null HA.out.null) hsee (by omega) (by simp) ?_
        intro v2 w3 ho2 hg2
        rw [Nat.zero_add, List.nil_append] at ho2
        have hb2 : Below w2.heap.size w2 w3 := (((Below.refl _ _).alloc (Nat.le_refl _) _).drew).grown hg2 (by simp) (fun k hk => (ho0.lt k hk).1)
        refine hK.out _ _ _ (fun W hW => hW) hb2 ?_
        clear hK K hg2 ho0
        try simp only [Act.put, List.setIfInBounds_toArray, List.set_cons_zero, List.set_cons_succ]
        have Ho2 := Lib.hid ho2
        have Hb2 := Lib.hid hb2
        clear ho2 hb2
        refine alongs_take (v := ?_) rfl (by rfl) ?_ ?_
        rotate_left
        · intro W hW; go_simp; try with_reducible rfl
        simp only [Act.put, List.setIfInBounds_toArray, List.set_cons_zero, List.set_cons_succ]
        refine alongs_done ?_
        go_wp2_with fail
        go_ret
        exact ⟨_, rfl, own_lower (by rw [Hlk.out]; exact Ho2.out) HO.out.size, ⟨A, c, f, s, HH2.out.below Hb2.out hlt, by rw [← Hl.out, List.drop_drop, Hs.out]⟩, HO.out.trans (Only.of_below Hb2.out)⟩
      · rw [Bm.take_short (by omega)]
        obtain ⟨q, Hq⟩ : ∃ q, Hid (l.length = q) := ⟨_, rfl⟩
        have hq2 : q ≤ 1000000000000 := by have := Hq.out; have := HH.out.few; omega
        rw [Hq.out] at hcl hk
        clear H hl
        go_enter Try.func25, Try.ntmps25
        go_wp2_with fail
        refine (hcl.out).mono ?_
        rintro e w1 ⟨rfl, m, rfl⟩
        go_wp2_with fail
        go_ret
        exact ⟨_, rfl, World.ownsRow_nil _ _ 5 1, ⟨A, c, f, p, (HA.out.drewN m).fail 2, Hl.out⟩, ((Only.refl _ _).drewN m).setCell _ _⟩
  · rw [Bm.take_err he]
    have hne : (e != 0) = true := by simpa using he
    clear H hl he
    go_enter Try.func25, Try.ntmps25
    go_wp2_with fail
    go_ret
    exact ⟨_, rfl, World.ownsRow_nil _ _ 5 1, HH.out, Only.refl _ _⟩

set_option maxRecDepth 100000 in
theorem curfix_any {w : World} {B h : Nat} {l : List Nat} {e : Int} (s : Int) (h1 : -9223372036854775808 ≤ s) (h2 : s ≤ 9223372036854775807) (H : Cu w B h l e) :
    Calls Try.prog 24 #[.pointer (some ⟨h, 0, none⟩), .int .i64 s] w fun en w' => en = .returned (.int .u64 ((Bm.rfix l e s).1 : Int)) ∧ Cu w' B h (Bm.rfix l e s).2.1 (Bm.rfix l e s).2.2 ∧ Only h w w' := by
  have HH := Lib.hid H
  obtain ⟨A, c, f, p, H, hl⟩ := H
  have c2 := H.c2
  have hf2 := H.free 2
  have HA := Lib.hid H
  have Hl := Lib.hid hl
  clear H hl
  have HT : Hid (∃ (e1 : Int) (L : List Nat), (Bm.take l e1 s).1 = L ∧ L.length ≤ 8 ∧ (∀ x ∈ L, x < 256) ∧ Bm.rfix l e s = (Bm.be L, (Bm.take l e1 s).2.1, (Bm.take l e1 s).2.2) ∧ ((e = 0 ∧ (s < 1 ∨ 8 < s) ∧ e1 = 1) ∨ (e = 0 ∧ 1 ≤ s ∧ s ≤ 8 ∧ e1 = 0) ∨ (e ≠ 0 ∧ e1 = e))) := by
    by_cases he : e = 0
    · subst he
      by_cases hs : 1 ≤ s ∧ s ≤ 8
      · refine ⟨0, _, rfl, ?_⟩
        obtain ⟨k, rfl⟩ : ∃ k : Nat, s = (k : Int) := ⟨s.toNat, by omega⟩
        by_cases hk : k ≤ l.length
        · rw [Bm.take_good hk, Bm.rfix_good (by omega) (by omega) hk]
          exact ⟨by rw [List.length_take]; omega, fun x hx => HH.out.byte x (List.mem_of_mem_take hx), rfl, .inr (.inl ⟨rfl, by omega, by omega, rfl⟩)⟩
        · rw [Bm.take_short (by omega), Bm.rfix_short (by omega) (by omega) (by omega)]
          exact ⟨by simp, by simp, rfl, .inr (.inl ⟨rfl, by omega, by omega, rfl⟩)⟩
      · refine ⟨1, _, rfl, ?_⟩
        rw [Bm.take_err (by decide), Bm.rfix_arg (by omega)]
        exact ⟨by simp, by simp, rfl, .inl ⟨rfl, by omega, rfl⟩⟩
    · refine ⟨e, _, rfl, ?_⟩
      rw [Bm.take_err he, Bm.rfix_err he]
      exact ⟨by simp, by simp, rfl, .inr (.inr ⟨he, rfl⟩)⟩
  obtain ⟨e1, L, hL, hL8, hLb, hR, hcase⟩ := HT.out
  have HL := Lib.hid hL
  have HLb := Lib.hid hLb
  have HR := Lib.hid hR
  clear hL hLb hR HT
  rw [HR.out]
  rcases hcase with ⟨rfl, hs, rfl⟩ | ⟨rfl, hs1, hs8, rfl⟩ | ⟨he, rfl⟩
  · have HC : Hid (Cu (w.setCell ⟨h, 2, none⟩ (.int .i64 1)) B h l 1) := ⟨A, c, f, p, HA.out.fail 1, Hl.out⟩
    have HO1 : Hid (Only h w (w.setCell ⟨h, 2, none⟩ (.int .i64 1))) := (Only.refl _ _).setCell _ _
    by_cases hs1 : s < 1
    · clear hs
      go_enter Try.func24, Try.ntmps24
      go_wp2_with fail
      refine (curtake_any s h1 h2 HC.out).mono ?_
      rintro en w1 ⟨v, rfl, hown, hcu, ho⟩
      rw [HL.out] at hown
      obtain ⟨A2, c2', rfl⟩ := own_shape hown
      have HS := Lib.hid (Sees.of_own hown)
      have HCU := Lib.hid hcu
      have HO := Lib.hid (HO1.out.trans ho)
      obtain ⟨n, Hn⟩ : ∃ n, Hid (L.length = n) := ⟨_, rfl⟩
      rw [Hn.out] at hL8 ⊢
      clear hown hcu ho c2 hf2
      go_wp2_with fail
      go_loop [6, 7] (fun m i => ∃ (j a : Nat), j ≤ n ∧ i = .int .i64 j ∧ m = .int .u64 a ∧ Hid (a = Bm.be (L.take j))) (fun _ i => n - (intOf i).toNat)
      case atStart => exact ⟨0, 0, by omega, rfl, rfl, Lib.hid (by simp [Bm.be])⟩
      case round =>
        obtain ⟨j, a, hj, rfl, rfl, Ha⟩ := hrel
        by_cases hlt : j < n
        · obtain ⟨b, off, rfl, _, hcell⟩ := HS.out.at_ (i := j) (by rw [Hn.out]; exact hlt)
          have hx : L.getD j 0 < 256 := getD_lt HLb.out j
          have hlt2 : a < 72057594037927936 := by
            have := Bm.be_take L HLb.out j (by rw [Hn.out]; omega)
            rw [← Ha.out] at this
            exact Nat.lt_of_lt_of_le this (Bm.pow7 (by omega))
          have Hnext := Lib.hid (Bm.be_next L j (by rw [Hn.out]; exact hlt))
          obtain ⟨x, Hx⟩ : ∃ x, Hid (L.getD j 0 = x) := ⟨_, rfl⟩
          rw [Hx.out] at hcell hx Hnext
          go_wp2_with fail
          go_round
          case rel => exact ⟨j + 1, a * 256 + x, by omega, by go_num, by go_num, Lib.hid (by rw [Hnext.out, ← Ha.out])⟩
          case measure => simp [intOf]; omega
        · go_wp2_with fail
          go_ret
          have hjn : j = L.length := by rw [Hn.out]; omega
          refine ⟨ret_int ?_, ?_, HO.out⟩
          · rw [Ha.out, hjn, List.take_length]
          · exact HCU.out
    · have hs8 : 8 < s := by omega
      clear hs
      go_enter Try.func24, Try.ntmps24
      go_wp2_with fail
      refine (curtake_any s h1 h2 HC.out).mono ?_
      rintro en w1 ⟨v, rfl, hown, hcu, ho⟩
      rw [HL.out] at hown
      obtain ⟨A2, c2', rfl⟩ := own_shape hown
      have HS := Lib.hid (Sees.of_own hown)
      have HCU := Lib.hid hcu
      have HO := Lib.hid (HO1.out.trans ho)
      obtain ⟨n, Hn⟩ : ∃ n, Hid (L.length = n) := ⟨_, rfl⟩
      rw [Hn.out] at hL8 ⊢
      clear hown hcu ho c2 hf2
      go_wp2_with fail
      go_loop [6, 7] (fun m i => ∃ (j a : Nat), j ≤ n ∧ i = .int .i64 j ∧ m = .int .u64 a ∧ Hid (a = Bm.be (L.take j))) (fun _ i => n - (intOf i).toNat)
      case atStart => exact ⟨0, 0, by omega, rfl, rfl, Lib.hid (by simp [Bm.be])⟩
      case round =>
        obtain ⟨j, a, hj, rfl, rfl, Ha⟩ := hrel
        by_cases hlt : j < n
        · obtain ⟨b, off, rfl, _, hcell⟩ := HS.out.at_ (i := j) (by rw [Hn.out]; exact hlt)
          have hx : L.getD j 0 < 256 := getD_lt HLb.out j
          have hlt2 : a < 72057594037927936 := by
            have := Bm.be_take L HLb.out j (by rw [Hn.out]; omega)
            rw [← Ha.out] at this
            exact Nat.lt_of_lt_of_le this (Bm.pow7 (by omega))
          have Hnext := Lib.hid (Bm.be_next L j (by rw [Hn.out]; exact hlt))
          obtain ⟨x, Hx⟩ : ∃ x, Hid (L.getD j 0 = x) := ⟨_, rfl⟩
          rw [Hx.out] at hcell hx Hnext
          go_wp2_with fail
          go_round
          case rel => exact ⟨j + 1, a * 256 + x, by omega, by go_num, by go_num, Lib.hid (by rw [Hnext.out, ← Ha.out])⟩
          case measure => simp [intOf]; omega
        · go_wp2_with fail
          go_ret
          have hjn : j = L.length := by rw [Hn.out]; omega
          refine ⟨ret_int ?_, ?_, HO.out⟩
          · rw [Ha.out, hjn, List.take_length]
          · exact HCU.out
  · go_enter Try.func24, Try.ntmps24
    go_wp2_with fail
    refine (curtake_any s h1 h2 HH.out).mono ?_
    rintro en w1 ⟨v, rfl, hown, hcu, ho⟩
    rw [HL.out] at hown
    obtain ⟨A2, c2', rfl⟩ := own_shape hown
    have HS := Lib.hid (Sees.of_own hown)
    have HCU := Lib.hid hcu
    have HO := Lib.hid (ho)
    obtain ⟨n, Hn⟩ : ∃ n, Hid (L.length = n) := ⟨_, rfl⟩
    rw [Hn.out] at hL8 ⊢
    clear hown hcu ho c2 hf2
    go_wp2_with fail
    go_loop [6, 7] (fun m i => ∃ (j a : Nat), j ≤ n ∧ i = .int .i64 j ∧ m = .int .u64 a ∧ Hid (a = Bm.be (L.take j))) (fun _ i => n - (intOf i).toNat)
    case atStart => exact ⟨0, 0, by omega, rfl, rfl, Lib.hid (by simp [Bm.be])⟩
    case round =>
      obtain ⟨j, a, hj, rfl, rfl, Ha⟩ := hrel
      by_cases hlt : j < n
      · obtain ⟨b, off, rfl, _, hcell⟩ := HS.out.at_ (i := j) (by rw [Hn.out]; exact hlt)
        have hx : L.getD j 0 < 256 := getD_lt HLb.out j
        have hlt2 : a < 72057594037927936 := by
          have := Bm.be_take L HLb.out j (by rw [Hn.out]; omega)
          rw [← Ha.out] at this
          exact Nat.lt_of_lt_of_le this (Bm.pow7 (by omega))
        have Hnext := Lib.hid (Bm.be_next L j (by rw [Hn.out]; exact hlt))
        obtain ⟨x, Hx⟩ : ∃ x, Hid (L.getD j 0 = x) := ⟨_, rfl⟩
        rw [Hx.out] at hcell hx Hnext
        go_wp2_with fail
        go_round
        case rel => exact ⟨j + 1, a * 256 + x, by omega, by go_num, by go_num, Lib.hid (by rw [Hnext.out, ← Ha.out])⟩
        case measure => simp [intOf]; omega
      · go_wp2_with fail
        go_ret
        have hjn : j = L.length := by rw [Hn.out]; omega
        refine ⟨ret_int ?_, ?_, HO.out⟩
        · rw [Ha.out, hjn, List.take_length]
        · exact HCU.out
  · have hne : (e1 == 0) = false := by simpa using he
    clear he
    go_enter Try.func24, Try.ntmps24
    go_wp2_with fail
    refine (curtake_any s h1 h2 HH.out).mono ?_
    rintro en w1 ⟨v, rfl, hown, hcu, ho⟩
    rw [HL.out] at hown
    obtain ⟨A2, c2', rfl⟩ := own_shape hown
    have HS := Lib.hid (Sees.of_own hown)
    have HCU := Lib.hid hcu
    have HO := Lib.hid (ho)
    obtain ⟨n, Hn⟩ : ∃ n, Hid (L.length = n) := ⟨_, rfl⟩
    rw [Hn.out] at hL8 ⊢
    clear hown hcu ho c2 hf2
    go_wp2_with fail
    go_loop [6, 7] (fun m i => ∃ (j a : Nat), j ≤ n ∧ i = .int .i64 j ∧ m = .int .u64 a ∧ Hid (a = Bm.be (L.take j))) (fun _ i => n - (intOf i).toNat)
    case atStart => exact ⟨0, 0, by omega, rfl, rfl, Lib.hid (by simp [Bm.be])⟩
    case round =>
      obtain ⟨j, a, hj, rfl, rfl, Ha⟩ := hrel
      by_cases hlt : j < n
      · obtain ⟨b, off, rfl, _, hcell⟩ := HS.out.at_ (i := j) (by rw [Hn.out]; exact hlt)
        have hx : L.getD j 0 < 256 := getD_lt HLb.out j
        have hlt2 : a < 72057594037927936 := by
          have := Bm.be_take L HLb.out j (by rw [Hn.out]; omega)
          rw [← Ha.out] at this
          exact Nat.lt_of_lt_of_le this (Bm.pow7 (by omega))
        have Hnext := Lib.hid (Bm.be_next L j (by rw [Hn.out]; exact hlt))
        obtain ⟨x, Hx⟩ : ∃ x, Hid (L.getD j 0 = x) := ⟨_, rfl⟩
        rw [Hx.out] at hcell hx Hnext
        go_wp2_with fail
        go_round
        case rel => exact ⟨j + 1, a * 256 + x, by omega, by go_num, by go_num, Lib.hid (by rw [Hnext.out, ← Ha.out])⟩
        case measure => simp [intOf]; omega
      · go_wp2_with fail
        go_ret
        have hjn : j = L.length := by rw [Hn.out]; omega
        refine ⟨ret_int ?_, ?_, HO.out⟩
        · rw [Ha.out, hjn, List.take_length]
        · exact HCU.out
end Go.Proofs.Ytbhdgfpaoghnbaa
