/- The walk of the law GramBursts. -/
import Derived.Test.YtkakeojigndnnaaAwake18
namespace Go.Proofs.Ytkakeojigndnnaa
open Go.RowKit
set_option linter.unusedVariables false
set_option maxRecDepth 100000
set_option linter.unusedSimpArgs false

set_option maxHeartbeats 4000000 in
theorem gramBursts_walk (g : Gd) (v : Value) (p : Int) (m : Int) (w : World) (H : Gv w w.heap.size g v) (g1 : (Lit.int .i64 p).wf = true) (g2 : (Lit.int .u32 m).wf = true) :
    Calls Try.prog 6 #[v, .int .i64 p, .int .u32 m] w fun e w' => e = .returned (.bool true) ∧ Below w.heap.size w w' := by
  have h1 := bounds_i64 g1
  have h2 := bounds_u32 g2
  clear g1 g2
  obtain ⟨q, rfl⟩ := Int.eq_ofNat_of_zero_le h2.1
  have hm : q < 4294967296 := by omega
  have CP := Lib.hid (fun W (K : Gv W W.heap.size g v) => gput18_any K)
  obtain ⟨b, A, c, w1, rfl, hb, hal, hsz, hx, hb1⟩ := boxedG H
  have HB1 : Hid (Below w.heap.size w w1) := Lib.hid (by rw [hb]; exact hb1)
  have HX := Lib.hid (fun W (h : Below w1.heap.size w1 W) => (hx.kept h))
  obtain ⟨k0, k1, k2, k3, k4, k5, k6⟩ := hx.cells
  have hok := Lib.hid hx.ok
  obtain ⟨n, hn⟩ : ∃ n, Hid (g.body.length = n) := ⟨_, Lib.hid rfl⟩
  rw [hn.out] at hal k6 CP ⊢
  clear hx hb1 H hsz
  by_cases hbig : 1500 < n
  · go_enter Try.func6, Try.ntmps6
    go_wp2_with fail
    refine (awake18 _).mono ?_
    rintro e w2 ⟨rfl, hb2⟩
    have HB := Lib.hid (HB1.out.trans (hb2.mono HB1.out.size))
    go_wp2_with fail
    go_ret
    exact ⟨rfl, HB.out⟩
  have CP1 := Lib.hid (CP.out w1 (by have := (HX.out w1 (Below.refl _ _)).gv; rw [hn.out] at this; exact this.more (by have := (HX.out w1 (Below.refl _ _)).lt; omega)))
  by_cases hr : Gr.right g = 0
  case neg =>
    rw [Gr.put_bad hr] at CP1
    obtain ⟨er, her⟩ : ∃ er, Gr.right g = er := ⟨_, rfl⟩
    rw [her] at CP1 hr
    have hre : ¬ ((er : Int) = 0) := by omega
    clear her
    unfold GputPost at CP1
    go_enter Try.func6, Try.ntmps6
    go_wp2_with fail
    refine (CP1.out).mono ?_
    rintro e w2 ⟨v2, rfl, ho2, hb2⟩
    have HB2 := Lib.hid (HB1.out.trans (hb2.mono HB1.out.size))
    obtain ⟨A2, c2, rfl, _⟩ := own_look ho2
    clear hb2 ho2
    go_wp2_with fail
    refine (awake18 _).mono ?_
    rintro e w3 ⟨rfl, hb3⟩
    have HB := Lib.hid (HB2.out.trans (hb3.mono HB2.out.size))
    go_wp2_with fail
    go_ret
    exact ⟨rfl, HB.out⟩
  rw [Gr.put_good hr] at CP1
  have HBl := Lib.hid (Gr.bytes_length g)
  have HBy := Lib.hid (Gr.bytes_byte hok.out)
  have HGP := Lib.hid (Gr.get_put hok.out hr)
  have HFl := Lib.hid (Gr.get_burst hok.out hr p q hm)
  have HFb := Lib.hid (Cm.flip_byte (Gr.bytes g) p q HBy.out)
  rw [hn.out] at HBl
  obtain ⟨bs, hbs⟩ : ∃ l, Hid (Gr.bytes g = l) := ⟨_, Lib.hid rfl⟩
  rw [hbs.out] at HBl HBy HGP HFl HFb CP1
  obtain ⟨nb, hnb⟩ : ∃ k, Hid (bs.length = k) := ⟨_, Lib.hid rfl⟩
  have hnb2 : nb ≤ 1520 := by have := HBl.out; have := hnb.out; omega
  have HFn : Hid ((Cm.flip bs p q).length = nb) := Lib.hid ((Cm.flip_length _ _ _).trans hnb.out)
  obtain ⟨F, hF⟩ : ∃ F, Hid (Cm.flip bs p q = F) := ⟨_, Lib.hid rfl⟩
  have CF := Lib.hid (fun W (B : Nat) (A : Option Addr) (c : Nat) (hA : Sees .u8 W B A bs) (hB : B ≤ W.heap.size) => refFlipc_any B A bs nb c p q W hnb.out (by omega) hA HBy.out hB h1.1 h1.2 hm)
  rw [hF.out] at HFl HFb HFn CF
  obtain ⟨er, her, hcase⟩ : ∃ er, Hid ((Gr.get F).2 = er) ∧ Hid ((er = 0 ∧ F = bs) ∨ (er = 8 ∧ ¬ F = bs)) := by
    by_cases hF : F = bs
    · exact ⟨0, Lib.hid (by rw [hF, HGP.out]), Lib.hid (.inl ⟨rfl, hF⟩)⟩
    · exact ⟨8, Lib.hid (by rw [HFl.out hF]), Lib.hid (.inr ⟨rfl, hF⟩)⟩
  have CX := Lib.hid (fun W (B : Nat) v (h : Piece W B v F) (hB : B ≤ W.heap.size) => gget18_any h hB HFb.out (by rw [HFn.out]; omega))
  unfold GgetPost at CX
  rw [her.out] at CX
  unfold GputPost at CP1
  unfold NewsCount at CF
  clear HGP HFl HBl
  go_enter Try.func6, Try.ntmps6
  go_wp2_with fail
  refine (CP1.out).mono ?_
  rintro e w2 ⟨v2, rfl, ho2, hb2⟩
  have HB2 := Lib.hid (HB1.out.trans (hb2.mono HB1.out.size))
  have hp2 := own_piece ho2
  obtain ⟨A2, c2, rfl, hs2, hnl2, hle2, hmx2⟩ := hp2
  have HS2 := Lib.hid hs2
  rw [hnb.out]
  clear hb2 ho2 hs2 hnl2
  go_wp2_with fail
  refine (CF.out w2 w2.heap.size A2 c2 HS2.out (Nat.le_refl _)).mono ?_
  rintro e w3 ⟨gf, many, rfl, hgf, hI, hb3, hmany, hmb⟩
  rw [HFn.out]
  rw [hnb.out] at hmb
  have HB3 := Lib.hid (HB2.out.trans (hb3.mono HB2.out.size))
  have hPF : Piece w3 w3.heap.size (.slice (some ⟨gf, 0, none⟩) nb nb) F := ⟨_, nb, by rw [HFn.out], hI.sees.more hI.lt, (fun h => by cases h), by rw [HFn.out]; exact Nat.le_refl _, by unfold maxLen; omega⟩
  have CX3 := Lib.hid (CX.out w3 w3.heap.size _ hPF (Nat.le_refl _))
  have HM := Lib.hid hmany
  clear hb3 hI hPF hmany
  have hcs := hcase.out
  rcases hcs with ⟨rfl, hff⟩ | ⟨rfl, hff⟩
  · have hm0 : many = 0 := HM.out.2 hff
    subst hm0
    clear hff
    go_wp2_with fail
    refine (CX3.out).mono ?_
    rintro e w4 ⟨v4, rfl, hg4, hb4⟩
    obtain ⟨g4, A4, c4, p4, q4, rfl, hgz4, hal4, hW4, hst4, hx4, hc4, hlt4⟩ := var_gv hg4.gv
    have HW4 := Lib.hid hW4
    have HB4 := Lib.hid ((HB3.out).trans ((hb4.trans (hc4.mono hb4.size)).mono (HB3.out).size))
    clear hg4 hb4 hW4 hx4 hc4
    go_wp2_with (refine wpList_store_whole rfl rfl rfl rfl rfl HW4.out (gramI rfl) rfl (by simp [Value.oneCell']) ?_; rw [hst4])
    refine (awake18 _).mono ?_
    rintro e w5 ⟨rfl, hb5⟩
    have HB := Lib.hid (HB4.out.trans (hb5.mono HB4.out.size))
    go_wp2_with fail
    go_ret
    exact ⟨rfl, HB.out⟩
  · have hm0 : ¬ many = 0 := fun h => hff (HM.out.1 h)
    clear hff
    have hm1 : 0 < many := by omega
    have hm2 : ¬ ((many : Int) = 0) := by omega
    have hm3 : 0 < (many : Int) := by omega
    go_wp2_with fail
    refine (CX3.out).mono ?_
    rintro e w4 ⟨v4, rfl, hg4, hb4⟩
    obtain ⟨g4, A4, c4, p4, q4, rfl, hgz4, hal4, hW4, hst4, hx4, hc4, hlt4⟩ := var_gv hg4.gv
    have HW4 := Lib.hid hW4
    have HB4 := Lib.hid ((HB3.out).trans ((hb4.trans (hc4.mono hb4.size)).mono (HB3.out).size))
    clear hg4 hb4 hW4 hx4 hc4
    go_wp2_with (refine wpList_store_whole rfl rfl rfl rfl rfl HW4.out (gramI rfl) rfl (by simp [Value.oneCell']) ?_; rw [hst4])
    refine (awake18 _).mono ?_
    rintro e w5 ⟨rfl, hb5⟩
    have HB := Lib.hid (HB4.out.trans (hb5.mono HB4.out.size))
    go_wp2_with fail
    go_ret
    exact ⟨rfl, HB.out⟩
end Go.Proofs.Ytkakeojigndnnaa
