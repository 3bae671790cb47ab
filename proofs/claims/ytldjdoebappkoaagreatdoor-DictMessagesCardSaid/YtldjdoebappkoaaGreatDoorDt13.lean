/- Contract of dict.treeOf. -/
import Derived.Test.YtldjdoebappkoaaGreatDoorTd13
import Derived.Test.YtldjdoebappkoaaGreatDoorPE
import Derived.Deep.CutRange
namespace Go.Proofs.YtldjdoebappkoaaGreatDoor
open Go.RowKit
set_option linter.unusedVariables false
set_option maxRecDepth 100000
set_option linter.unusedSimpArgs false
open Gm

theorem dict13_any (w : World) : Calls Tryz.prog 36 #[] w fun e w' => e = .returned (.agg #[.int .i64 4, .int .i64 0, .string ⟨#[]⟩, .slice none 0 0, .slice none 0 0]) ∧ Below w.heap.size w w' := dict11_any w
theorem setQ13 {T : Tn} {s : ByteArray} (n : Nd Dm.base T true Dm.kQ (.mk 2 0 s [] [])) (hs : s.size ≤ 5) (w : World) :
    Calls Tryz.prog 35 #[.agg #[.int .i64 4, .int .i64 0, .string ⟨#[]⟩, .slice none 0 0, .slice none 0 0], .string ⟨#[113]⟩, .agg #[.int .i64 2, .int .i64 0, .string s, .slice none 0 0, .slice none 0 0]] w fun e w' => ∃ Ak ck At ct, e = .returned (.agg #[.int .i64 T.kind, .int .i64 T.n, .string T.s, .slice Ak T.keys.length ck, .slice At T.kids.length ct]) ∧ Tl w' w.heap.size T (.slice Ak T.keys.length ck) (.slice At T.kids.length ct) ∧ Below w.heap.size w w' := by
  refine (set11_at (t := Dm.base) (x := .mk 2 0 s [] []) n.few n.fewx (tv_plain (B := 0) (by omega) (by omega) (by unfold maxLen; simp [ByteArray.size])) ⟨#[113]⟩ (by unfold maxLen; simp [ByteArray.size]) (tv_plain (B := 0) (by omega) (by omega) (by unfold maxLen; omega))).mono ?_
  rintro e w' ⟨vk, vq, rfl, h, hb⟩
  have e1 : Dm.base.set ⟨#[113]⟩ (.mk 2 0 s [] []) = T := by rw [← n.eq, Dm.put_yes rfl]
  rw [e1] at h ⊢
  obtain ⟨Ak, ck, rfl, _⟩ := h.tv.keys
  obtain ⟨At, ct, rfl, _⟩ := h.tv.kids
  exact ⟨Ak, ck, At, ct, rfl, h, hb⟩
theorem ne_emp13 (s : ByteArray) : (s.toList != []) = !decide (s = ⟨#[]⟩) := by
  have h := str_eq s ⟨#[]⟩
  rw [show (⟨#[]⟩ : ByteArray).toList = [] from ByteArray.toList_mk []] at h
  show (!(s.toList == [])) = _
  rw [h]
theorem peer_ne13 (x y : Nat) : (!((decide ((x : Int) = 0)) && (decide ((y : Int) = 0)))) = (!decide (x = 0) || !decide (y = 0)) := by
  rw [Bool.eq_iff_iff]; simp
set_option maxHeartbeats 8000000 in
theorem treeof13_any {w : World} {B : Nat} {m : Ms} {v : Value} (H : Mv w B m v) (Tb0 : Tab w) (hlp : m.peers.length ≤ 1000000) (hlq : m.pairs.length ≤ 1000000) :
    Calls Tryz.prog 15 #[v] w fun e w' => ∃ vk vq, e = .returned (tval (Dm.tree m) vk vq) ∧ Tl w' w.heap.size (Dm.tree m) vk vq ∧ Below w.heap.size w w' := by
  obtain ⟨b, vp, vq, w1, rfl, hb, hal, hsz, hx, hb1⟩ := boxed H
  obtain ⟨r, w2, hr, hal2, hR, hb2, hs2⟩ := var_tree w1
  have hbr : b < r := by rw [← hr]; exact hx.lt
  have HBx := Lib.hid (hx.below hb2 hbr)
  have HR := Lib.hid hR
  have HBW : Hid (Below w.heap.size w w2) := Lib.hid (by rw [hb]; exact hb1.trans (hb2.mono (by omega)))
  have OK := Lib.hid H.ok
  have HTb := Lib.hid (fun W (h : Below w.heap.size w W) => Tb0.below h Tb0.lt)
  obtain ⟨Ap, cp, rfl, _⟩ := hx.peers.ex
  obtain ⟨Aq, cq, rfl, _⟩ := hx.pairs.ex
  have N1 := Lib.hid (nd1 m)
  have N2 := Lib.hid (nd2 m)
  have N3 := Lib.hid (nd3 m)
  have N4 := Lib.hid (nd4 m)
  have N5 := Lib.hid (nd5 m)
  have N6 := Lib.hid (nd6 m)
  have N7 := Lib.hid (nd7 m)
  have N8 := Lib.hid (nd8 m)
  have N9 := Lib.hid (nd9 m hlp)
  have N10 := Lib.hid (nd10 m hlp hlq)
  have hwb : w.heap.size ≤ b := by omega

  obtain ⟨T1, hT1⟩ : ∃ T, Hid (Dx.c1 m = T) := ⟨_, Lib.hid rfl⟩
  rw [hT1.out] at N1 N2
  obtain ⟨T2, hT2⟩ : ∃ T, Hid (Dx.c2 m = T) := ⟨_, Lib.hid rfl⟩
  rw [hT2.out] at N2 N3
  obtain ⟨T3, hT3⟩ : ∃ T, Hid (Dx.c3 m = T) := ⟨_, Lib.hid rfl⟩
  rw [hT3.out] at N3 N4
  obtain ⟨T4, hT4⟩ : ∃ T, Hid (Dx.c4 m = T) := ⟨_, Lib.hid rfl⟩
  rw [hT4.out] at N4 N5
  obtain ⟨T5, hT5⟩ : ∃ T, Hid (Dx.c5 m = T) := ⟨_, Lib.hid rfl⟩
  rw [hT5.out] at N5 N6
  obtain ⟨T6, hT6⟩ : ∃ T, Hid (Dx.c6 m = T) := ⟨_, Lib.hid rfl⟩
  rw [hT6.out] at N6 N7
  obtain ⟨T7, hT7⟩ : ∃ T, Hid (Dx.c7 m = T) := ⟨_, Lib.hid rfl⟩
  rw [hT7.out] at N7 N8
  obtain ⟨T8, hT8⟩ : ∃ T, Hid (Dx.c8 m = T) := ⟨_, Lib.hid rfl⟩
  rw [hT8.out] at N8 N9
  obtain ⟨T9, hT9⟩ : ∃ T, Hid (Dx.c9 m = T) := ⟨_, Lib.hid rfl⟩
  rw [hT9.out] at N9 N10
  obtain ⟨T10, hT10⟩ : ∃ T, Hid (Dx.c10 m = T) := ⟨_, Lib.hid rfl⟩
  rw [hT10.out] at N10
  rw [← Dx.c10_tree m, hT10.out]
  have zQ : Hid ((at_ m.kind).name.size ≤ 5) := Lib.hid (by have := (ent_bounds (bif known m.kind then m.kind.toNat else 0)).2.2.2.2; unfold at_; omega)
  have zI : Hid ((Dm.idS m.id).size = 8) := Lib.hid (by unfold Dm.idS; rw [strOf_size, Bm.fix_length])
  have zO : Hid ((Dm.peerS (m.pid, m.pad)).size = 10) := Lib.hid (by unfold Dm.peerS; rw [strOf_size, List.length_append, Bm.fix_length, Bm.fix_length])
  clear hx hR hb1 hb2 H hsz Tb0

  go_enter Tryz.func15, Tryz.ntmps15
  go_upto_region 1 with fail
  have hrw : r < w2.heap.size := by omega
  clear hb hal hr hal2 hs2
  go_cut [3] from 4 (fun s3 wx => ∃ g Ak ck At ct, s3 = .pointer (some ⟨g, 0, none⟩) ∧ Hid (Td w b r g m (.slice Ap m.peers.length cp) (.slice Aq m.pairs.length cq) T1 (.slice Ak T1.keys.length ck) (.slice At T1.kids.length ct) wx))
  case first =>
    go_wp2_with fail
    have HBx0 := Lib.hid (fun W (h : Below w2.heap.size w2 W) => HBx.out.kept h)
    refine wp_region_fork (S := fun W => Below w2.heap.size w2 W) 7 (.take 1 (.take 2 (.fork 0 6 (.fork 3 6 (.fork 4 6 (.fork 5 6 (.step 6 (.step 7 .done)) (.step 5 (.step 7 .done))) (.step 4 (.step 5 (.step 7 .done)))) (.step 3 (.step 4 (.step 5 (.step 7 .done))))) (.step 0 (.step 3 (.step 4 (.step 5 (.step 7 .done)))))))) (by kernel_rfl) (by kernel_rfl) rfl (by kernel_rfl) (by rfl) (fun _ _ _ _ _ h => h) (Below.refl _ _).drew ?_
    have HB0 : Hid (Below w2.heap.size w2 w2.drew) := Lib.hid (Below.refl _ _).drew
    obtain ⟨w3, hw3⟩ : ∃ W, w2.drew = W := ⟨_, rfl⟩
    rw [hw3] at HB0 ⊢
    clear hw3
    iterate 2
      refine alongF_take (v := ?_) rfl (by rfl) ?_ ?_
      rotate_left
      · intro W hW; obtain ⟨c0, c1, c2, c3, c4, c5, c6, c7, c8, c9, c10⟩ := (HBx0.out W hW).cells; clear hW; go_simp; try with_reducible rfl
      simp only [Act.put, List.setIfInBounds_toArray, List.set_cons_zero, List.set_cons_succ]
    refine alongF_fork rfl rfl (fun K hK => ?_) (fun K hK => ?_)
    rotate_left
    · go_simp
      obtain ⟨g, x1, hg, hal, hG, hb', hsg⟩ := var_tree w3
      try rw [hal]
      try rw [hg]
      have hb : Below (w3).heap.size (w3) x1 := by rw [hg]; exact hb'
      have HB1 := Lib.hid (HB0.out.trans (hb.mono HB0.out.size))
      have HG1 := Lib.hid hG
      have hgl : w2.heap.size ≤ g := by have := HB0.out.size; omega
      have hgw : r < g := by omega
      refine hK.out _ _ HB1.out ?_
      clear hK K hb hb' hG hsg
      clear hal hg
      try simp only [Act.put, List.setIfInBounds_toArray, List.set_cons_zero, List.set_cons_succ]
      refine alongF_step rfl (fun K hK => ?_)
      go_simp
      refine (dict13_any _).mono ?_
      rintro e x2 ⟨rfl, hb⟩
      have HB2 := Lib.hid (HB1.out.trans (hb.mono HB1.out.size))
      have HG2 := Lib.hid (HG1.out.below hb HG1.out.lt)
      refine hK.out _ _ HB2.out ?_
      clear hK K hb
      try simp only [Act.put, List.setIfInBounds_toArray, List.set_cons_zero, List.set_cons_succ]
      refine alongF_step rfl (fun K hK => ?_)
      go_simp
      refine (name_any m.kind OK.out.kind _ (HTb.out _ (HBW.out.trans (HB2.out.mono HBW.out.size)))).mono ?_
      rintro e x3 ⟨rfl, hb⟩
      have HB3 := Lib.hid (HB2.out.trans (hb.mono HB2.out.size))
      have HG3 := Lib.hid (HG2.out.below hb HG2.out.lt)
      refine hK.out _ _ HB3.out ?_
      clear hK K hb
      try simp only [Act.put, List.setIfInBounds_toArray, List.set_cons_zero, List.set_cons_succ]
      refine alongF_step rfl (fun K hK => ?_)
      go_simp
      refine (text13_any _ _).mono ?_
      rintro e x4 ⟨rfl, hb⟩
      have HB4 := Lib.hid (HB3.out.trans (hb.mono HB3.out.size))
      have HG4 := Lib.hid (HG3.out.below hb HG3.out.lt)
      refine hK.out _ _ HB4.out ?_
      clear hK K hb
      try simp only [Act.put, List.setIfInBounds_toArray, List.set_cons_zero, List.set_cons_succ]
      refine alongF_step rfl (fun K hK => ?_)
      go_simp
      refine (setQ13 N1.out zQ.out _).mono ?_
      rintro e x5 ⟨Ak, ck, At, ct, rfl, hs, hb⟩
      have HB5 := Lib.hid (HB4.out.trans (hb.mono HB4.out.size))
      have HG5 := Lib.hid (HG4.out.below hb HG4.out.lt)
      have HT5 : Hid (Tp x5 (fun y => r < y ∧ y ≠ g) T1 (.slice Ak T1.keys.length ck) (.slice At T1.kids.length ct)) := Lib.hid (hs.tp.any (fun y hy => by have := HG4.out.lt; have := HB4.out.size; omega))
      refine hK.out _ _ HB5.out ?_
      clear hK K hb hs
      try simp only [Act.put, List.setIfInBounds_toArray, List.set_cons_zero, List.set_cons_succ]
      refine alongF_last rfl (fun K hK => ?_)
      refine step_store_whole rfl rfl rfl rfl rfl HG5.out (treeI rfl) rfl (by simp [Value.oneCell']) ?_
      refine hK.out _ _ ?_
      clear hK K
      go_wp2_with fail
      go_meet
      have hbw : Below w2.heap.size w2 (x5.setRow g #[.int .i64 T1.kind, .int .i64 T1.n, .string T1.s, .slice Ak T1.keys.length ck, .slice At T1.kids.length ct]) := below_row HB5.out hgl _
      exact ⟨g, Ak, ck, At, ct, rfl, Lib.hid ⟨HBx0.out _ hbw, HR.out.below hbw HR.out.lt, HG5.out.row _, HT5.out.keep (fun y p q => ⟨p, setRow_other x5 g y _ p.2⟩), HBW.out.trans (hbw.mono HBW.out.size), ⟨hwb, hbr, hgw⟩⟩⟩
    · go_simp
      refine (dict13_any _).mono ?_
      rintro e x6 ⟨rfl, hb⟩
      have HB6 := Lib.hid (HB0.out.trans (hb.mono HB0.out.size))
      refine hK.out _ _ HB6.out ?_
      clear hK K hb
      try simp only [Act.put, List.setIfInBounds_toArray, List.set_cons_zero, List.set_cons_succ]
      refine alongF_fork rfl rfl (fun K hK => ?_) (fun K hK => ?_)
      rotate_left
      · go_simp
        obtain ⟨g, x7, hg, hal, hG, hb', hsg⟩ := var_tree x6
        try rw [hal]
        try rw [hg]
        have hb : Below (x6).heap.size (x6) x7 := by rw [hg]; exact hb'
        have HB7 := Lib.hid (HB6.out.trans (hb.mono HB6.out.size))
        have HG7 := Lib.hid hG
        have hgl : w2.heap.size ≤ g := by have := HB6.out.size; omega
        have hgw : r < g := by omega
        refine hK.out _ _ HB7.out ?_
        clear hK K hb hb' hG hsg
        clear hal hg
        try simp only [Act.put, List.setIfInBounds_toArray, List.set_cons_zero, List.set_cons_succ]
        refine alongF_step rfl (fun K hK => ?_)
        go_simp
        refine (name_any m.kind OK.out.kind _ (HTb.out _ (HBW.out.trans (HB7.out.mono HBW.out.size)))).mono ?_
        rintro e x8 ⟨rfl, hb⟩
        have HB8 := Lib.hid (HB7.out.trans (hb.mono HB7.out.size))
        have HG8 := Lib.hid (HG7.out.below hb HG7.out.lt)
        refine hK.out _ _ HB8.out ?_
        clear hK K hb
        try simp only [Act.put, List.setIfInBounds_toArray, List.set_cons_zero, List.set_cons_succ]
        refine alongF_step rfl (fun K hK => ?_)
        go_simp
        refine (text13_any _ _).mono ?_
        rintro e x9 ⟨rfl, hb⟩
        have HB9 := Lib.hid (HB8.out.trans (hb.mono HB8.out.size))
        have HG9 := Lib.hid (HG8.out.below hb HG8.out.lt)
        refine hK.out _ _ HB9.out ?_
        clear hK K hb
        try simp only [Act.put, List.setIfInBounds_toArray, List.set_cons_zero, List.set_cons_succ]
        refine alongF_step rfl (fun K hK => ?_)
        go_simp
        refine (setQ13 N1.out zQ.out _).mono ?_
        rintro e x10 ⟨Ak, ck, At, ct, rfl, hs, hb⟩
        have HB10 := Lib.hid (HB9.out.trans (hb.mono HB9.out.size))
        have HG10 := Lib.hid (HG9.out.below hb HG9.out.lt)
        have HT10 : Hid (Tp x10 (fun y => r < y ∧ y ≠ g) T1 (.slice Ak T1.keys.length ck) (.slice At T1.kids.length ct)) := Lib.hid (hs.tp.any (fun y hy => by have := HG9.out.lt; have := HB9.out.size; omega))
        refine hK.out _ _ HB10.out ?_
        clear hK K hb hs
        try simp only [Act.put, List.setIfInBounds_toArray, List.set_cons_zero, List.set_cons_succ]
        refine alongF_last rfl (fun K hK => ?_)
        refine step_store_whole rfl rfl rfl rfl rfl HG10.out (treeI rfl) rfl (by simp [Value.oneCell']) ?_
        refine hK.out _ _ ?_
        clear hK K
        go_wp2_with fail
        go_meet
        have hbw : Below w2.heap.size w2 (x10.setRow g #[.int .i64 T1.kind, .int .i64 T1.n, .string T1.s, .slice Ak T1.keys.length ck, .slice At T1.kids.length ct]) := below_row HB10.out hgl _
        exact ⟨g, Ak, ck, At, ct, rfl, Lib.hid ⟨HBx0.out _ hbw, HR.out.below hbw HR.out.lt, HG10.out.row _, HT10.out.keep (fun y p q => ⟨p, setRow_other x10 g y _ p.2⟩), HBW.out.trans (hbw.mono HBW.out.size), ⟨hwb, hbr, hgw⟩⟩⟩
      · go_simp
        refine (name_any m.kind OK.out.kind _ (HTb.out _ (HBW.out.trans (HB6.out.mono HBW.out.size)))).mono ?_
        rintro e x11 ⟨rfl, hb⟩
        have HB11 := Lib.hid (HB6.out.trans (hb.mono HB6.out.size))
        refine hK.out _ _ HB11.out ?_
        clear hK K hb
        try simp only [Act.put, List.setIfInBounds_toArray, List.set_cons_zero, List.set_cons_succ]
        refine alongF_fork rfl rfl (fun K hK => ?_) (fun K hK => ?_)
        rotate_left
        · go_simp
          obtain ⟨g, x12, hg, hal, hG, hb', hsg⟩ := var_tree x11
          try rw [hal]
          try rw [hg]
          have hb : Below (x11).heap.size (x11) x12 := by rw [hg]; exact hb'
          have HB12 := Lib.hid (HB11.out.trans (hb.mono HB11.out.size))
          have HG12 := Lib.hid hG
          have hgl : w2.heap.size ≤ g := by have := HB11.out.size; omega
          have hgw : r < g := by omega
          refine hK.out _ _ HB12.out ?_
          clear hK K hb hb' hG hsg
          clear hal hg
          try simp only [Act.put, List.setIfInBounds_toArray, List.set_cons_zero, List.set_cons_succ]
          refine alongF_step rfl (fun K hK => ?_)
          go_simp
          refine (text13_any _ _).mono ?_
          rintro e x13 ⟨rfl, hb⟩
          have HB13 := Lib.hid (HB12.out.trans (hb.mono HB12.out.size))
          have HG13 := Lib.hid (HG12.out.below hb HG12.out.lt)
          refine hK.out _ _ HB13.out ?_
          clear hK K hb
          try simp only [Act.put, List.setIfInBounds_toArray, List.set_cons_zero, List.set_cons_succ]
          refine alongF_step rfl (fun K hK => ?_)
          go_simp
          refine (setQ13 N1.out zQ.out _).mono ?_
          rintro e x14 ⟨Ak, ck, At, ct, rfl, hs, hb⟩
          have HB14 := Lib.hid (HB13.out.trans (hb.mono HB13.out.size))
          have HG14 := Lib.hid (HG13.out.below hb HG13.out.lt)
          have HT14 : Hid (Tp x14 (fun y => r < y ∧ y ≠ g) T1 (.slice Ak T1.keys.length ck) (.slice At T1.kids.length ct)) := Lib.hid (hs.tp.any (fun y hy => by have := HG13.out.lt; have := HB13.out.size; omega))
          refine hK.out _ _ HB14.out ?_
          clear hK K hb hs
          try simp only [Act.put, List.setIfInBounds_toArray, List.set_cons_zero, List.set_cons_succ]
          refine alongF_last rfl (fun K hK => ?_)
          refine step_store_whole rfl rfl rfl rfl rfl HG14.out (treeI rfl) rfl (by simp [Value.oneCell']) ?_
          refine hK.out _ _ ?_
          clear hK K
          go_wp2_with fail
          go_meet
          have hbw : Below w2.heap.size w2 (x14.setRow g #[.int .i64 T1.kind, .int .i64 T1.n, .string T1.s, .slice Ak T1.keys.length ck, .slice At T1.kids.length ct]) := below_row HB14.out hgl _
          exact ⟨g, Ak, ck, At, ct, rfl, Lib.hid ⟨HBx0.out _ hbw, HR.out.below hbw HR.out.lt, HG14.out.row _, HT14.out.keep (fun y p q => ⟨p, setRow_other x14 g y _ p.2⟩), HBW.out.trans (hbw.mono HBW.out.size), ⟨hwb, hbr, hgw⟩⟩⟩
        · go_simp
          refine (text13_any _ _).mono ?_
          rintro e x15 ⟨rfl, hb⟩
          have HB15 := Lib.hid (HB11.out.trans (hb.mono HB11.out.size))
          refine hK.out _ _ HB15.out ?_
          clear hK K hb
          try simp only [Act.put, List.setIfInBounds_toArray, List.set_cons_zero, List.set_cons_succ]
          refine alongF_fork rfl rfl (fun K hK => ?_) (fun K hK => ?_)
          rotate_left
          · go_simp
            obtain ⟨g, x16, hg, hal, hG, hb', hsg⟩ := var_tree x15
            try rw [hal]
            try rw [hg]
            have hb : Below (x15).heap.size (x15) x16 := by rw [hg]; exact hb'
            have HB16 := Lib.hid (HB15.out.trans (hb.mono HB15.out.size))
            have HG16 := Lib.hid hG
            have hgl : w2.heap.size ≤ g := by have := HB15.out.size; omega
            have hgw : r < g := by omega
            refine hK.out _ _ HB16.out ?_
            clear hK K hb hb' hG hsg
            clear hal hg
            try simp only [Act.put, List.setIfInBounds_toArray, List.set_cons_zero, List.set_cons_succ]
            refine alongF_step rfl (fun K hK => ?_)
            go_simp
            refine (setQ13 N1.out zQ.out _).mono ?_
            rintro e x17 ⟨Ak, ck, At, ct, rfl, hs, hb⟩
            have HB17 := Lib.hid (HB16.out.trans (hb.mono HB16.out.size))
            have HG17 := Lib.hid (HG16.out.below hb HG16.out.lt)
            have HT17 : Hid (Tp x17 (fun y => r < y ∧ y ≠ g) T1 (.slice Ak T1.keys.length ck) (.slice At T1.kids.length ct)) := Lib.hid (hs.tp.any (fun y hy => by have := HG16.out.lt; have := HB16.out.size; omega))
            refine hK.out _ _ HB17.out ?_
            clear hK K hb hs
            try simp only [Act.put, List.setIfInBounds_toArray, List.set_cons_zero, List.set_cons_succ]
            refine alongF_last rfl (fun K hK => ?_)
            refine step_store_whole rfl rfl rfl rfl rfl HG17.out (treeI rfl) rfl (by simp [Value.oneCell']) ?_
            refine hK.out _ _ ?_
            clear hK K
            go_wp2_with fail
            go_meet
            have hbw : Below w2.heap.size w2 (x17.setRow g #[.int .i64 T1.kind, .int .i64 T1.n, .string T1.s, .slice Ak T1.keys.length ck, .slice At T1.kids.length ct]) := below_row HB17.out hgl _
            exact ⟨g, Ak, ck, At, ct, rfl, Lib.hid ⟨HBx0.out _ hbw, HR.out.below hbw HR.out.lt, HG17.out.row _, HT17.out.keep (fun y p q => ⟨p, setRow_other x17 g y _ p.2⟩), HBW.out.trans (hbw.mono HBW.out.size), ⟨hwb, hbr, hgw⟩⟩⟩
          · go_simp
            refine (setQ13 N1.out zQ.out _).mono ?_
            rintro e x18 ⟨Ak, ck, At, ct, rfl, hs, hb⟩
            have HB18 := Lib.hid (HB15.out.trans (hb.mono HB15.out.size))
            have HS18 : Hid (Tp x18 (fun y => r < y) T1 (.slice Ak T1.keys.length ck) (.slice At T1.kids.length ct)) := Lib.hid (hs.tp.any (fun y hy => by have := HB15.out.size; omega))
            refine hK.out _ _ HB18.out ?_
            clear hK K hb hs
            try simp only [Act.put, List.setIfInBounds_toArray, List.set_cons_zero, List.set_cons_succ]
            refine alongF_step rfl (fun K hK => ?_)
            go_simp
            obtain ⟨g, x19, hg, hal, hG, hb', hsg⟩ := var_tree x18
            try rw [hal]
            try rw [hg]
            have hb : Below (x18).heap.size (x18) x19 := by rw [hg]; exact hb'
            have HB19 := Lib.hid (HB18.out.trans (hb.mono HB18.out.size))
            have HS19 := Lib.hid (HS18.out.keep (fun y p q => ⟨p, hb.block y q⟩))
            have HG19 := Lib.hid hG
            have hgl : w2.heap.size ≤ g := by have := HB18.out.size; omega
            have hgw : r < g := by omega
            have HT19 : Hid (Tp x19 (fun y => r < y ∧ y ≠ g) T1 (.slice Ak T1.keys.length ck) (.slice At T1.kids.length ct)) := Lib.hid (HS18.out.keep (fun y p q => ⟨⟨p, by omega⟩, hb.block y q⟩))
            refine hK.out _ _ HB19.out ?_
            clear hK K hb hb' hG hsg
            clear hal hg
            try simp only [Act.put, List.setIfInBounds_toArray, List.set_cons_zero, List.set_cons_succ]
            refine alongF_last rfl (fun K hK => ?_)
            refine step_store_whole rfl rfl rfl rfl rfl HG19.out (treeI rfl) rfl (by simp [Value.oneCell']) ?_
            refine hK.out _ _ ?_
            clear hK K
            go_wp2_with fail
            go_meet
            have hbw : Below w2.heap.size w2 (x19.setRow g #[.int .i64 T1.kind, .int .i64 T1.n, .string T1.s, .slice Ak T1.keys.length ck, .slice At T1.kids.length ct]) := below_row HB19.out hgl _
            exact ⟨g, Ak, ck, At, ct, rfl, Lib.hid ⟨HBx0.out _ hbw, HR.out.below hbw HR.out.lt, HG19.out.row _, HT19.out.keep (fun y p q => ⟨p, setRow_other x19 g y _ p.2⟩), HBW.out.trans (hbw.mono HBW.out.size), ⟨hwb, hbr, hgw⟩⟩⟩
  case rest =>
  obtain ⟨g, Ak, ck, At, ct, rfl, HN⟩ := hcut
  clear HBx HR HBW
  have hrg := HN.out.lt
  have HQ : Hid (((m.code : Int) != 0) = !decide (m.code = 0)) := Lib.hid (by rw [Bool.eq_iff_iff]; simp)
  have hwr : IntKind.i64.wrap (m.code : Int) = (m.code : Int) := by have := OK.out.code; rw [IntKind.wrap_i64]; omega
  have HF := Lib.hid (fun W (hW : Below wc.heap.size wc W) => HN.out.behind hW)
  go_wp2_with fail
  refine wp_region_last (S := fun W => Below wc.heap.size wc W) 9 [(0, true), (1, true), (2, true), (3, true), (4, true), (5, true), (6, true), (7, false), (8, false), (9, false)] (by kernel_rfl) (by kernel_rfl) rfl (by kernel_rfl) (by rfl) (fun _ _ _ _ _ h => h) (Below.refl _ _).drew ?_
  iterate 7
    refine alongL_take (v := ?_) rfl (by rfl) ?_ ?_
    rotate_left
    · intro W hW; have hN := HF.out W hW; obtain ⟨c0, c1, c2, c3, c4, c5, c6, c7, c8, c9, c10⟩ := hN.box.cells; obtain ⟨d0, d1, d2, d3, d4⟩ := hN.cells; clear hW hN; go_simp; try with_reducible rfl
    simp only [Act.put, List.setIfInBounds_toArray, List.set_cons_zero, List.set_cons_succ]
  have HB0 : Hid (Below wc.heap.size wc wc.drew) := Lib.hid (Below.refl _ _).drew
  have HD := Lib.hid (HF.out _ HB0.out)
  refine alongL_step rfl (fun K hK => ?_)
  go_simp
  refine (int13_any _ _).mono ?_
  rintro e x1 ⟨rfl, hb⟩
  have HB1 := Lib.hid (HB0.out.trans (hb.mono HB0.out.size))
  have HD1 := Lib.hid (HD.out.behind hb)
  refine hK.out _ _ HB1.out ?_
  clear hK K hb HD
  try simp only [Act.put, List.setIfInBounds_toArray, List.set_cons_zero, List.set_cons_succ]
  refine alongL_step rfl (fun K hK => ?_)
  go_simp
  try rw [HQ.out]
  refine (HD1.out.leaf (by omega) (by have := OK.out.code; omega) (by unfold maxLen; simp [ByteArray.size]) N2.out (by decide)).mono ?_
  rintro e x2 ⟨Ak2, ck2, At2, ct2, rfl, h1, hp1, hb⟩
  have HB2 := Lib.hid (HB1.out.trans (hb.mono HB1.out.size))
  have HS := Lib.hid h1
  have HPs := Lib.hid hp1
  refine hK.out _ _ HB2.out ?_
  clear hK K h1 hp1 hb HD1
  try simp only [Act.put, List.setIfInBounds_toArray, List.set_cons_zero, List.set_cons_succ]
  refine alongL_last rfl (fun K hK => ?_)
  refine step_store_whole rfl rfl rfl rfl rfl HS.out.tr (treeI rfl) rfl (by simp [Value.oneCell']) ?_
  refine hK.out _ _ ?_
  clear hK K
  have HN1 := Lib.hid (HS.out.put HPs.out)
  obtain ⟨y3, hy⟩ : ∃ W, x2.setRow g #[.int .i64 T2.kind, .int .i64 T2.n, .string T2.s, .slice Ak2 T2.keys.length ck2, .slice At2 T2.kids.length ct2] = W := ⟨_, rfl⟩
  rw [hy] at HN1 ⊢
  clear HN HF HS HPs HB0 HB1 HB2 hy HQ hwr
  have HN := HN1
  clear HN1
  have HF := Lib.hid (fun W (hW : Below y3.heap.size y3 W) => HN.out.behind hW)
  go_wp2_with fail
  refine wp_region_last (S := fun W => Below y3.heap.size y3 W) 5 [(0, true), (1, true), (2, true), (3, false), (4, false), (5, false)] (by kernel_rfl) (by kernel_rfl) rfl (by kernel_rfl) (by rfl) (fun _ _ _ _ _ h => h) (Below.refl _ _).drew ?_
  iterate 3
    refine alongL_take (v := ?_) rfl (by rfl) ?_ ?_
    rotate_left
    · intro W hW; have hN := HF.out W hW; obtain ⟨c0, c1, c2, c3, c4, c5, c6, c7, c8, c9, c10⟩ := hN.box.cells; obtain ⟨d0, d1, d2, d3, d4⟩ := hN.cells; clear hW hN; go_simp; try with_reducible rfl
    simp only [Act.put, List.setIfInBounds_toArray, List.set_cons_zero, List.set_cons_succ]
  have HB0 : Hid (Below y3.heap.size y3 y3.drew) := Lib.hid (Below.refl _ _).drew
  have HD := Lib.hid (HF.out _ HB0.out)
  refine alongL_step rfl (fun K hK => ?_)
  go_simp
  refine (int13_any _ _).mono ?_
  rintro e x1 ⟨rfl, hb⟩
  have HB1 := Lib.hid (HB0.out.trans (hb.mono HB0.out.size))
  have HD1 := Lib.hid (HD.out.behind hb)
  refine hK.out _ _ HB1.out ?_
  clear hK K hb HD
  try simp only [Act.put, List.setIfInBounds_toArray, List.set_cons_zero, List.set_cons_succ]
  refine alongL_step rfl (fun K hK => ?_)
  go_simp
  refine (HD1.out.leaf (by omega) (by omega) (by unfold maxLen; simp [ByteArray.size]) N3.out (by decide)).mono ?_
  rintro e x2 ⟨Ak3, ck3, At3, ct3, rfl, h1, hp1, hb⟩
  have HB2 := Lib.hid (HB1.out.trans (hb.mono HB1.out.size))
  have HS := Lib.hid h1
  have HPs := Lib.hid hp1
  refine hK.out _ _ HB2.out ?_
  clear hK K h1 hp1 hb HD1
  try simp only [Act.put, List.setIfInBounds_toArray, List.set_cons_zero, List.set_cons_succ]
  refine alongL_last rfl (fun K hK => ?_)
  refine step_store_whole rfl rfl rfl rfl rfl HS.out.tr (treeI rfl) rfl (by simp [Value.oneCell']) ?_
  refine hK.out _ _ ?_
  clear hK K
  have HN1 := Lib.hid (HS.out.put HPs.out)
  obtain ⟨y4, hy⟩ : ∃ W, x2.setRow g #[.int .i64 T3.kind, .int .i64 T3.n, .string T3.s, .slice Ak3 T3.keys.length ck3, .slice At3 T3.kids.length ct3] = W := ⟨_, rfl⟩
  rw [hy] at HN1 ⊢
  clear HN HF HS HPs HB0 HB1 HB2 hy
  have HN := HN1
  clear HN1
  have HQ : Hid (((m.id : Int) != 0) = !decide (m.id = 0)) := Lib.hid (by rw [Bool.eq_iff_iff]; simp)
  have CI := Lib.hid (fun W => idtree13_any m.id OK.out.id W)
  dsimp only [tval, Dm.text, Tn.kind, Tn.n, Tn.s] at CI
  have HF := Lib.hid (fun W (hW : Below y4.heap.size y4 W) => HN.out.behind hW)
  go_wp2_with fail
  refine wp_region_last (S := fun W => Below y4.heap.size y4 W) 8 [(0, true), (1, true), (2, true), (3, true), (4, true), (5, true), (6, false), (7, false), (8, false)] (by kernel_rfl) (by kernel_rfl) rfl (by kernel_rfl) (by rfl) (fun _ _ _ _ _ h => h) (Below.refl _ _).drew ?_
  iterate 6
    refine alongL_take (v := ?_) rfl (by rfl) ?_ ?_
    rotate_left
    · intro W hW; have hN := HF.out W hW; obtain ⟨c0, c1, c2, c3, c4, c5, c6, c7, c8, c9, c10⟩ := hN.box.cells; obtain ⟨d0, d1, d2, d3, d4⟩ := hN.cells; clear hW hN; go_simp; try with_reducible rfl
    simp only [Act.put, List.setIfInBounds_toArray, List.set_cons_zero, List.set_cons_succ]
  have HB0 : Hid (Below y4.heap.size y4 y4.drew) := Lib.hid (Below.refl _ _).drew
  have HD := Lib.hid (HF.out _ HB0.out)
  refine alongL_step rfl (fun K hK => ?_)
  go_simp
  refine (CI.out _).mono ?_
  rintro e x1 ⟨rfl, hb⟩
  have HB1 := Lib.hid (HB0.out.trans (hb.mono HB0.out.size))
  have HD1 := Lib.hid (HD.out.behind hb)
  refine hK.out _ _ HB1.out ?_
  clear hK K hb HD
  try simp only [Act.put, List.setIfInBounds_toArray, List.set_cons_zero, List.set_cons_succ]
  refine alongL_step rfl (fun K hK => ?_)
  go_simp
  try rw [HQ.out]
  refine (HD1.out.leaf (by omega) (by omega) (by rw [zI.out]; unfold maxLen; omega) N4.out (by decide)).mono ?_
  rintro e x2 ⟨Ak4, ck4, At4, ct4, rfl, h1, hp1, hb⟩
  have HB2 := Lib.hid (HB1.out.trans (hb.mono HB1.out.size))
  have HS := Lib.hid h1
  have HPs := Lib.hid hp1
  refine hK.out _ _ HB2.out ?_
  clear hK K h1 hp1 hb HD1
  try simp only [Act.put, List.setIfInBounds_toArray, List.set_cons_zero, List.set_cons_succ]
  refine alongL_last rfl (fun K hK => ?_)
  refine step_store_whole rfl rfl rfl rfl rfl HS.out.tr (treeI rfl) rfl (by simp [Value.oneCell']) ?_
  refine hK.out _ _ ?_
  clear hK K
  have HN1 := Lib.hid (HS.out.put HPs.out)
  obtain ⟨y5, hy⟩ : ∃ W, x2.setRow g #[.int .i64 T4.kind, .int .i64 T4.n, .string T4.s, .slice Ak4 T4.keys.length ck4, .slice At4 T4.kids.length ct4] = W := ⟨_, rfl⟩
  rw [hy] at HN1 ⊢
  clear HN HF HS HPs HB0 HB1 HB2 hy HQ CI
  have HN := HN1
  clear HN1
  have HQ : Hid ((!m.key.toList.isEmpty) = !decide (m.key = ⟨#[]⟩)) := Lib.hid (by rw [str_emp])
  have HF := Lib.hid (fun W (hW : Below y5.heap.size y5 W) => HN.out.behind hW)
  go_wp2_with fail
  refine wp_region_last (S := fun W => Below y5.heap.size y5 W) 8 [(0, true), (1, true), (2, true), (3, true), (4, true), (5, true), (6, false), (7, false), (8, false)] (by kernel_rfl) (by kernel_rfl) rfl (by kernel_rfl) (by rfl) (fun _ _ _ _ _ h => h) (Below.refl _ _).drew ?_
  iterate 6
    refine alongL_take (v := ?_) rfl (by rfl) ?_ ?_
    rotate_left
    · intro W hW; have hN := HF.out W hW; obtain ⟨c0, c1, c2, c3, c4, c5, c6, c7, c8, c9, c10⟩ := hN.box.cells; obtain ⟨d0, d1, d2, d3, d4⟩ := hN.cells; clear hW hN; go_simp; try with_reducible rfl
    simp only [Act.put, List.setIfInBounds_toArray, List.set_cons_zero, List.set_cons_succ]
  have HB0 : Hid (Below y5.heap.size y5 y5.drew) := Lib.hid (Below.refl _ _).drew
  have HD := Lib.hid (HF.out _ HB0.out)
  refine alongL_step rfl (fun K hK => ?_)
  go_simp
  refine (text13_any _ _).mono ?_
  rintro e x1 ⟨rfl, hb⟩
  have HB1 := Lib.hid (HB0.out.trans (hb.mono HB0.out.size))
  have HD1 := Lib.hid (HD.out.behind hb)
  refine hK.out _ _ HB1.out ?_
  clear hK K hb HD
  try simp only [Act.put, List.setIfInBounds_toArray, List.set_cons_zero, List.set_cons_succ]
  refine alongL_step rfl (fun K hK => ?_)
  go_simp
  try rw [HQ.out]
  refine (HD1.out.leaf (by omega) (by omega) OK.out.key N5.out (by decide)).mono ?_
  rintro e x2 ⟨Ak5, ck5, At5, ct5, rfl, h1, hp1, hb⟩
  have HB2 := Lib.hid (HB1.out.trans (hb.mono HB1.out.size))
  have HS := Lib.hid h1
  have HPs := Lib.hid hp1
  refine hK.out _ _ HB2.out ?_
  clear hK K h1 hp1 hb HD1
  try simp only [Act.put, List.setIfInBounds_toArray, List.set_cons_zero, List.set_cons_succ]
  refine alongL_last rfl (fun K hK => ?_)
  refine step_store_whole rfl rfl rfl rfl rfl HS.out.tr (treeI rfl) rfl (by simp [Value.oneCell']) ?_
  refine hK.out _ _ ?_
  clear hK K
  have HN1 := Lib.hid (HS.out.put HPs.out)
  obtain ⟨y6, hy⟩ : ∃ W, x2.setRow g #[.int .i64 T5.kind, .int .i64 T5.n, .string T5.s, .slice Ak5 T5.keys.length ck5, .slice At5 T5.kids.length ct5] = W := ⟨_, rfl⟩
  rw [hy] at HN1 ⊢
  clear HN HF HS HPs HB0 HB1 HB2 hy HQ
  have HN := HN1
  clear HN1
  obtain ⟨pz, hpz⟩ : ∃ B, Hid (decide ((m.pid, m.pad) = (0, 0)) = B) := ⟨_, Lib.hid rfl⟩
  have hgd := guardPeer
  have hse : ∀ W, (Op.equalIn 10000 32 (.agg #[.int .u64 (m.pid : Int), .int .u16 (m.pad : Int)]) (.agg #[.int .u64 0, .int .u16 0])).run Tryz.prog W = .ok pz W := fun W => by rw [← hpz.out]; exact eqPeer W m.pid m.pad 0 0
  have HQ : Hid ((!pz) = (!decide (m.pid = 0) || !decide (m.pad = 0))) := Lib.hid (by rw [← hpz.out, Bool.eq_iff_iff]; simp)
  have CO := Lib.hid (fun W => peertree13_any (m.pid, m.pad) OK.out.pid OK.out.pad W)
  dsimp only [tval, Dm.peerT, Dm.text, Tn.kind, Tn.n, Tn.s] at CO
  have HF := Lib.hid (fun W (hW : Below y6.heap.size y6 W) => HN.out.behind hW)
  go_wp2_with fail
  refine wp_region_last (S := fun W => Below y6.heap.size y6 W) 9 [(0, true), (1, true), (2, true), (3, true), (4, true), (5, true), (6, true), (7, false), (8, false), (9, false)] (by kernel_rfl) (by kernel_rfl) rfl (by kernel_rfl) (by rfl) (fun _ _ _ _ _ h => h) (Below.refl _ _).drew ?_
  iterate 7
    refine alongL_take (v := ?_) rfl (by rfl) ?_ ?_
    rotate_left
    · intro W hW; have hN := HF.out W hW; obtain ⟨c0, c1, c2, c3, c4, c5, c6, c7, c8, c9, c10⟩ := hN.box.cells; obtain ⟨d0, d1, d2, d3, d4⟩ := hN.cells; clear hW hN; go_simp; try with_reducible rfl
    simp only [Act.put, List.setIfInBounds_toArray, List.set_cons_zero, List.set_cons_succ]
  have HB0 : Hid (Below y6.heap.size y6 y6.drew) := Lib.hid (Below.refl _ _).drew
  have HD := Lib.hid (HF.out _ HB0.out)
  refine alongL_step rfl (fun K hK => ?_)
  go_simp
  refine (CO.out _).mono ?_
  rintro e x1 ⟨rfl, hb⟩
  have HB1 := Lib.hid (HB0.out.trans (hb.mono HB0.out.size))
  have HD1 := Lib.hid (HD.out.behind hb)
  refine hK.out _ _ HB1.out ?_
  clear hK K hb HD
  try simp only [Act.put, List.setIfInBounds_toArray, List.set_cons_zero, List.set_cons_succ]
  refine alongL_step rfl (fun K hK => ?_)
  go_simp
  try rw [HQ.out]
  refine (HD1.out.leaf (by omega) (by omega) (by rw [zO.out]; unfold maxLen; omega) N6.out (by decide)).mono ?_
  rintro e x2 ⟨Ak6, ck6, At6, ct6, rfl, h1, hp1, hb⟩
  have HB2 := Lib.hid (HB1.out.trans (hb.mono HB1.out.size))
  have HS := Lib.hid h1
  have HPs := Lib.hid hp1
  refine hK.out _ _ HB2.out ?_
  clear hK K h1 hp1 hb HD1
  try simp only [Act.put, List.setIfInBounds_toArray, List.set_cons_zero, List.set_cons_succ]
  refine alongL_last rfl (fun K hK => ?_)
  refine step_store_whole rfl rfl rfl rfl rfl HS.out.tr (treeI rfl) rfl (by simp [Value.oneCell']) ?_
  refine hK.out _ _ ?_
  clear hK K
  have HN1 := Lib.hid (HS.out.put HPs.out)
  obtain ⟨y7, hy⟩ : ∃ W, x2.setRow g #[.int .i64 T6.kind, .int .i64 T6.n, .string T6.s, .slice Ak6 T6.keys.length ck6, .slice At6 T6.kids.length ct6] = W := ⟨_, rfl⟩
  rw [hy] at HN1 ⊢
  clear HN HF HS HPs HB0 HB1 HB2 hy HQ CO hgd hse
  have HN := HN1
  clear HN1
  have HQ : Hid (((m.rid : Int) != 0) = !decide (m.rid = 0)) := Lib.hid (by rw [Bool.eq_iff_iff]; simp)
  have hwr : IntKind.i64.wrap (m.rid : Int) = (m.rid : Int) := by have := OK.out.rid; rw [IntKind.wrap_i64]; omega
  have HF := Lib.hid (fun W (hW : Below y7.heap.size y7 W) => HN.out.behind hW)
  go_wp2_with fail
  refine wp_region_last (S := fun W => Below y7.heap.size y7 W) 9 [(0, true), (1, true), (2, true), (3, true), (4, true), (5, true), (6, true), (7, false), (8, false), (9, false)] (by kernel_rfl) (by kernel_rfl) rfl (by kernel_rfl) (by rfl) (fun _ _ _ _ _ h => h) (Below.refl _ _).drew ?_
  iterate 7
    refine alongL_take (v := ?_) rfl (by rfl) ?_ ?_
    rotate_left
    · intro W hW; have hN := HF.out W hW; obtain ⟨c0, c1, c2, c3, c4, c5, c6, c7, c8, c9, c10⟩ := hN.box.cells; obtain ⟨d0, d1, d2, d3, d4⟩ := hN.cells; clear hW hN; go_simp; try with_reducible rfl
    simp only [Act.put, List.setIfInBounds_toArray, List.set_cons_zero, List.set_cons_succ]
  have HB0 : Hid (Below y7.heap.size y7 y7.drew) := Lib.hid (Below.refl _ _).drew
  have HD := Lib.hid (HF.out _ HB0.out)
  refine alongL_step rfl (fun K hK => ?_)
  go_simp
  refine (int13_any _ _).mono ?_
  rintro e x1 ⟨rfl, hb⟩
  have HB1 := Lib.hid (HB0.out.trans (hb.mono HB0.out.size))
  have HD1 := Lib.hid (HD.out.behind hb)
  refine hK.out _ _ HB1.out ?_
  clear hK K hb HD
  try simp only [Act.put, List.setIfInBounds_toArray, List.set_cons_zero, List.set_cons_succ]
  refine alongL_step rfl (fun K hK => ?_)
  go_simp
  try rw [HQ.out]
  refine (HD1.out.leaf (by omega) (by have := OK.out.rid; omega) (by unfold maxLen; simp [ByteArray.size]) N7.out (by decide)).mono ?_
  rintro e x2 ⟨Ak7, ck7, At7, ct7, rfl, h1, hp1, hb⟩
  have HB2 := Lib.hid (HB1.out.trans (hb.mono HB1.out.size))
  have HS := Lib.hid h1
  have HPs := Lib.hid hp1
  refine hK.out _ _ HB2.out ?_
  clear hK K h1 hp1 hb HD1
  try simp only [Act.put, List.setIfInBounds_toArray, List.set_cons_zero, List.set_cons_succ]
  refine alongL_last rfl (fun K hK => ?_)
  refine step_store_whole rfl rfl rfl rfl rfl HS.out.tr (treeI rfl) rfl (by simp [Value.oneCell']) ?_
  refine hK.out _ _ ?_
  clear hK K
  have HN1 := Lib.hid (HS.out.put HPs.out)
  obtain ⟨y8, hy⟩ : ∃ W, x2.setRow g #[.int .i64 T7.kind, .int .i64 T7.n, .string T7.s, .slice Ak7 T7.keys.length ck7, .slice At7 T7.kids.length ct7] = W := ⟨_, rfl⟩
  rw [hy] at HN1 ⊢
  clear HN HF HS HPs HB0 HB1 HB2 hy HQ hwr
  have HN := HN1
  clear HN1
  have HQ : Hid ((!m.val.toList.isEmpty) = !decide (m.val = ⟨#[]⟩)) := Lib.hid (by rw [str_emp])
  have HF := Lib.hid (fun W (hW : Below y8.heap.size y8 W) => HN.out.behind hW)
  go_wp2_with fail
  refine wp_region_last (S := fun W => Below y8.heap.size y8 W) 8 [(0, true), (1, true), (2, true), (3, true), (4, true), (5, true), (6, false), (7, false), (8, false)] (by kernel_rfl) (by kernel_rfl) rfl (by kernel_rfl) (by rfl) (fun _ _ _ _ _ h => h) (Below.refl _ _).drew ?_
  iterate 6
    refine alongL_take (v := ?_) rfl (by rfl) ?_ ?_
    rotate_left
    · intro W hW; have hN := HF.out W hW; obtain ⟨c0, c1, c2, c3, c4, c5, c6, c7, c8, c9, c10⟩ := hN.box.cells; obtain ⟨d0, d1, d2, d3, d4⟩ := hN.cells; clear hW hN; go_simp; try with_reducible rfl
    simp only [Act.put, List.setIfInBounds_toArray, List.set_cons_zero, List.set_cons_succ]
  have HB0 : Hid (Below y8.heap.size y8 y8.drew) := Lib.hid (Below.refl _ _).drew
  have HD := Lib.hid (HF.out _ HB0.out)
  refine alongL_step rfl (fun K hK => ?_)
  go_simp
  refine (text13_any _ _).mono ?_
  rintro e x1 ⟨rfl, hb⟩
  have HB1 := Lib.hid (HB0.out.trans (hb.mono HB0.out.size))
  have HD1 := Lib.hid (HD.out.behind hb)
  refine hK.out _ _ HB1.out ?_
  clear hK K hb HD
  try simp only [Act.put, List.setIfInBounds_toArray, List.set_cons_zero, List.set_cons_succ]
  refine alongL_step rfl (fun K hK => ?_)
  go_simp
  try rw [HQ.out]
  refine (HD1.out.leaf (by omega) (by omega) OK.out.val N8.out (by decide)).mono ?_
  rintro e x2 ⟨Ak8, ck8, At8, ct8, rfl, h1, hp1, hb⟩
  have HB2 := Lib.hid (HB1.out.trans (hb.mono HB1.out.size))
  have HS := Lib.hid h1
  have HPs := Lib.hid hp1
  refine hK.out _ _ HB2.out ?_
  clear hK K h1 hp1 hb HD1
  try simp only [Act.put, List.setIfInBounds_toArray, List.set_cons_zero, List.set_cons_succ]
  refine alongL_last rfl (fun K hK => ?_)
  refine step_store_whole rfl rfl rfl rfl rfl HS.out.tr (treeI rfl) rfl (by simp [Value.oneCell']) ?_
  refine hK.out _ _ ?_
  clear hK K
  have HN1 := Lib.hid (HS.out.put HPs.out)
  obtain ⟨y9, hy⟩ : ∃ W, x2.setRow g #[.int .i64 T8.kind, .int .i64 T8.n, .string T8.s, .slice Ak8 T8.keys.length ck8, .slice At8 T8.kids.length ct8] = W := ⟨_, rfl⟩
  rw [hy] at HN1 ⊢
  clear HN HF HS HPs HB0 HB1 HB2 hy HQ
  have HN := HN1
  clear HN1
  have HQ : Hid (decide (0 < m.peers.length) = !decide (m.peers.length = 0)) := Lib.hid (pos13 _).symm
  have HF := Lib.hid (fun W (hW : Below y9.heap.size y9 W) => HN.out.behind hW)
  go_wp2_with fail
  refine wp_region_last (S := fun W => Below y9.heap.size y9 W) 9 [(0, true), (1, true), (2, true), (3, true), (4, true), (5, true), (6, true), (7, false), (8, false), (9, false)] (by kernel_rfl) (by kernel_rfl) rfl (by kernel_rfl) (by rfl) (fun _ _ _ _ _ h => h) (Below.refl _ _).drew ?_
  iterate 7
    refine alongL_take (v := ?_) rfl (by rfl) ?_ ?_
    rotate_left
    · intro W hW; have hN := HF.out W hW; obtain ⟨c0, c1, c2, c3, c4, c5, c6, c7, c8, c9, c10⟩ := hN.box.cells; obtain ⟨d0, d1, d2, d3, d4⟩ := hN.cells; clear hW hN; go_simp; try with_reducible rfl
    simp only [Act.put, List.setIfInBounds_toArray, List.set_cons_zero, List.set_cons_succ]
  have HB0 : Hid (Below y9.heap.size y9 y9.drew) := Lib.hid (Below.refl _ _).drew
  have HD := Lib.hid (HF.out _ HB0.out)
  refine alongL_step rfl (fun K hK => ?_)
  go_simp
  refine (listpeer13_any HD.out.box.peers hlp OK.out.peers).mono ?_
  rintro e x1 ⟨uk, uq, rfl, hl1, hb⟩
  obtain ⟨X, hX⟩ : ∃ X, Hid (Dm.list (m.peers.map Dm.peerT) = X) := ⟨_, Lib.hid rfl⟩
  rw [hX.out] at hl1 N9 ⊢
  unfold tval
  have HL1 := Lib.hid hl1.tv
  clear hl1
  have HB1 := Lib.hid (HB0.out.trans (hb.mono HB0.out.size))
  have HD1 := Lib.hid (HD.out.behind hb)
  refine hK.out _ _ HB1.out ?_
  clear hK K hb HD
  try simp only [Act.put, List.setIfInBounds_toArray, List.set_cons_zero, List.set_cons_succ]
  refine alongL_step rfl (fun K hK => ?_)
  go_simp
  try rw [HQ.out]
  refine (HD1.out.setif HL1.out N9.out (by decide)).mono ?_
  rintro e x2 ⟨Ak9, ck9, At9, ct9, rfl, h1, hp1, hb⟩
  have HB2 := Lib.hid (HB1.out.trans (hb.mono HB1.out.size))
  have HS := Lib.hid h1
  have HPs := Lib.hid hp1
  refine hK.out _ _ HB2.out ?_
  clear hK K h1 hp1 hb HD1
  try simp only [Act.put, List.setIfInBounds_toArray, List.set_cons_zero, List.set_cons_succ]
  refine alongL_last rfl (fun K hK => ?_)
  refine step_store_whole rfl rfl rfl rfl rfl HS.out.tr (treeI rfl) rfl (by simp [Value.oneCell']) ?_
  refine hK.out _ _ ?_
  clear hK K
  have HN1 := Lib.hid (HS.out.put HPs.out)
  obtain ⟨y10, hy⟩ : ∃ W, x2.setRow g #[.int .i64 T9.kind, .int .i64 T9.n, .string T9.s, .slice Ak9 T9.keys.length ck9, .slice At9 T9.kids.length ct9] = W := ⟨_, rfl⟩
  rw [hy] at HN1 ⊢
  clear HN HF HS HPs HB0 HB1 HB2 hy HQ HL1
  have HN := HN1
  clear HN1
  have HQ : Hid (decide (0 < m.pairs.length) = !decide (m.pairs.length = 0)) := Lib.hid (pos13 _).symm
  have HF := Lib.hid (fun W (hW : Below y10.heap.size y10 W) => HN.out.behind hW)
  go_wp2_with fail
  refine wp_region_last (S := fun W => Below y10.heap.size y10 W) 9 [(0, true), (1, true), (2, true), (3, true), (4, true), (5, true), (6, true), (7, false), (8, false), (9, false)] (by kernel_rfl) (by kernel_rfl) rfl (by kernel_rfl) (by rfl) (fun _ _ _ _ _ h => h) (Below.refl _ _).drew ?_
  iterate 7
    refine alongL_take (v := ?_) rfl (by rfl) ?_ ?_
    rotate_left
    · intro W hW; have hN := HF.out W hW; obtain ⟨c0, c1, c2, c3, c4, c5, c6, c7, c8, c9, c10⟩ := hN.box.cells; obtain ⟨d0, d1, d2, d3, d4⟩ := hN.cells; clear hW hN; go_simp; try with_reducible rfl
    simp only [Act.put, List.setIfInBounds_toArray, List.set_cons_zero, List.set_cons_succ]
  have HB0 : Hid (Below y10.heap.size y10 y10.drew) := Lib.hid (Below.refl _ _).drew
  have HD := Lib.hid (HF.out _ HB0.out)
  refine alongL_step rfl (fun K hK => ?_)
  go_simp
  refine (listpair13_any HD.out.box.pairs hlq OK.out.pairs).mono ?_
  rintro e x1 ⟨uk, uq, rfl, hl1, hb⟩
  obtain ⟨X, hX⟩ : ∃ X, Hid (Dm.list (m.pairs.map Dm.pairT) = X) := ⟨_, Lib.hid rfl⟩
  rw [hX.out] at hl1 N10 ⊢
  unfold tval
  have HL1 := Lib.hid hl1.tv
  clear hl1
  have HB1 := Lib.hid (HB0.out.trans (hb.mono HB0.out.size))
  have HD1 := Lib.hid (HD.out.behind hb)
  refine hK.out _ _ HB1.out ?_
  clear hK K hb HD
  try simp only [Act.put, List.setIfInBounds_toArray, List.set_cons_zero, List.set_cons_succ]
  refine alongL_step rfl (fun K hK => ?_)
  go_simp
  try rw [HQ.out]
  refine (HD1.out.setif HL1.out N10.out (by decide)).mono ?_
  rintro e x2 ⟨Ak10, ck10, At10, ct10, rfl, h1, hp1, hb⟩
  have HB2 := Lib.hid (HB1.out.trans (hb.mono HB1.out.size))
  have HS := Lib.hid h1
  have HPs := Lib.hid hp1
  refine hK.out _ _ HB2.out ?_
  clear hK K h1 hp1 hb HD1
  try simp only [Act.put, List.setIfInBounds_toArray, List.set_cons_zero, List.set_cons_succ]
  refine alongL_last rfl (fun K hK => ?_)
  refine step_store_whole rfl rfl rfl rfl rfl HS.out.res (treeI rfl) rfl (by simp [Value.oneCell']) ?_
  refine hK.out _ _ ?_
  clear hK K
  go_wp2_with fail
  refine bodyPost_ret (v := tval T10 (.slice Ak10 T10.keys.length ck10) (.slice At10 T10.kids.length ct10)) ?_ rfl ⟨_, _, rfl, ?_, below_row HS.out.low (by omega) _⟩
  · exact results_tree rfl rfl (HS.out.res.row _) rfl
  · exact Tp.tl (HPs.out.keep (fun y p q => ⟨by omega, setRow_other x2 r y _ (by omega)⟩))
end Go.Proofs.YtldjdoebappkoaaGreatDoor
