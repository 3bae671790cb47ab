/- Contract of the reference's field of layer 10, tag by tag. -/
import Derived.Test.YtjkjhnpemhlbpaaDoorRall
import Derived.Test.YtjkjhnpemhlbpaaDoorTenc
namespace Go.Proofs.YtjkjhnpemhlbpaaDoor
open Go.RowKit
set_option linter.unusedVariables false
set_option maxRecDepth 100000
set_option linter.unusedSimpArgs false
open Gm

theorem size_zero {s : ByteArray} (h : s.size = 0) : s = ⟨#[]⟩ := ByteArray.ext (Array.eq_empty_of_size_eq_zero h)

set_option maxHeartbeats 1000000 in
theorem rfield_1 {w : World} {B : Nat} {m : Ms} {vm : Value} (H : Mv w B m vm) (HF : Few m) :
    Calls Tryd.prog 30 #[vm, .int .i64 1] w (Made .u8 5 w.heap.size (Tg.field m 1) w) := by
  obtain ⟨b, vp, vq, w0, rfl, hsb, hal, hsz, hx0, hb0⟩ := boxedk H.all (Nat.le_refl _)
  rw [hsb] at hx0
  obtain ⟨Ap, cp, rfl, _, hp1, hp2, _⟩ := hx0.peers.ex
  obtain ⟨Aq, cq, rfl, _, hq1, hq2, _⟩ := hx0.pairs.ex
  unfold maxLen at hp2 hq2
  have hn16 := HF.peers
  have hn8 := HF.pairs
  have HN0 : Hid (On b b m (.slice Ap m.peers.length cp) (.slice Aq m.pairs.length cq) w (.slice none 0 0) [] (.slice none 0 0) w0) := Lib.hid ⟨World.ownsRow_nil _ _ _ _, hx0, Kept.of_below (by rw [hsb]; exact hb0) _, by simp [Value.ownBlock], by omega⟩
  obtain ⟨c0, c1, c2, c3, c4, c5, c6, c7, c8, c9, c10⟩ := Bx.cells hx0.bx
  have HB0 := Lib.hid hb0
  have HFF := Lib.hid HF
  have hbw : b ≤ w0.heap.size := by omega
  have hrid := HF.ok.rid
  have hcode := HF.ok.code
  have hid := HF.ok.id
  have hpid := HF.ok.pid
  have hpad := HF.ok.pad
  clear c0 c2 c3 c4 c5 c6 c7 c8 c9 c10 H hx0 hb0 HF hsz
  by_cases h : m.rid = 0
  · have E : Tg.field m 1 = [] := Tg.field_no (by simp [Tg.has, h])
    rw [h, show ((0 : Nat) : Int) = 0 from rfl] at hal
    go_enter Tryd.func30, Tryd.ntmps30
    go_wp2_with fail
    go_ret
    exact ⟨_, rfl, by rw [E]; exact World.ownsRow_nil _ _ _ _, by rw [hsb]; exact HB0.out⟩
  · have h0 : 0 < m.rid := by omega
    have E : [1, m.rid].flatMap Um.put = Tg.field m 1 := by rw [tag_two 1 (by omega), Tg.field_yes (by simp [Tg.has, h])]; rfl
    have C := Lib.hid (rall_call [1, m.rid] w0 (cs := #[.int .u64 1, .int .u64 (m.rid : Int)]) rfl 2 rfl (by omega) (by intro x hx; simp at hx; omega))
    rw [E] at C
    clear E
    go_enter Tryd.func30, Tryd.ntmps30
    go_wp2_with fail
    refine (C.out).mono ?_
    rintro e w1 ⟨v1, rfl, ho1, hb1⟩
    have HO := Lib.hid (own_lower ho1 hbw)
    have HB := Lib.hid (HB0.out.trans (hb1.mono hbw))
    clear ho1 hb1
    go_wp2_with fail
    go_ret
    exact ⟨_, rfl, by rw [hsb]; exact HO.out, by rw [hsb]; exact HB.out⟩

set_option maxHeartbeats 1000000 in
theorem rfield_2 {w : World} {B : Nat} {m : Ms} {vm : Value} (H : Mv w B m vm) (HF : Few m) :
    Calls Tryd.prog 30 #[vm, .int .i64 2] w (Made .u8 5 w.heap.size (Tg.field m 2) w) := by
  obtain ⟨b, vp, vq, w0, rfl, hsb, hal, hsz, hx0, hb0⟩ := boxedk H.all (Nat.le_refl _)
  rw [hsb] at hx0
  obtain ⟨Ap, cp, rfl, _, hp1, hp2, _⟩ := hx0.peers.ex
  obtain ⟨Aq, cq, rfl, _, hq1, hq2, _⟩ := hx0.pairs.ex
  unfold maxLen at hp2 hq2
  have hn16 := HF.peers
  have hn8 := HF.pairs
  have HN0 : Hid (On b b m (.slice Ap m.peers.length cp) (.slice Aq m.pairs.length cq) w (.slice none 0 0) [] (.slice none 0 0) w0) := Lib.hid ⟨World.ownsRow_nil _ _ _ _, hx0, Kept.of_below (by rw [hsb]; exact hb0) _, by simp [Value.ownBlock], by omega⟩
  obtain ⟨c0, c1, c2, c3, c4, c5, c6, c7, c8, c9, c10⟩ := Bx.cells hx0.bx
  have HB0 := Lib.hid hb0
  have HFF := Lib.hid HF
  have hbw : b ≤ w0.heap.size := by omega
  have hrid := HF.ok.rid
  have hcode := HF.ok.code
  have hid := HF.ok.id
  have hpid := HF.ok.pid
  have hpad := HF.ok.pad
  clear c0 c1 c3 c4 c5 c6 c7 c8 c9 c10 H hx0 hb0 HF hsz
  by_cases h : m.code = 0
  · have E : Tg.field m 2 = [] := Tg.field_no (by simp [Tg.has, h])
    rw [h, show ((0 : Nat) : Int) = 0 from rfl] at hal
    go_enter Tryd.func30, Tryd.ntmps30
    go_wp2_with fail
    go_ret
    exact ⟨_, rfl, by rw [E]; exact World.ownsRow_nil _ _ _ _, by rw [hsb]; exact HB0.out⟩
  · have h0 : 0 < m.code := by omega
    have E : [2, m.code].flatMap Um.put = Tg.field m 2 := by rw [tag_two 2 (by omega), Tg.field_yes (by simp [Tg.has, h])]; rfl
    have C := Lib.hid (rall_call [2, m.code] w0 (cs := #[.int .u64 2, .int .u64 (m.code : Int)]) rfl 2 rfl (by omega) (by intro x hx; simp at hx; omega))
    rw [E] at C
    clear E
    go_enter Tryd.func30, Tryd.ntmps30
    go_wp2_with fail
    refine (C.out).mono ?_
    rintro e w1 ⟨v1, rfl, ho1, hb1⟩
    have HO := Lib.hid (own_lower ho1 hbw)
    have HB := Lib.hid (HB0.out.trans (hb1.mono hbw))
    clear ho1 hb1
    go_wp2_with fail
    go_ret
    exact ⟨_, rfl, by rw [hsb]; exact HO.out, by rw [hsb]; exact HB.out⟩

set_option maxHeartbeats 1000000 in
theorem rfield_4 {w : World} {B : Nat} {m : Ms} {vm : Value} (H : Mv w B m vm) (HF : Few m) :
    Calls Tryd.prog 30 #[vm, .int .i64 4] w (Made .u8 5 w.heap.size (Tg.field m 4) w) := by
  obtain ⟨b, vp, vq, w0, rfl, hsb, hal, hsz, hx0, hb0⟩ := boxedk H.all (Nat.le_refl _)
  rw [hsb] at hx0
  obtain ⟨Ap, cp, rfl, _, hp1, hp2, _⟩ := hx0.peers.ex
  obtain ⟨Aq, cq, rfl, _, hq1, hq2, _⟩ := hx0.pairs.ex
  unfold maxLen at hp2 hq2
  have hn16 := HF.peers
  have hn8 := HF.pairs
  have HN0 : Hid (On b b m (.slice Ap m.peers.length cp) (.slice Aq m.pairs.length cq) w (.slice none 0 0) [] (.slice none 0 0) w0) := Lib.hid ⟨World.ownsRow_nil _ _ _ _, hx0, Kept.of_below (by rw [hsb]; exact hb0) _, by simp [Value.ownBlock], by omega⟩
  obtain ⟨c0, c1, c2, c3, c4, c5, c6, c7, c8, c9, c10⟩ := Bx.cells hx0.bx
  have HB0 := Lib.hid hb0
  have HFF := Lib.hid HF
  have hbw : b ≤ w0.heap.size := by omega
  have hrid := HF.ok.rid
  have hcode := HF.ok.code
  have hid := HF.ok.id
  have hpid := HF.ok.pid
  have hpad := HF.ok.pad
  clear c0 c1 c2 c3 c5 c6 c7 c8 c9 c10 H hx0 hb0 HF hsz
  by_cases h : m.id = 0
  · have E : Tg.field m 4 = [] := Tg.field_no (by simp [Tg.has, h])
    rw [h, show ((0 : Nat) : Int) = 0 from rfl] at hal
    go_enter Tryd.func30, Tryd.ntmps30
    go_wp2_with fail
    go_ret
    exact ⟨_, rfl, by rw [E]; exact World.ownsRow_nil _ _ _ _, by rw [hsb]; exact HB0.out⟩
  · have h0 : 0 < m.id := by omega
    have E : [4, m.id].flatMap Um.put = Tg.field m 4 := by rw [tag_two 4 (by omega), Tg.field_yes (by simp [Tg.has, h])]; rfl
    have C := Lib.hid (rall_call [4, m.id] w0 (cs := #[.int .u64 4, .int .u64 (m.id : Int)]) rfl 2 rfl (by omega) (by intro x hx; simp at hx; omega))
    rw [E] at C
    clear E
    go_enter Tryd.func30, Tryd.ntmps30
    go_wp2_with fail
    refine (C.out).mono ?_
    rintro e w1 ⟨v1, rfl, ho1, hb1⟩
    have HO := Lib.hid (own_lower ho1 hbw)
    have HB := Lib.hid (HB0.out.trans (hb1.mono hbw))
    clear ho1 hb1
    go_wp2_with fail
    go_ret
    exact ⟨_, rfl, by rw [hsb]; exact HO.out, by rw [hsb]; exact HB.out⟩

set_option maxHeartbeats 1000000 in
theorem rfield_3 {w : World} {B : Nat} {m : Ms} {vm : Value} (H : Mv w B m vm) (HF : Few m) :
    Calls Tryd.prog 30 #[vm, .int .i64 3] w (Made .u8 5 w.heap.size (Tg.field m 3) w) := by
  obtain ⟨b, vp, vq, w0, rfl, hsb, hal, hsz, hx0, hb0⟩ := boxedk H.all (Nat.le_refl _)
  rw [hsb] at hx0
  obtain ⟨Ap, cp, rfl, _, hp1, hp2, _⟩ := hx0.peers.ex
  obtain ⟨Aq, cq, rfl, _, hq1, hq2, _⟩ := hx0.pairs.ex
  unfold maxLen at hp2 hq2
  have hn16 := HF.peers
  have hn8 := HF.pairs
  have HN0 : Hid (On b b m (.slice Ap m.peers.length cp) (.slice Aq m.pairs.length cq) w (.slice none 0 0) [] (.slice none 0 0) w0) := Lib.hid ⟨World.ownsRow_nil _ _ _ _, hx0, Kept.of_below (by rw [hsb]; exact hb0) _, by simp [Value.ownBlock], by omega⟩
  obtain ⟨c0, c1, c2, c3, c4, c5, c6, c7, c8, c9, c10⟩ := Bx.cells hx0.bx
  have HB0 := Lib.hid hb0
  have HFF := Lib.hid HF
  have hbw : b ≤ w0.heap.size := by omega
  have hrid := HF.ok.rid
  have hcode := HF.ok.code
  have hid := HF.ok.id
  have hpid := HF.ok.pid
  have hpad := HF.ok.pad
  clear c0 c1 c2 c4 c5 c6 c7 c8 c9 c10 H hx0 hb0 HF hsz
  cases h : m.has
  · have E : Tg.field m 3 = [] := Tg.field_no (by simp [Tg.has, h])
    rw [h] at c3 hal
    go_enter Tryd.func30, Tryd.ntmps30
    go_wp2_with fail
    go_ret
    exact ⟨_, rfl, by rw [E]; exact World.ownsRow_nil _ _ _ _, by rw [hsb]; exact HB0.out⟩
  · have E : Tg.field m 3 = [3] := Tg.field_yes (by simp [Tg.has, h])
    rw [h] at c3 hal
    go_enter Tryd.func30, Tryd.ntmps30
    go_wp2_with fail
    go_ret
    exact ⟨_, rfl, by rw [E, hsb]; exact own_lit1 w0 b 3 hbw, by rw [hsb]; exact HB0.out.alloc hbw _⟩

set_option maxHeartbeats 1000000 in
theorem rfield_5 {w : World} {B : Nat} {m : Ms} {vm : Value} (H : Mv w B m vm) (HF : Few m) :
    Calls Tryd.prog 30 #[vm, .int .i64 5] w (Made .u8 5 w.heap.size (Tg.field m 5) w) := by
  obtain ⟨b, vp, vq, w0, rfl, hsb, hal, hsz, hx0, hb0⟩ := boxedk H.all (Nat.le_refl _)
  rw [hsb] at hx0
  obtain ⟨Ap, cp, rfl, _, hp1, hp2, _⟩ := hx0.peers.ex
  obtain ⟨Aq, cq, rfl, _, hq1, hq2, _⟩ := hx0.pairs.ex
  unfold maxLen at hp2 hq2
  have hn16 := HF.peers
  have hn8 := HF.pairs
  have HN0 : Hid (On b b m (.slice Ap m.peers.length cp) (.slice Aq m.pairs.length cq) w (.slice none 0 0) [] (.slice none 0 0) w0) := Lib.hid ⟨World.ownsRow_nil _ _ _ _, hx0, Kept.of_below (by rw [hsb]; exact hb0) _, by simp [Value.ownBlock], by omega⟩
  obtain ⟨c0, c1, c2, c3, c4, c5, c6, c7, c8, c9, c10⟩ := Bx.cells hx0.bx
  have HB0 := Lib.hid hb0
  have HFF := Lib.hid HF
  have hbw : b ≤ w0.heap.size := by omega
  have hrid := HF.ok.rid
  have hcode := HF.ok.code
  have hid := HF.ok.id
  have hpid := HF.ok.pid
  have hpad := HF.ok.pad
  clear c0 c1 c2 c3 c4 c6 c7 c8 c9 c10 H hx0 hb0 HF hsz
  have hsm := HFF.out.key
  obtain ⟨z, hz⟩ : ∃ z, Hid (m.key.size = z) := ⟨_, rfl⟩
  have hzs : m.key.size = z := hz.out
  rw [hzs] at hsm
  by_cases h : z = 0
  · have E : Tg.field m 5 = [] := Tg.field_no (by have := size_zero (hzs.trans h); simp [Tg.has, this])
    go_enter Tryd.func30, Tryd.ntmps30
    go_wp2_with fail
    go_ret
    exact ⟨_, rfl, by rw [E]; exact World.ownsRow_nil _ _ _ _, by rw [hsb]; exact HB0.out⟩
  · have h0 : 0 < z := by omega
    have hne : ¬ m.key = ⟨#[]⟩ := fun e => h (by rw [← hzs, e]; rfl)
    have E : [5] ++ Tg.txtB m.key = Tg.field m 5 := by rw [Tg.field_yes (by simp [Tg.has, hne])]; rfl
    have HE := Lib.hid E
    obtain ⟨wa, hwa⟩ : ∃ wa, w0.alloc (.cells #[.int .u8 5] 5) = wa := ⟨_, rfl⟩
    have ha : wa.cell? ⟨b, 5, none⟩ = some (.string m.key) := by rw [← hwa]; exact (Bx.cells (Whole.alloc HN0.out.box.bx _)).2.2.2.2.2.1
    have HL : Hid (wa.ownsRow b 5 1 (.slice (some ⟨w0.heap.size, 0, none⟩) 1 1) 1 [.int .u8 5]) := Lib.hid (by rw [← hwa]; exact own_lit1 w0 b 5 hbw)
    have HBa : Hid (Below b w wa) := Lib.hid (by rw [← hwa]; exact HB0.out.alloc hbw _)
    have hwaz : b ≤ wa.heap.size := by rw [← hwa]; simp; omega
    have C := Lib.hid (rtexts_any m.key (by omega) wa)
    have hlen := Tg.txtB_length m.key
    obtain ⟨q, hq⟩ : ∃ q, Hid ((Tg.txtB m.key).length = q) := ⟨_, rfl⟩
    rw [hq.out, hzs] at hlen
    clear E hne
    go_enter Tryd.func30, Tryd.ntmps30
    go_wp2_with fail
    refine (C.out).mono ?_
    rintro e w1 ⟨v1, rfl, ho1, hb1⟩
    rw [hq.out] at ho1
    obtain ⟨A, c, rfl⟩ := own_shape ho1
    have HSee := Lib.hid (Sees.of_own (l := Tg.txtB m.key) (by rw [hq.out]; exact ho1))
    have HNil := Lib.hid (own_nil ho1)
    have HOw := Lib.hid (own_below HL.out hb1)
    have HB := Lib.hid (HBa.out.trans (hb1.mono hwaz))
    have hz1 : b ≤ w1.heap.size := by have := hb1.size; omega
    clear ho1 hb1
    go_wp2_with (at_builtin; refine wpList_append_rowk byteT _ _ rfl rfl b _ 1 [.int .u8 5] rfl HOw.out q c rfl hq.out HNil.out HSee.out (by omega) hz1 ?_; intro v2 w2 ho2 hk2)
    have HO := Lib.hid ho2
    have HB2 := Lib.hid (HB.out.trans (hk2.below (own_lt HOw.out) hz1))
    clear ho2 hk2
    go_ret
    refine ⟨_, rfl, ?_, by rw [hsb]; exact HB2.out⟩
    rw [hsb, ← HE.out, List.length_append, hq.out, ints_append]
    exact HO.out

set_option maxHeartbeats 1000000 in
theorem rfield_6 {w : World} {B : Nat} {m : Ms} {vm : Value} (H : Mv w B m vm) (HF : Few m) :
    Calls Tryd.prog 30 #[vm, .int .i64 6] w (Made .u8 5 w.heap.size (Tg.field m 6) w) := by
  obtain ⟨b, vp, vq, w0, rfl, hsb, hal, hsz, hx0, hb0⟩ := boxedk H.all (Nat.le_refl _)
  rw [hsb] at hx0
  obtain ⟨Ap, cp, rfl, _, hp1, hp2, _⟩ := hx0.peers.ex
  obtain ⟨Aq, cq, rfl, _, hq1, hq2, _⟩ := hx0.pairs.ex
  unfold maxLen at hp2 hq2
  have hn16 := HF.peers
  have hn8 := HF.pairs
  have HN0 : Hid (On b b m (.slice Ap m.peers.length cp) (.slice Aq m.pairs.length cq) w (.slice none 0 0) [] (.slice none 0 0) w0) := Lib.hid ⟨World.ownsRow_nil _ _ _ _, hx0, Kept.of_below (by rw [hsb]; exact hb0) _, by simp [Value.ownBlock], by omega⟩
  obtain ⟨c0, c1, c2, c3, c4, c5, c6, c7, c8, c9, c10⟩ := Bx.cells hx0.bx
  have HB0 := Lib.hid hb0
  have HFF := Lib.hid HF
  have hbw : b ≤ w0.heap.size := by omega
  have hrid := HF.ok.rid
  have hcode := HF.ok.code
  have hid := HF.ok.id
  have hpid := HF.ok.pid
  have hpad := HF.ok.pad
  clear c0 c1 c2 c3 c4 c5 c7 c8 c9 c10 H hx0 hb0 HF hsz
  have hsm := HFF.out.val
  obtain ⟨z, hz⟩ : ∃ z, Hid (m.val.size = z) := ⟨_, rfl⟩
  have hzs : m.val.size = z := hz.out
  rw [hzs] at hsm
  by_cases h : z = 0
  · have E : Tg.field m 6 = [] := Tg.field_no (by have := size_zero (hzs.trans h); simp [Tg.has, this])
    go_enter Tryd.func30, Tryd.ntmps30
    go_wp2_with fail
    go_ret
    exact ⟨_, rfl, by rw [E]; exact World.ownsRow_nil _ _ _ _, by rw [hsb]; exact HB0.out⟩
  · have h0 : 0 < z := by omega
    have hne : ¬ m.val = ⟨#[]⟩ := fun e => h (by rw [← hzs, e]; rfl)
    have E : [6] ++ Tg.txtB m.val = Tg.field m 6 := by rw [Tg.field_yes (by simp [Tg.has, hne])]; rfl
    have HE := Lib.hid E
    obtain ⟨wa, hwa⟩ : ∃ wa, w0.alloc (.cells #[.int .u8 6] 5) = wa := ⟨_, rfl⟩
    have ha : wa.cell? ⟨b, 6, none⟩ = some (.string m.val) := by rw [← hwa]; exact (Bx.cells (Whole.alloc HN0.out.box.bx _)).2.2.2.2.2.2.1
    have HL : Hid (wa.ownsRow b 5 1 (.slice (some ⟨w0.heap.size, 0, none⟩) 1 1) 1 [.int .u8 6]) := Lib.hid (by rw [← hwa]; exact own_lit1 w0 b 6 hbw)
    have HBa : Hid (Below b w wa) := Lib.hid (by rw [← hwa]; exact HB0.out.alloc hbw _)
    have hwaz : b ≤ wa.heap.size := by rw [← hwa]; simp; omega
    have C := Lib.hid (rtexts_any m.val (by omega) wa)
    have hlen := Tg.txtB_length m.val
    obtain ⟨q, hq⟩ : ∃ q, Hid ((Tg.txtB m.val).length = q) := ⟨_, rfl⟩
    rw [hq.out, hzs] at hlen
    clear E hne
    go_enter Tryd.func30, Tryd.ntmps30
    go_wp2_with fail
    refine (C.out).mono ?_
    rintro e w1 ⟨v1, rfl, ho1, hb1⟩
    rw [hq.out] at ho1
    obtain ⟨A, c, rfl⟩ := own_shape ho1
    have HSee := Lib.hid (Sees.of_own (l := Tg.txtB m.val) (by rw [hq.out]; exact ho1))
    have HNil := Lib.hid (own_nil ho1)
    have HOw := Lib.hid (own_below HL.out hb1)
    have HB := Lib.hid (HBa.out.trans (hb1.mono hwaz))
    have hz1 : b ≤ w1.heap.size := by have := hb1.size; omega
    clear ho1 hb1
    go_wp2_with (at_builtin; refine wpList_append_rowk byteT _ _ rfl rfl b _ 1 [.int .u8 6] rfl HOw.out q c rfl hq.out HNil.out HSee.out (by omega) hz1 ?_; intro v2 w2 ho2 hk2)
    have HO := Lib.hid ho2
    have HB2 := Lib.hid (HB.out.trans (hk2.below (own_lt HOw.out) hz1))
    clear ho2 hk2
    go_ret
    refine ⟨_, rfl, ?_, by rw [hsb]; exact HB2.out⟩
    rw [hsb, ← HE.out, List.length_append, hq.out, ints_append]
    exact HO.out

set_option maxHeartbeats 1000000 in
theorem rfield_7 {w : World} {B : Nat} {m : Ms} {vm : Value} (H : Mv w B m vm) (HF : Few m) :
    Calls Tryd.prog 30 #[vm, .int .i64 7] w (Made .u8 5 w.heap.size (Tg.field m 7) w) := by
  obtain ⟨b, vp, vq, w0, rfl, hsb, hal, hsz, hx0, hb0⟩ := boxedk H.all (Nat.le_refl _)
  rw [hsb] at hx0
  obtain ⟨Ap, cp, rfl, _, hp1, hp2, _⟩ := hx0.peers.ex
  obtain ⟨Aq, cq, rfl, _, hq1, hq2, _⟩ := hx0.pairs.ex
  unfold maxLen at hp2 hq2
  have hn16 := HF.peers
  have hn8 := HF.pairs
  have HN0 : Hid (On b b m (.slice Ap m.peers.length cp) (.slice Aq m.pairs.length cq) w (.slice none 0 0) [] (.slice none 0 0) w0) := Lib.hid ⟨World.ownsRow_nil _ _ _ _, hx0, Kept.of_below (by rw [hsb]; exact hb0) _, by simp [Value.ownBlock], by omega⟩
  obtain ⟨c0, c1, c2, c3, c4, c5, c6, c7, c8, c9, c10⟩ := Bx.cells hx0.bx
  have HB0 := Lib.hid hb0
  have HFF := Lib.hid HF
  have hbw : b ≤ w0.heap.size := by omega
  have hrid := HF.ok.rid
  have hcode := HF.ok.code
  have hid := HF.ok.id
  have hpid := HF.ok.pid
  have hpad := HF.ok.pad
  clear c0 c1 c2 c3 c4 c5 c6 c9 c10 H hx0 hb0 HF hsz
  by_cases h : m.pid = 0 ∧ m.pad = 0
  · obtain ⟨h1, h2⟩ := h
    have E : Tg.field m 7 = [] := Tg.field_no (by simp [Tg.has, h1, h2])
    rw [h1, h2, show ((0 : Nat) : Int) = 0 from rfl] at hal
    go_enter Tryd.func30, Tryd.ntmps30
    go_wp2_with fail
    go_ret
    exact ⟨_, rfl, by rw [E]; exact World.ownsRow_nil _ _ _ _, by rw [hsb]; exact HB0.out⟩
  · have E : [7, m.pid, m.pad].flatMap Um.put = Tg.field m 7 := by rw [tag_three 7 (by omega), Tg.field_yes (by show (!(decide (m.pid = 0) && decide (m.pad = 0))) = true; simp only [Bool.not_eq_true', Bool.and_eq_false_iff, decide_eq_false_iff_not]; omega)]; rfl
    have C := Lib.hid (rall_call [7, m.pid, m.pad] w0 (cs := #[.int .u64 7, .int .u64 (m.pid : Int), .int .u64 (m.pad : Int)]) rfl 3 rfl (by omega) (by intro x hx; simp at hx; omega))
    rw [E] at C
    clear E
    by_cases hp : m.pid = 0
    case' pos =>
      have hp2 : 0 < m.pad := by omega
      rw [hp, show ((0 : Nat) : Int) = 0 from rfl] at hal C
      clear h
      go_enter Tryd.func30, Tryd.ntmps30
      go_wp2_with fail
    case' neg =>
      have hp2 : 0 < m.pid := by omega
      clear h hp
      go_enter Tryd.func30, Tryd.ntmps30
      go_wp2_with fail
    all_goals
      refine (C.out).mono ?_
      rintro e w1 ⟨v1, rfl, ho1, hb1⟩
      have HO := Lib.hid (own_lower ho1 hbw)
      have HB := Lib.hid (HB0.out.trans (hb1.mono hbw))
      clear ho1 hb1
      go_wp2_with fail
      go_ret
      exact ⟨_, rfl, by rw [hsb]; exact HO.out, by rw [hsb]; exact HB.out⟩
end Go.Proofs.YtjkjhnpemhlbpaaDoor
