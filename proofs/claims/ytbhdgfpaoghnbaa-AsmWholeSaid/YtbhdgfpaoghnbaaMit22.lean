/- The program's table in the midst of a call: the table, and blocks that it does not touch; contracts of open. -/
import Derived.Test.YtbhdgfpaoghnbaaTm25
import Derived.Test.YtbhdgfpaoghnbaaPM
namespace Go.Proofs.Ytbhdgfpaoghnbaa
open Go.RowKit
set_option linter.unusedVariables false
set_option maxRecDepth 100000
set_option linter.unusedSimpArgs false

/-- the table as it stands at W, of the call that began at w; the blocks of X are none of its own -/
structure Mit (w : World) (F X : Nat → Prop) (h : Nat) (m : Tm.Lim) (W : World) (v : Value) (L : List (Tm.One × Nat)) (Fo : Nat → Nat → Prop) : Prop where
  tab : ∃ Ft, TtAt W Ft h v m L Fo ∧ (∀ b, Ft b → Wide F w W b) ∧ ∀ b, X b → ¬ Ft b
  foot : Foot F w W
  xlt : ∀ b, X b → b < W.heap.size
section
variable {w W W1 : World} {F X : Nat → Prop} {h b : Nat} {m : Tm.Lim} {v v1 : Value} {L L1 : List (Tm.One × Nat)} {Fo Fo1 : Nat → Nat → Prop}
theorem Mit.start (r : TtAt w F h v m L Fo) (hb : Below w.heap.size w W) (hX : ∀ b, X b → w.heap.size ≤ b ∧ b < W.heap.size) : Mit w F X h m W v L Fo :=
  ⟨⟨F, r.stay hb, fun b hb => .inl hb, fun b hx hf => by have := r.lt b hf; have := (hX b hx).1; omega⟩, Foot.of_below hb, fun b hx => (hX b hx).2⟩
theorem Mit.stay (M : Mit w F X h m W v L Fo) (hb : Below W.heap.size W W1) : Mit w F X h m W1 v L Fo := by
  obtain ⟨⟨Ft, r, h1, h2⟩, hf, hx⟩ := M
  have hz := hb.size
  exact ⟨⟨Ft, r.stay hb, fun b hb' => (h1 b hb').far hz, h2⟩, hf.trans (Foot.of_below (F := F) hb) (fun _ _ q => q), fun b hb' => by have := hx b hb'; omega⟩
theorem Mit.less {Y : Nat → Prop} (M : Mit w F X h m W v L Fo) (hY : ∀ b, Y b → X b) : Mit w F Y h m W v L Fo := by
  obtain ⟨⟨Ft, r, h1, h2⟩, hf, hx⟩ := M
  exact ⟨⟨Ft, r, h1, fun b hb => h2 b (hY b hb)⟩, hf, fun b hb => hx b (hY b hb)⟩
/-- .. other blocks that were made since are none of its own -/
theorem Mit.also {Y : Nat → Prop} (M : Mit w F X h m W v L Fo) (hb : Below W.heap.size W W1) (hY : ∀ b, Y b → W.heap.size ≤ b ∧ b < W1.heap.size) : Mit w F (fun b => X b ∨ Y b) h m W1 v L Fo := by
  have hz := hb.size
  have M1 := M.stay hb
  obtain ⟨⟨Ft, r, h1, h2⟩, hf, hx⟩ := M
  refine ⟨⟨Ft, r.stay hb, fun b hb' => (h1 b hb').far hz, fun b hb' hft => ?_⟩, M1.foot, fun b hb' => ?_⟩
  · rcases hb' with hb' | hb'
    · exact h2 b hb' hft
    · have := r.lt b hft; have := (hY b hb').1; omega
  · rcases hb' with hb' | hb'
    · have := hx b hb'; omega
    · exact (hY b hb').2
theorem Mit.step {Ft Fn : Nat → Prop} (M : Mit w F X h m W v L Fo) (h1 : ∀ b, Ft b → Wide F w W b) (h2 : ∀ b, X b → ¬ Ft b) (r : TtAt W1 Fn h v1 m L1 Fo1) (hn : ∀ b, Fn b → Wide Ft W W1 b) (hf : Foot Ft W W1) :
    Mit w F X h m W1 v1 L1 Fo1 ∧ ∀ b, X b → W1.heap[b]? = W.heap[b]? := by
  have hz := hf.size
  have hz0 := M.foot.size
  refine ⟨⟨⟨_, r, fun b hb => ?_, fun b hb hw => ?_⟩, M.foot.trans hf (fun b hb q => Wide.old b hb (h1 b q)), fun b hb => by have := M.xlt b hb; omega⟩, fun b hb => hf.block b (M.xlt b hb) (h2 b hb)⟩
  · rcases hn b hb with hb | hb
    · exact (h1 b hb).far hz
    · exact .inr ⟨by omega, hb.2⟩
  · have := M.xlt b hb
    rcases hn b hw with hw | hw
    · exact h2 b hb hw
    · omega
/-- .. at the call's end -/
theorem Mit.done (M : Mit w F X h m W v L Fo) (hF : ∀ b, F b → b < w.heap.size) : ∃ Ft, Tt W Ft h m (ones L) ∧ (∀ b, Ft b → Wide F w W b) ∧ (∀ b, X b → ¬ Ft b) ∧ Foot F w W := by
  obtain ⟨⟨Ft, r, h1, h2⟩, hf, hx⟩ := M
  exact ⟨Ft, ⟨v, L, Fo, rfl, r⟩, h1, h2, hf⟩
theorem Mit.mg (M : Mit w F X h m W v L Fo) {x : Tm.One × Nat} (hx : x ∈ L) : Mg W (Fo x.2) x.2 x.1 := by obtain ⟨⟨Ft, r, _⟩, _⟩ := M; exact r.bag.mg x hx
theorem Mit.once (M : Mit w F X h m W v L Fo) : (snds L).Nodup := by obtain ⟨⟨Ft, r, _⟩, _⟩ := M; exact r.bag.once
theorem Mit.shape (M : Mit w F X h m W v L Fo) : ∃ A c, v = .slice A L.length c ∧ L.length ≤ c ∧ c ≤ maxLen := by obtain ⟨⟨Ft, r, _⟩, _⟩ := M; exact r.shape
theorem Mit.whole (M : Mit w F X h m W v L Fo) : Whole W h 76 #[.int .i64 (m.op : Int), .int .i64 (m.by_ : Int), .int .i64 (m.ex : Int), v] := by obtain ⟨⟨Ft, r, _⟩, _⟩ := M; exact r.whole
theorem Mit.row (M : Mit w F X h m W v L Fo) : W.ownsRow 0 77 1 v (snds L).length (pts (snds L)) := by obtain ⟨⟨Ft, r, _⟩, _⟩ := M; rw [snds_len]; exact r.row
theorem Mit.ptr {A : Option Addr} {n c : Nat} (M : Mit w F X h m W (.slice A n c) L Fo) {i : Nat} (hi : i < L.length) : ∃ b, A = some ⟨b, 0, none⟩ ∧ b < W.heap.size ∧ W.cell? ⟨b, i, none⟩ = some (pt L[i].2) := by
  obtain ⟨⟨Ft, r, _⟩, _⟩ := M
  obtain ⟨b, e, _, h1, h2⟩ := r.ptr hi
  exact ⟨b, e, h1, h2⟩
theorem Mit.rowX (M : Mit w F X h m W v L Fo) (hq : X b) : v.ownBlock ≠ some b := fun e => by
  obtain ⟨⟨Ft, r, _, h2⟩, _⟩ := M
  exact h2 b hq (r.fr b e).1
theorem Mit.rowL (M : Mit w F X h m W v L Fo) {x : Tm.One × Nat} (hx : x ∈ L) : v.ownBlock ≠ some x.2 := by
  obtain ⟨⟨Ft, r, _, h2⟩, _⟩ := M
  exact (r.fo x hx x.2 (r.bag.mg x hx).self).2.2
theorem Mit.notL (M : Mit w F X h m W v L Fo) (hq : X b) : ∀ x ∈ L, x.2 ≠ b := fun x hx e => by
  obtain ⟨⟨Ft, r, _, h2⟩, _⟩ := M
  exact h2 b hq (e ▸ (r.fo x hx x.2 (r.bag.mg x hx).self).1)
theorem Mit.drewN (M : Mit w F X h m W v L Fo) (n : Nat) : Mit w F X h m (W.drewN n) v L Fo := M.stay (below_draws _ _ n)
theorem mit_find (M : Mit w F X h m W v L Fo) (hL : L.length ≤ 1000) (a b c : Nat) :
    Calls Try.prog 35 #[pt h, .agg #[.int .u16 (a : Int), .int .u32 (b : Int), .int .u32 (c : Int)]] W fun e w' => e = .returned (.tuple #[foundV L (a, b, c), .bool (Tm.find (ones L) (a, b, c)).isSome]) ∧ Below W.heap.size W w' := by
  obtain ⟨⟨Ft, r, _⟩, _⟩ := M
  exact tfind22_any r hL a b c
theorem mit_held (M : Mit w F X h m W v L Fo) (hm : m.Ok) (hL : L.length ≤ 1000) (hs : Tm.held (ones L) ≤ 1000000000) :
    Calls Try.prog 28 #[pt h] W fun e w' => e = .returned (.int .i64 (Tm.held (ones L) : Int)) ∧ w' = W := by
  obtain ⟨⟨Ft, r, _⟩, _⟩ := M
  exact theld22_at r hm hL hs
theorem mit_discard {cb : Array Value} (M : Mit w F X h m W v L Fo) (hb : Whole W b 82 cb) (hbr : v.ownBlock ≠ some b) :
    Calls Try.prog 38 #[pt h, pt b] W fun e w' => e = .returned (.tuple #[]) ∧ (∃ v1, Mit w F X h m w' v1 (less L b) Fo) ∧ (∀ x, X x → w'.heap[x]? = W.heap[x]?) ∧ W.heap.size ≤ w'.heap.size := by
  obtain ⟨Ft, r, h1, h2⟩ := M.tab
  refine (tdiscard22_any r hb hbr).mono ?_
  rintro e w' ⟨e1, ⟨v1, _, e3⟩, e4⟩
  obtain ⟨k1, k2⟩ := M.step h1 h2 e3 (fun _ q => q) e4
  exact ⟨e1, ⟨v1, k1⟩, k2, e4.size⟩
/-- a message more -/
theorem Mit.push {G Y : Nat → Prop} {o : Tm.One} {ob : Obj} {wr : World} (M : Mit w F X h m W v L Fo) (hp : Mg W G b o) (hGX : ∀ x, G x → X x) (hGw : ∀ x, G x → w.heap.size ≤ x) (hY : ∀ x, Y x → X x ∧ ¬ G x)
    (ho : wr.ownsRow 0 77 1 v1 (L.length + 1) (pts (snds L) ++ [pt b])) (hgr : (W.alloc ob).grownBy wr v.ownBlock) (hv : v1.ownBlock = v.ownBlock ∨ v1.ownBlock = some (W.alloc ob).heap.size) :
    (∃ Fo1, Mit w F Y h m (wr.setCell ⟨h, 3, none⟩ v1) v1 (L ++ [(o, b)]) Fo1) ∧ (∀ x, Y x → (wr.setCell ⟨h, 3, none⟩ v1).heap[x]? = W.heap[x]?) ∧ W.heap.size ≤ (wr.setCell ⟨h, 3, none⟩ v1).heap.size := by
  obtain ⟨Ft, r, h1, h2⟩ := M.tab
  obtain ⟨⟨Fo1, k1⟩, k2⟩ := r.push hp (fun x hx => h2 x (hGX x hx)) ho hgr hv
  have M2 : Mit w F Y h m W v L Fo := M.less (fun x hx => (hY x hx).1)
  obtain ⟨k3, k4⟩ := M2.step (Ft := fun x => Ft x ∨ G x) (fun x hx => by
    rcases hx with hx | hx
    · exact h1 x hx
    · exact .inr ⟨hGw x hx, hp.lt x hx⟩) (fun x hx q => by
    rcases q with q | q
    · exact h2 x (hY x hx).1 q
    · exact (hY x hx).2 q) k1 (fun _ q => q) (k2.more (fun _ _ q => .inl q))
  exact ⟨⟨Fo1, k3⟩, k4, k2.size⟩
/-- one of the messages turns -/
theorem Mit.touch {o : Tm.One} (M : Mit w F X h m W v L Fo) (ho : (o, b) ∈ L) (f : Tm.One → Tm.One) (hft : Foot (Fo b) W W1) (hp : Mg W1 (Wide (Fo b) W W1) b (f o)) :
    (∃ Fo1, Mit w F X h m W1 v (turned b f L) Fo1) ∧ (∀ x, X x → W1.heap[x]? = W.heap[x]?) ∧ W.heap.size ≤ W1.heap.size := by
  obtain ⟨Ft, r, h1, h2⟩ := M.tab
  obtain ⟨k1, k2⟩ := r.touch ho f hft hp
  obtain ⟨k3, k4⟩ := M.step h1 h2 k1 (fun _ q => q) k2
  exact ⟨⟨_, k3⟩, k4, k2.size⟩
end
/-- one pointer more on a row of pointers -/
theorem src_pt (w : World) (b : Nat) : Src (w.alloc (.cells #[pt b] 77)) (some ⟨w.heap.size, 0, none⟩) [pt b] := src_one w _ _
section
variable {w W : World} {F X G Y : Nat → Prop} {h b : Nat} {m : Tm.Lim} {v : Value} {L : List (Tm.One × Nat)} {Fo : Nat → Nat → Prop} {o : Tm.One}
/-- what open answers -/
def OpenPost (w : World) (F Y : Nat → Prop) (h : Nat) (m : Tm.Lim) (W : World) (L : List (Tm.One × Nat)) (e : Ending) (w' : World) : Prop :=
  e = .returned (.tuple #[]) ∧ (∃ v Fo, Mit w F Y h m w' v L Fo) ∧ (∀ x, Y x → w'.heap[x]? = W.heap[x]?) ∧ W.heap.size ≤ w'.heap.size
set_option maxHeartbeats 2000000 in
theorem topen1_any (M : Mit w F X h m W v L Fo) (hop : m.op ≤ 16) (hop1 : 1 ≤ m.op) (hL : L.length ≤ m.op) (hp : Mg W G b o) (hGX : ∀ x, G x → X x) (hGw : ∀ x, G x → w.heap.size ≤ x) (hY : ∀ x, Y x → X x ∧ ¬ G x) :
    Calls Try.prog 39 #[pt h, pt b] W (OpenPost w F Y h m W ((if L.length = m.op then L.tail else L) ++ [(o, b)])) := by
  obtain ⟨A, cp, rfl, hle, hmx⟩ := M.shape
  have hMw := M.whole
  have c0 := hMw.at_ 0
  have c3 : W.cell? ⟨h, 3, none⟩ = some (.slice A L.length cp) := hMw.at_ 3
  have HM := Lib.hid M
  have HP := Lib.hid hp
  have HGX := Lib.hid hGX
  have HGw := Lib.hid hGw
  have HY := Lib.hid hY
  unfold maxLen at hmx
  by_cases hfull : L.length = m.op
  · rw [if_pos hfull]
    cases L with
    | nil => simp at hfull; omega
    | cons x L =>
      rw [List.tail_cons]
      obtain ⟨B, rfl, hB, hc⟩ := M.ptr (i := 0) (by simp)
      obtain ⟨g, hg⟩ := (M.mg (x := x) List.mem_cons_self).whole
      have hg' : ∀ q, Whole (W.drewN q) x.2 82 (fMs x.1 g) := fun q => hg
      have hrl := M.rowL (x := x) List.mem_cons_self
      have D := Lib.hid (fun q => mit_discard (M.drewN q) (hg' q) hrl)
      have hlm : less (x :: L) x.2 = L := less_mid [] L x (by simpa using M.once)
      rw [hlm] at D
      have hx0 : W.cell? ⟨B, 0, none⟩ = some (pt x.2) := hc
      have heq : (((x :: L).length : Int) == (m.op : Int)) = true := by simp; simp at hfull; omega
      obtain ⟨p, hp'⟩ : ∃ p, Hid (x.2 = p) := ⟨_, Lib.hid rfl⟩
      rw [hp'.out] at hx0 D
      obtain ⟨n, hn⟩ : ∃ n, Hid ((x :: L).length = n) := ⟨_, Lib.hid rfl⟩
      have hpos : 0 < n := by rw [← hn.out]; simp
      have hL16 : Hid (L.length ≤ 16) := Lib.hid (by simp at hfull; omega)
      obtain ⟨op, hop'⟩ : ∃ n, Hid (m.op = n) := ⟨_, Lib.hid rfl⟩
      rw [hn.out] at c3 heq hle
      rw [hop'.out] at c0 heq
      clear M hp hGX hGw hY hMw hc hg hg' hrl hlm hfull hL hop hop1
      go_enter Try.func39, Try.ntmps39
      go_wp2_with fail
      go_quiet (fail)
      go_wp2_with fail
      refine (D.out _).mono ?_
      rintro e w2 ⟨rfl, ⟨v2, M2⟩, hs2, hz2⟩
      have HM2 := Lib.hid M2
      have HS2 : Hid (∀ x, X x → w2.heap[x]? = W.heap[x]?) := Lib.hid hs2
      have HZ2 : Hid (W.heap.size ≤ w2.heap.size) := Lib.hid hz2
      obtain ⟨A2, cp2, rfl, hle2, hmx2⟩ := M2.shape
      have d3 : w2.cell? ⟨h, 3, none⟩ = some (.slice A2 L.length cp2) := M2.whole.at_ 3
      have HOW := Lib.hid M2.row
      have HPT : Hid (∀ v' w' ob, w'.ownsRow 0 77 1 v' ((snds L).length + 1) (pts (snds L) ++ [pt b]) → (w2.alloc ob).grownBy w' (Value.slice A2 L.length cp2).ownBlock → (v'.ownBlock = (Value.slice A2 L.length cp2).ownBlock ∨ v'.ownBlock = some (w2.alloc ob).heap.size) →
          (w'.cell? ⟨h, 3, none⟩).isSome ∧ w'.frozen? ⟨h, 3, none⟩ = false ∧ OpenPost w F Y h m W (L ++ [(o, b)]) (.returned (.tuple #[])) (w'.setCell ⟨h, 3, none⟩ v')) := Lib.hid (fun v' w' ob e1 e2 e3 => by
        rw [snds_len] at e1
        have hp2 : Mg w2 G b o := HP.out.keep (fun x hx => HS2.out x (HGX.out x hx))
        obtain ⟨⟨Fo1, k1⟩, k2, k3⟩ := HM2.out.push hp2 HGX.out HGw.out HY.out e1 e2 e3
        have hw : Whole w' h 76 _ := (HM2.out.whole.alloc ob).same (e2.block h (by have := HM2.out.whole.lt; simp; omega) (fun e => by
          obtain ⟨⟨Ft, r, _⟩, _⟩ := HM2.out
          exact (r.fr h e.symm).2 rfl))
        refine ⟨by rw [hw.at_ 3]; rfl, hw.free 3, rfl, ⟨_, _, k1⟩, fun x hx => (k2 x hx).trans (HS2.out x (HY.out x hx).1), Nat.le_trans HZ2.out k3⟩)
      have HSn : Hid ((snds L).length ≤ 16) := Lib.hid (by rw [snds_len]; exact hL16.out)
      have HSe := Lib.hid (snds_len L)
      obtain ⟨ll, hll⟩ : ∃ n, Hid ((snds L).length = n) := ⟨_, Lib.hid rfl⟩
      obtain ⟨xs, hxs⟩ : ∃ n, Hid (pts (snds L) = n) := ⟨_, Lib.hid rfl⟩
      rw [hll.out] at HSe HOW HSn HPT
      rw [HSe.out.symm] at d3 HOW HPT hle2
      rw [hxs.out] at HOW HPT
      clear M2 hs2 hz2 c0 c3 hx0
      go_wp2_with (at_builtin; refine wpList_append_cells Try.underlying74 (z := .pointer none) (size := 1) (bytes := 8) (by kernel_rfl) rfl (by decide) (by decide) _ _ rfl rfl 0 _ ll xs rfl (HOW.out.alloc _) 1 1 [pt b] rfl rfl (fun h => by cases h) (by decide) (src_pt _ _) (by intro u hu; simp at hu; subst hu; rfl) (by have := HSn.out; omega) (Nat.zero_le _) ?_; intro v' w' hr hg hv; refine held_in ?_)
      obtain ⟨q1, q2, q3⟩ := HPT.out _ _ _ hr hg hv
      obtain ⟨old, hold⟩ := Option.isSome_iff_exists.1 q1
      have HQ := Lib.hid q3
      obtain ⟨A3, c4, rfl⟩ := own_shape hr
      clear q1 q3 hr hg hv
      refine held_out ?_
      go_wp2_with fail
      go_end0
      exact HQ.out
  · rw [if_neg hfull]
    have heq : ((L.length : Int) == (m.op : Int)) = false := by simp; omega
    have HMn := Lib.hid (fun q => M.drewN q)
    have hL16 : Hid (L.length ≤ 16) := Lib.hid (by omega)
    obtain ⟨n, hn⟩ : ∃ n, Hid (L.length = n) := ⟨_, Lib.hid rfl⟩
    obtain ⟨op, hop'⟩ : ∃ n, Hid (m.op = n) := ⟨_, Lib.hid rfl⟩
    rw [hn.out] at c3 heq hle
    rw [hop'.out] at c0 heq
    clear M hp hGX hGw hY hMw hfull hL hop hop1
    go_enter Try.func39, Try.ntmps39
    go_wp2_with fail
    go_quiet (fail)
    obtain ⟨w2, hw2⟩ : ∃ W', W.drewN nq = W' := ⟨_, rfl⟩
    have M2 : Mit w F X h m w2 (.slice A L.length cp) L Fo := by rw [← hw2]; exact HMn.out nq
    have hs2 : ∀ x, X x → w2.heap[x]? = W.heap[x]? := fun x _ => by rw [← hw2]; rfl
    have hz2 : W.heap.size ≤ w2.heap.size := by rw [← hw2]; exact Nat.le_refl _
    rw [hw2]
    clear hw2 c0 c3 hle
    have HM2 := Lib.hid M2
    have HS2 : Hid (∀ x, X x → w2.heap[x]? = W.heap[x]?) := Lib.hid hs2
    have HZ2 : Hid (W.heap.size ≤ w2.heap.size) := Lib.hid hz2
    obtain ⟨hle2, hmx2⟩ : L.length ≤ cp ∧ cp ≤ maxLen := by
      obtain ⟨A', c', e, q1, q2⟩ := M2.shape
      injection e with e1 e2 e3
      subst e3
      exact ⟨q1, q2⟩
    have d3 : w2.cell? ⟨h, 3, none⟩ = some (.slice A L.length cp) := M2.whole.at_ 3
    have HOW := Lib.hid M2.row
    have HPT : Hid (∀ v' w' ob, w'.ownsRow 0 77 1 v' ((snds L).length + 1) (pts (snds L) ++ [pt b]) → (w2.alloc ob).grownBy w' (Value.slice A L.length cp).ownBlock → (v'.ownBlock = (Value.slice A L.length cp).ownBlock ∨ v'.ownBlock = some (w2.alloc ob).heap.size) →
        (w'.cell? ⟨h, 3, none⟩).isSome ∧ w'.frozen? ⟨h, 3, none⟩ = false ∧ OpenPost w F Y h m W (L ++ [(o, b)]) (.returned (.tuple #[])) (w'.setCell ⟨h, 3, none⟩ v')) := Lib.hid (fun v' w' ob e1 e2 e3 => by
      rw [snds_len] at e1
      have hp2 : Mg w2 G b o := HP.out.keep (fun x hx => HS2.out x (HGX.out x hx))
      obtain ⟨⟨Fo1, k1⟩, k2, k3⟩ := HM2.out.push hp2 HGX.out HGw.out HY.out e1 e2 e3
      have hw : Whole w' h 76 _ := (HM2.out.whole.alloc ob).same (e2.block h (by have := HM2.out.whole.lt; simp; omega) (fun e => by
        obtain ⟨⟨Ft, r, _⟩, _⟩ := HM2.out
        exact (r.fr h e.symm).2 rfl))
      refine ⟨by rw [hw.at_ 3]; rfl, hw.free 3, rfl, ⟨_, _, k1⟩, fun x hx => (k2 x hx).trans (HS2.out x (HY.out x hx).1), Nat.le_trans HZ2.out k3⟩)
    have HSn : Hid ((snds L).length ≤ 16) := Lib.hid (by rw [snds_len]; exact hL16.out)
    have HSe := Lib.hid (snds_len L)
    obtain ⟨ll, hll⟩ : ∃ n, Hid ((snds L).length = n) := ⟨_, Lib.hid rfl⟩
    obtain ⟨xs, hxs⟩ : ∃ n, Hid (pts (snds L) = n) := ⟨_, Lib.hid rfl⟩
    rw [hll.out] at HSe HOW HSn HPT
    rw [HSe.out.symm] at d3 HOW HPT hle2
    rw [hxs.out] at HOW HPT
    clear M2 hs2 hz2
    go_wp2_with (at_builtin; refine wpList_append_cells Try.underlying74 (z := .pointer none) (size := 1) (bytes := 8) (by kernel_rfl) rfl (by decide) (by decide) _ _ rfl rfl 0 _ ll xs rfl (HOW.out.alloc _) 1 1 [pt b] rfl rfl (fun h => by cases h) (by decide) (src_pt _ _) (by intro u hu; simp at hu; subst hu; rfl) (by have := HSn.out; omega) (Nat.zero_le _) ?_; intro v' w' hr hg hv; refine held_in ?_)
    obtain ⟨q1, q2, q3⟩ := HPT.out _ _ _ hr hg hv
    obtain ⟨old, hold⟩ := Option.isSome_iff_exists.1 q1
    have HQ := Lib.hid q3
    obtain ⟨A3, c4, rfl⟩ := own_shape hr
    clear q1 q3 hr hg hv
    refine held_out ?_
    go_wp2_with fail
    go_end0
    exact HQ.out
end
end Go.Proofs.Ytbhdgfpaoghnbaa
