/- Layer 22's reference in the midst of Put: the table, and blocks that it does not touch. -/
import Derived.Test.YtkpmlhhoijijhaaRobj22
namespace Go.Proofs.Ytkpmlhhoijijhaa
open Go.RowKit
set_option linter.unusedVariables false
set_option maxRecDepth 100000
set_option linter.unusedSimpArgs false

/-- the table as it stands at W, of the call that began at w; the blocks of X are none of its own -/
structure Mid (w : World) (F X : Nat → Prop) (h : Nat) (m : Tm.Lim) (W : World) (v : Value) (L : List (Tm.One × Nat)) (Fo : Nat → Nat → Prop) : Prop where
  tab : ∃ Ft, RtAt W Ft h v m L Fo ∧ (∀ b, Ft b → Wide F w W b) ∧ ∀ b, X b → ¬ Ft b
  foot : Foot F w W
  xlt : ∀ b, X b → b < W.heap.size
section
variable {w W W1 : World} {F X : Nat → Prop} {h g : Nat} {m : Tm.Lim} {v v1 : Value} {L L1 : List (Tm.One × Nat)} {Fo Fo1 : Nat → Nat → Prop}
theorem Wide.far {b : Nat} (hz : W.heap.size ≤ W1.heap.size) (h : Wide F w W b) : Wide F w W1 b := by
  rcases h with h | h
  · exact .inl h
  · exact .inr ⟨h.1, by omega⟩
theorem Mid.start (r : RtAt w F h v m L Fo) (hb : Below w.heap.size w W) (hX : ∀ b, X b → w.heap.size ≤ b ∧ b < W.heap.size) : Mid w F X h m W v L Fo :=
  ⟨⟨F, r.stay hb, fun b hb => .inl hb, fun b hx hf => by have := r.lt b hf; have := (hX b hx).1; omega⟩, Foot.of_below hb, fun b hx => (hX b hx).2⟩
theorem Mid.stay (M : Mid w F X h m W v L Fo) (hb : Below W.heap.size W W1) : Mid w F X h m W1 v L Fo := by
  obtain ⟨⟨Ft, r, h1, h2⟩, hf, hx⟩ := M
  have hz := hb.size
  exact ⟨⟨Ft, r.stay hb, fun b hb' => (h1 b hb').far hz, h2⟩, hf.trans (Foot.of_below (F := F) hb) (fun _ _ q => q), fun b hb' => by have := hx b hb'; omega⟩
theorem Mid.less {Y : Nat → Prop} (M : Mid w F X h m W v L Fo) (hY : ∀ b, Y b → X b) : Mid w F Y h m W v L Fo := by
  obtain ⟨⟨Ft, r, h1, h2⟩, hf, hx⟩ := M
  exact ⟨⟨Ft, r, h1, fun b hb => h2 b (hY b hb)⟩, hf, fun b hb => hx b (hY b hb)⟩
/-- .. other blocks that were made since are none of its own -/
theorem Mid.also {Y : Nat → Prop} (M : Mid w F X h m W v L Fo) (hb : Below W.heap.size W W1) (hY : ∀ b, Y b → W.heap.size ≤ b ∧ b < W1.heap.size) : Mid w F (fun b => X b ∨ Y b) h m W1 v L Fo := by
  have hz := hb.size
  have M1 := M.stay hb
  obtain ⟨⟨Ft, r, h1, h2⟩, hf, hx⟩ := M
  refine ⟨⟨Ft, r.stay hb, fun b hb' => (h1 b hb').far hz, fun b hb' hft => ?_⟩, M1.foot, fun b hb' => ?_⟩
  · rcases hb' with hb' | hb'
    · exact h2 b hb' hft
    · have := r.lt b hft; have := (hY b hb').1; omega
  · rcases hb' with hb' | hb'
    · have := hx b hb'; omega
    · exact (hY b hb').2
theorem Mid.step {Ft : Nat → Prop} (M : Mid w F X h m W v L Fo) (h1 : ∀ b, Ft b → Wide F w W b) (h2 : ∀ b, X b → ¬ Ft b) (r : RtAt W1 (Wide Ft W W1) h v1 m L1 Fo1) (hf : Foot Ft W W1) :
    Mid w F X h m W1 v1 L1 Fo1 ∧ ∀ b, X b → W1.heap[b]? = W.heap[b]? := by
  have hz := hf.size
  have hz0 := M.foot.size
  refine ⟨⟨⟨_, r, fun b hb => ?_, fun b hb hw => ?_⟩, M.foot.trans hf (fun b hb q => Wide.old b hb (h1 b q)), fun b hb => by have := M.xlt b hb; omega⟩, fun b hb => hf.block b (M.xlt b hb) (h2 b hb)⟩
  · rcases hb with hb | hb
    · exact (h1 b hb).far hz
    · exact .inr ⟨by omega, hb.2⟩
  · have := M.xlt b hb
    rcases hw with hw | hw
    · exact h2 b hb hw
    · omega
/-- .. at the call's end -/
theorem Mid.done (M : Mid w F X h m W v L Fo) (hF : ∀ b, F b → b < w.heap.size) : Rt W (Wide F w W) h m (ones L) ∧ Foot F w W := by
  obtain ⟨⟨Ft, r, h1, h2⟩, hf, hx⟩ := M
  refine ⟨⟨v, L, Fo, rfl, r.more h1 (fun b hb => ?_)⟩, hf⟩
  rcases hb with hb | hb
  · have := hF b hb; have := hf.size; omega
  · exact hb.2
/-- a block that is none of its own turns -/
theorem Mid.poke {q : Nat} (M : Mid w F X h m W v L Fo) (hf : Foot (fun b => b = q) W W1) (hq : X q) (hw : w.heap.size ≤ q) : Mid w F X h m W1 v L Fo := by
  obtain ⟨⟨Ft, r, h1, h2⟩, hf0, hx⟩ := M
  have hz := hf.size
  exact ⟨⟨Ft, r.keep (fun b hb => hf.block b (r.lt b hb) (fun e => h2 q hq (e ▸ hb))), fun b hb => (h1 b hb).far hz, h2⟩, hf0.trans hf (fun b hb e => by omega), fun b hb => by have := hx b hb; omega⟩
theorem foot_row (W : World) (q : Nat) (cs : Array Value) : Foot (fun b => b = q) W (W.setRow q cs) := ⟨rfl, rfl, rfl, by rw [size_setRow]; exact Nat.le_refl _, fun i _ hi => setRow_other W q i cs hi⟩
theorem Mid.rp (M : Mid w F X h m W v L Fo) {x : Tm.One × Nat} (hx : x ∈ L) : Rp W (Fo x.2) x.2 x.1.s := by obtain ⟨⟨Ft, r, _⟩, _⟩ := M; exact r.bag.rp x hx
theorem Mid.once (M : Mid w F X h m W v L Fo) : (L.map (fun x => x.2)).Nodup := by obtain ⟨⟨Ft, r, _⟩, _⟩ := M; exact r.bag.once
theorem Mid.shape (M : Mid w F X h m W v L Fo) : ∃ A c, v = .slice A L.length c ∧ L.length ≤ c ∧ c ≤ maxLen := by obtain ⟨⟨Ft, r, _⟩, _⟩ := M; exact r.shape
theorem Mid.whole (M : Mid w F X h m W v L Fo) : Whole W h 48 #[.int .i64 (m.op : Int), .int .i64 (m.by_ : Int), .int .i64 (m.ex : Int), v] := by obtain ⟨⟨Ft, r, _⟩, _⟩ := M; exact r.whole
theorem Mid.cells {A : Option Addr} {n c : Nat} (M : Mid w F X h m W (.slice A n c) L Fo) {i : Nat} (hi : i < L.length) : ∃ b, A = some ⟨b, 0, none⟩ ∧ b < W.heap.size ∧ ∀ j, j < 7 → W.cell? ⟨b, i * 7 + j, none⟩ = (fOe L[i])[j]? := by obtain ⟨⟨Ft, r, _⟩, _⟩ := M; exact r.cells hi
theorem Mid.row (M : Mid w F X h m W v L Fo) : W.ownsRow 0 64 7 v L.length (rowsOf fOe L) := by obtain ⟨⟨Ft, r, _⟩, _⟩ := M; exact r.row
theorem Mid.rowNe (M : Mid w F X h m W v L Fo) {Y : Nat → Prop} (hY : ∀ b, Y b → X b) {q : Nat} (hq : Y q) : ∀ k, v.ownBlock = some k → k ≠ h ∧ k ≠ q := fun k hk => by
  obtain ⟨⟨Ft, r, _, h2⟩, _⟩ := M
  have := r.fr k hk
  exact ⟨this.2, fun e => h2 q (hY q hq) (e ▸ this.1)⟩
theorem Mid.drewN (M : Mid w F X h m W v L Fo) (n : Nat) : Mid w F X h m (W.drewN n) v L Fo := M.stay (below_draws _ _ n)
theorem mid_find (M : Mid w F X h m W v L Fo) (hL : L.length ≤ 1000) (a b c : Nat) :
    Calls Try.prog 28 #[.pointer (some ⟨h, 0, none⟩), .int .u16 (a : Int), .int .u32 (b : Int), .int .u32 (c : Int)] W fun e w' => e = .returned (.int .i64 (placeI (Tm.find (ones L) (a, b, c)))) ∧ W = w' := by
  obtain ⟨⟨Ft, r, _⟩, _⟩ := M
  exact rfind22_any r hL a b c
theorem mid_held (M : Mid w F X h m W v L Fo) (hL : L.length ≤ 1000) (hs : Tm.held (ones L) ≤ 1000000000) :
    Calls Try.prog 15 #[.pointer (some ⟨h, 0, none⟩)] W fun e w' => e = .returned (.int .i64 (Tm.held (ones L) : Int)) ∧ w' = W := by
  obtain ⟨⟨Ft, r, _⟩, _⟩ := M
  exact (rheld22_any r hL hs).mono fun e w' ⟨e1, e2⟩ => ⟨e1, e2.symm⟩
theorem mid_without (M : Mid w F X h m W v L Fo) (hL : L.length ≤ 1000) (at_ : Int) (a : Nat) (ha : at_ = (a : Int) ∨ (at_ = -1 ∧ L.length ≤ a)) :
    Calls Try.prog 31 #[.pointer (some ⟨h, 0, none⟩), .int .i64 at_] W fun e w' => e = .returned (.tuple #[]) ∧ ∃ v1, Mid w F X h m w' v1 (L.eraseIdx a) Fo ∧ (∀ b, v1.ownBlock = some b → W.heap.size ≤ b) ∧ (∀ b, X b → w'.heap[b]? = W.heap[b]?) ∧ W.heap.size ≤ w'.heap.size := by
  obtain ⟨Ft, r, h1, h2⟩ := M.tab
  exact (rwithout22_any r hL at_ a ha).mono fun e w' ⟨e1, ⟨v1, e2, e3⟩, e4⟩ => by
    obtain ⟨k1, k2⟩ := M.step h1 h2 e2 e4
    exact ⟨e1, v1, k1, e3, k2, e4.size⟩
def Tm.One.putS (i : Int) (b : List Nat) (o : Tm.One) : Tm.One := { o with s := o.s.put i b }
theorem mid_add (M : Mid w F X h m W v L Fo) {o : Tm.One} (ho : (o, g) ∈ L) (i : Int) (i1 : -9223372036854775808 ≤ i) (i2 : i ≤ 9223372036854775807) {t : ByteArray} {b : List Nat} (T : Txt t b) :
    Calls Try.prog 32 #[.pointer (some ⟨g, 0, none⟩), .int .i64 i, .string t] W fun e w' => e = .returned (.int .i64 (o.s.err i : Int)) ∧ (∃ Fo1, Mid w F X h m w' v (turned g (Tm.One.putS i b) L) Fo1) ∧ (∀ b, X b → w'.heap[b]? = W.heap[b]?) ∧ W.heap.size ≤ w'.heap.size := by
  obtain ⟨Ft, r, h1, h2⟩ := M.tab
  exact (radd21_any (r.bag.rp _ ho) i i1 i2 T).mono fun e w' ⟨e1, e2, e3⟩ => by
    obtain ⟨k0, k00⟩ := r.touch ho (Tm.One.putS i b) (fun _ _ => rfl) e3 e2
    obtain ⟨k1, k2⟩ := M.step h1 h2 k0 k00
    exact ⟨e1, ⟨_, k1⟩, k2, e3.size⟩
theorem mid_whole (M : Mid w F X h m W v L Fo) {o : Tm.One} (ho : (o, g) ∈ L) (hs : o.s.size ≤ 1000000000) :
    Calls Try.prog 33 #[.pointer (some ⟨g, 0, none⟩)] W fun e w' => e = .returned (.tuple #[.string (strOf o.s.told), .bool o.s.full]) ∧ ∃ q, w' = W.drewN q := rwhole21_any (M.rp ho) hs
/-- a message more -/
theorem Mid.push {G Y : Nat → Prop} {o : Tm.One} {ob : Obj} {wr : World} (M : Mid w F X h m W v L Fo) (hp : Rp W G g o.s) (hGX : ∀ b, G b → X b) (hGw : ∀ b, G b → w.heap.size ≤ b) (hY : ∀ b, Y b → X b ∧ ¬ G b)
    (ho : wr.ownsRow 0 64 7 v1 (L.length + 1) (rowsOf fOe L ++ fOe (o, g))) (hgr : (W.alloc ob).grownBy wr v.ownBlock) (hv : v1.ownBlock = v.ownBlock ∨ v1.ownBlock = some (W.alloc ob).heap.size) :
    (∃ Fo1, Mid w F Y h m (wr.setCell ⟨h, 3, none⟩ v1) v1 (L ++ [(o, g)]) Fo1) ∧ (∀ b, Y b → (wr.setCell ⟨h, 3, none⟩ v1).heap[b]? = W.heap[b]?) ∧ W.heap.size ≤ (wr.setCell ⟨h, 3, none⟩ v1).heap.size := by
  obtain ⟨Ft, r, h1, h2⟩ := M.tab
  have r2 : RtAt W (fun b => Ft b ∨ G b) h v m L Fo := r.more (fun b hb => .inl hb) (fun b hb => by
    rcases hb with hb | hb
    · exact r.lt b hb
    · exact hp.lt b hb)
  have hne : ∀ b, G b → ¬ Ft b := fun b hb => h2 b (hGX b hb)
  obtain ⟨k1, k2⟩ := r2.push hp (fun b hb => ⟨.inr hb, fun e => hne b hb (e ▸ r.self), fun e => hne b hb (r.fr b e).1⟩) (fun x hx b hb hg => hne b hg (r.fo x hx b hb).1)
    (fun x hx e => hne g hp.self (by rw [← e]; exact (r.fo x hx _ (r.bag.rp x hx).self).1)) ho hgr hv
  have M2 : Mid w F Y h m W v L Fo := M.less (fun b hb => (hY b hb).1)
  obtain ⟨k3, k4⟩ := M2.step (Ft := fun b => Ft b ∨ G b) (fun b hb => by
    rcases hb with hb | hb
    · exact h1 b hb
    · exact .inr ⟨hGw b hb, hp.lt b hb⟩) (fun b hb q => by
    rcases q with q | q
    · exact h2 b (hY b hb).1 q
    · exact (hY b hb).2 q) k1 k2
  exact ⟨⟨_, k3⟩, k4, k2.size⟩
end
end Go.Proofs.Ytkpmlhhoijijhaa
