/- Words for layer 23's laws: the program's messages beside a row of the law's own. -/
import Derived.Test.YtbhdgfpaoghnbaaFc23
namespace Go.Proofs.Ytbhdgfpaoghnbaa
open Go.RowKit
set_option linter.unusedVariables false
set_option maxRecDepth 100000
set_option linter.unusedSimpArgs false

def Lone23 (w : World) (p : Nat) (m : Tm.Lim) (s : An.S) (W : World) : Prop := ∃ F, At W F p m s ∧ (∀ b, F b → w.heap.size ≤ b) ∧ Below w.heap.size w W
/-- .. beside a row -/
def Kin23 (w : World) (p : Nat) (m : Tm.Lim) (s : An.S) (E size : Nat) (v : Value) (n : Nat) (xs : List Value) (W : World) : Prop :=
  ∃ F, At W F p m s ∧ (∀ b, F b → w.heap.size ≤ b) ∧ Below w.heap.size w W ∧ W.ownsRow w.heap.size E size v n xs ∧ ∀ k, v.ownBlock = some k → ¬ F k
section
variable {w W W1 : World} {p : Nat} {m : Tm.Lim} {s : An.S} {E size n : Nat} {v : Value} {xs : List Value}
theorem Lone23.stay (h : Lone23 w p m s W) (hb : Below W.heap.size W W1) : Lone23 w p m s W1 := by
  obtain ⟨F, h1, h2, h3⟩ := h
  exact ⟨F, h1.keep (fun b hb' => hb.block b (h1.lt b hb')), h2, h3.trans (hb.mono h3.size)⟩
theorem Lone23.below (h : Lone23 w p m s W) : Below w.heap.size w W := by obtain ⟨F, h1, h2, h3⟩ := h; exact h3
theorem Lone23.new {F : Nat → Prop} (h : At W F p m s) (hF : ∀ b, F b → w.heap.size ≤ b) (hb : Below w.heap.size w W) : Lone23 w p m s W := ⟨F, h, hF, hb⟩
theorem Lone23.kin (h : Lone23 w p m s W) (E size : Nat) : Kin23 w p m s E size (.slice none 0 0) 0 [] W := by
  obtain ⟨F, h1, h2, h3⟩ := h
  exact ⟨F, h1, h2, h3, World.ownsRow_nil _ _ _ _, fun k hk => by cases hk⟩
theorem Kin23.lone (h : Kin23 w p m s E size v n xs W) : Lone23 w p m s W := by obtain ⟨F, h1, h2, h3, _⟩ := h; exact ⟨F, h1, h2, h3⟩
theorem Kin23.below (h : Kin23 w p m s E size v n xs W) : Below w.heap.size w W := h.lone.below
theorem Kin23.row (h : Kin23 w p m s E size v n xs W) : W.ownsRow w.heap.size E size v n xs := by obtain ⟨F, h1, h2, h3, h4, _⟩ := h; exact h4
theorem Kin23.stay (h : Kin23 w p m s E size v n xs W) (hb : Below W.heap.size W W1) : Kin23 w p m s E size v n xs W1 := by
  obtain ⟨F, h1, h2, h3, h4, h5⟩ := h
  exact ⟨F, h1.keep (fun b hb' => hb.block b (h1.lt b hb')), h2, h3.trans (hb.mono h3.size), own_below h4 hb, h5⟩
/-- behind an append to the row -/
theorem Kin23.push {v' : Value} {n' : Nat} {xs' : List Value} (h : Kin23 w p m s E size v n xs W) (ho : W1.ownsRow w.heap.size E size v' n' xs') (hg : W.grownBy W1 v.ownBlock) (hv : v'.ownBlock = v.ownBlock ∨ v'.ownBlock = some W.heap.size) : Kin23 w p m s E size v' n' xs' W1 := by
  obtain ⟨F, h1, h2, h3, h4, h5⟩ := h
  refine ⟨F, h1.keep (fun b hb' => hg.block b (h1.lt b hb') (fun e => h5 b e.symm hb')), h2, h3.grown hg h3.size (fun q hq => (h4.lt q hq).1), ho, fun k hk hF => ?_⟩
  rcases hv with hv | hv
  · exact h5 k (hv ▸ hk) hF
  · rw [hv] at hk
    injection hk with hk
    have := h1.lt k hF
    omega
theorem atake_kin (h : Kin23 w p m s E size v n xs W) (hm : m.Ok) (hok : s.Ok m) (sn : Nat) (hsn : sn < 65536) {u : Value} {g : Gd} (H : Gv w w.heap.size g u) (hl : g.body.length ≤ 1000000) :
    Calls Try.prog 9 #[.pointer (some ⟨p, 0, none⟩), .int .u16 (sn : Int), u] W fun e w' => ∃ a, e = .returned (.tuple #[a, .bool (An.take m s sn g).ok, .int .i64 ((An.take m s sn g).err : Int)]) ∧ Piece w' w'.heap.size a (An.take m s sn g).told ∧ Kin23 w p m (An.take m s sn g).s E size v n xs w' := by
  obtain ⟨F, h1, h2, h3, h4, h5⟩ := h
  refine (atake23_any h1 hm hok sn hsn (H.below h3) (fun _ hf => H.below (h3.trans (hf.below h2 h3.size))) hl).mono fun e w' ⟨a, F', e1, e2, e3, e6, e7, e4⟩ => ⟨a, e1, own_piece e2, F', e3, fun b hb => Wide.low h2 h3.size b (e6 b hb), h3.trans (e4.below h2 h3.size), own_same h4 (fun k hk => e4.block k (h4.lt k hk).2 (h5 k hk)), fun k hk hF => ?_⟩
  rcases e6 k hF with hF | ⟨hF, _⟩
  · exact h5 k hk hF
  · have := (h4.lt k hk).2
    omega
/-- .. a datagram that is newer than what they have -/
theorem atake_far {W0 : World} {B : Nat} {u : Value} {g : Gd} (h : Kin23 w p m s E size v n xs W0) (hb : Below W0.heap.size W0 W) (hm : m.Ok) (hok : s.Ok m) (sn : Nat) (hsn : sn < 65536) (hk : ∀ W1 : World, (∀ b, W0.heap.size ≤ b → b < W.heap.size → W1.heap[b]? = W.heap[b]?) → Gv W1 B g u) (hl : g.body.length ≤ 1000000) :
    Calls Try.prog 9 #[.pointer (some ⟨p, 0, none⟩), .int .u16 (sn : Int), u] W fun e w' => ∃ a, e = .returned (.tuple #[a, .bool (An.take m s sn g).ok, .int .i64 ((An.take m s sn g).err : Int)]) ∧ w'.ownsRow W.heap.size 5 1 a (An.take m s sn g).told.length (ints .u8 (An.take m s sn g).told) ∧ Kin23 w p m (An.take m s sn g).s E size v n xs w' ∧ ∀ b, W0.heap.size ≤ b → b < W.heap.size → w'.heap[b]? = W.heap[b]? := by
  obtain ⟨F, g1, g2, g3, g4, h5⟩ := h
  have hlt := g1.lt
  have h1 := g1.keep (fun b hb' => hb.block b (hlt b hb'))
  have h3 := g3.trans (hb.mono g3.size)
  have h4 := own_below g4 hb
  have hfar : ∀ b, W0.heap.size ≤ b → ¬ F b := fun b hb1 hF => by have := hlt b hF; omega
  refine (atake23_any h1 hm hok sn hsn (hk W (fun _ _ _ => rfl)) (fun W2 hf => hk W2 (fun b k1 k2 => hf.block b k2 (hfar b k1))) hl).mono fun e w' ⟨a, F', e1, e2, e3, e6, e7, e4⟩ => ⟨a, e1, e2, ⟨F', e3, fun b hb => Wide.low g2 h3.size b (e6 b hb), h3.trans (e4.below g2 h3.size), own_same h4 (fun k hk => e4.block k (h4.lt k hk).2 (h5 k hk)), fun k hk hF => ?_⟩, fun b k1 k2 => e4.block b k2 (hfar b k1)⟩
  rcases e6 k hF with hF | ⟨hF, _⟩
  · exact h5 k hk hF
  · have := (h4.lt k hk).2
    omega
/-- behind a store into the row itself -/
theorem Kin23.turn {v' : Value} {n' : Nat} {xs' : List Value} (h : Kin23 w p m s E size v n xs W) (ho : W1.ownsRow w.heap.size E size v' n' xs') (hv : v'.ownBlock = v.ownBlock) (hg : W.grownBy W1 v.ownBlock) : Kin23 w p m s E size v' n' xs' W1 := h.push ho hg (.inl hv)
theorem atick_kin (h : Kin23 w p m s E size v n xs W) (hm : m.Ok) (hok : s.Ok m) :
    Calls Try.prog 8 #[.pointer (some ⟨p, 0, none⟩)] W fun e w' => e = .returned (.tuple #[]) ∧ Kin23 w p m (An.tick m s) E size v n xs w' := by
  obtain ⟨F, h1, h2, h3, h4, h5⟩ := h
  refine (atick23_any h1 hm hok).mono fun e w' ⟨e1, e3, e4⟩ => ⟨e1, _, e3, Wide.low h2 h3.size, h3.trans (e4.below h2 h3.size), own_same h4 (fun k hk => e4.block k (h4.lt k hk).2 (h5 k hk)), fun k hk hF => ?_⟩
  rcases hF with hF | ⟨hF, _⟩
  · exact h5 k hk hF
  · have := (h4.lt k hk).2
    omega
/-- the program's messages beside blocks that are none of theirs -/
def Kx23 (w : World) (p : Nat) (m : Tm.Lim) (s : An.S) (X : Nat → Prop) (W : World) : Prop :=
  ∃ F, At W F p m s ∧ (∀ b, F b → w.heap.size ≤ b) ∧ Below w.heap.size w W ∧ ∀ b, X b → ¬ F b ∧ b < W.heap.size
theorem Kx23.lone {X : Nat → Prop} (h : Kx23 w p m s X W) : Lone23 w p m s W := by obtain ⟨F, h1, h2, h3, _⟩ := h; exact ⟨F, h1, h2, h3⟩
theorem Kx23.less {X Y : Nat → Prop} (h : Kx23 w p m s X W) (hY : ∀ b, Y b → X b) : Kx23 w p m s Y W := by obtain ⟨F, h1, h2, h3, h4⟩ := h; exact ⟨F, h1, h2, h3, fun b hb => h4 b (hY b hb)⟩
theorem Kx23.stay {X : Nat → Prop} (h : Kx23 w p m s X W) (hb : Below W.heap.size W W1) : Kx23 w p m s X W1 := by
  obtain ⟨F, h1, h2, h3, h4⟩ := h
  exact ⟨F, h1.keep (fun b hb' => hb.block b (h1.lt b hb')), h2, h3.trans (hb.mono h3.size), fun b hX => ⟨(h4 b hX).1, Nat.lt_of_lt_of_le (h4 b hX).2 hb.size⟩⟩
theorem atake_kx {X : Nat → Prop} {B : Nat} {u : Value} {g : Gd} (h : Kx23 w p m s X W) (hm : m.Ok) (hok : s.Ok m) (sn : Nat) (hsn : sn < 65536) (hk : ∀ W1, (∀ b, X b → W1.heap[b]? = W.heap[b]?) → Gv W1 B g u) (hl : g.body.length ≤ 1000000) :
    Calls Try.prog 9 #[.pointer (some ⟨p, 0, none⟩), .int .u16 (sn : Int), u] W fun e w' => ∃ a, e = .returned (.tuple #[a, .bool (An.take m s sn g).ok, .int .i64 ((An.take m s sn g).err : Int)]) ∧ w'.ownsRow W.heap.size 5 1 a (An.take m s sn g).told.length (ints .u8 (An.take m s sn g).told) ∧ Kx23 w p m (An.take m s sn g).s (fun b => X b ∨ a.ownBlock = some b) w' ∧ ∀ b, X b → w'.heap[b]? = W.heap[b]? := by
  obtain ⟨F, h1, h2, h3, h4⟩ := h
  refine (atake23_any h1 hm hok sn hsn (hk W (fun _ _ => rfl)) (fun W2 hf => hk W2 (fun b hb => hf.block b (h4 b hb).2 (h4 b hb).1)) hl).mono fun e w' ⟨a, F', e1, e2, e3, e6, e7, e4⟩ => ⟨a, e1, e2, ⟨F', e3, fun b hb => Wide.low h2 h3.size b (e6 b hb), h3.trans (e4.below h2 h3.size), fun b hX => ?_⟩, fun b hX => e4.block b (h4 b hX).2 (h4 b hX).1⟩
  rcases hX with hX | hX
  · refine ⟨fun hF => ?_, Nat.lt_of_lt_of_le (h4 b hX).2 e4.size⟩
    rcases e6 b hF with hF | ⟨hF, _⟩
    · exact (h4 b hX).1 hF
    · have := (h4 b hX).2
      omega
  · exact ⟨e7 b hX, (e2.lt b hX).2⟩
theorem amem_lone (h : Lone23 w p m s W) (hok : s.Ok m) (sn : Nat) (hsn : sn < 65536) :
    Calls Try.prog 12 #[.pointer (some ⟨p, 0, none⟩), .int .u16 (sn : Int)] W fun e w' => e = .returned (.agg #[.bool (s.mem sn).any, .int .u32 ((s.mem sn).epoch : Int), .int .u32 ((s.mem sn).top : Int), .int .u64 ((s.mem sn).bits : Int)]) ∧ Below W.heap.size W w' := by
  obtain ⟨F, h1, h2, h3⟩ := h
  exact amem23_any h1 hok sn hsn
end
end Go.Proofs.Ytbhdgfpaoghnbaa
