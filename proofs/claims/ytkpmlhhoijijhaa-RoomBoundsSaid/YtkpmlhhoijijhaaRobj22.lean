/- Words for layer 22's reference's Put: a thing of the table turns; a message more. -/
import Derived.Test.YtkpmlhhoijijhaaRtick22
import Derived.Test.YtkpmlhhoijijhaaGv
namespace Go.Proofs.Ytkpmlhhoijijhaa
open Go.RowKit
set_option linter.unusedVariables false
set_option maxRecDepth 100000
set_option linter.unusedSimpArgs false

section
variable {w w' wr : World} {F : Nat → Prop} {h g : Nat} {vl v : Value} {m : Tm.Lim} {L L' : List (Tm.One × Nat)} {Fo : Nat → Nat → Prop}
/-- new memory turns nothing -/
theorem RtAt.stay (r : RtAt w F h vl m L Fo) (hb : Below w.heap.size w w') : RtAt w' F h vl m L Fo := r.keep (fun b hb' => hb.block b (r.lt b hb'))
/-- .. the blocks that were made since are counted as its own -/
theorem RtAt.wide (r : RtAt w' F h vl m L Fo) (hz : w.heap.size ≤ w'.heap.size) : RtAt w' (Wide F w w') h vl m L Fo := r.more (fun b hb => .inl hb) (fun b hb => by
  rcases hb with hb | hb
  · exact r.lt b hb
  · exact hb.2)
/-- the list with the message of thing g turned -/
def turned (g : Nat) (f : Tm.One → Tm.One) (L : List (Tm.One × Nat)) : List (Tm.One × Nat) := L.map (fun x => if x.2 = g then (f x.1, x.2) else x)
theorem turned_rows {f : Tm.One → Tm.One} (hf : ∀ o n, fOe (f o, n) = fOe (o, n)) (L : List (Tm.One × Nat)) : rowsOf fOe (turned g f L) = rowsOf fOe L := by
  induction L with
  | nil => rfl
  | cons x L ih =>
    have : turned g f (x :: L) = (if x.2 = g then (f x.1, x.2) else x) :: turned g f L := rfl
    rw [this, rowsOf_cons, rowsOf_cons, ih]
    congr 1
    split
    · exact hf _ _
    · rfl
theorem turned_len (f : Tm.One → Tm.One) (L : List (Tm.One × Nat)) : (turned g f L).length = L.length := by simp [turned]
theorem turned_snd (f : Tm.One → Tm.One) (L : List (Tm.One × Nat)) : (turned g f L).map (fun x => x.2) = L.map (fun x => x.2) := by
  unfold turned
  rw [List.map_map]
  refine List.map_congr_left fun x _ => ?_
  simp only [Function.comp]
  split <;> rfl
theorem turned_mem {f : Tm.One → Tm.One} {x : Tm.One × Nat} (hx : x ∈ turned g f L) : ∃ y ∈ L, y.2 = x.2 ∧ (y.2 = g → x.1 = f y.1) ∧ (y.2 ≠ g → x = y) := by
  obtain ⟨y, hy, rfl⟩ := List.mem_map.1 hx
  refine ⟨y, hy, ?_, fun e => by rw [if_pos e], fun e => by rw [if_neg e]⟩
  split <;> rfl
theorem snd_uniq : ∀ (L : List (Tm.One × Nat)), (L.map (fun x => x.2)).Nodup → ∀ x ∈ L, ∀ y ∈ L, x.2 = y.2 → x = y
  | [], _, x, hx, _, _, _ => by cases hx
  | z :: L, hd, x, hx, y, hy, e => by
    rw [List.map_cons, List.nodup_cons] at hd
    rcases List.mem_cons.1 hx with rfl | hx'
    · rcases List.mem_cons.1 hy with rfl | hy'
      · rfl
      · exact absurd (List.mem_map.2 ⟨y, hy', e.symm⟩) hd.1
    · rcases List.mem_cons.1 hy with rfl | hy'
      · exact absurd (List.mem_map.2 ⟨x, hx', e⟩) hd.1
      · exact snd_uniq L hd.2 x hx' y hy' e
/-- one of the things turns -/
theorem RtAt.touch (r : RtAt w F h vl m L Fo) {o : Tm.One} (ho : (o, g) ∈ L) (f : Tm.One → Tm.One) (hf : ∀ o n, fOe (f o, n) = fOe (o, n)) (hft : Foot (Fo g) w w') (hp : Rp w' (Wide (Fo g) w w') g (f o).s) :
    RtAt w' (Wide F w w') h vl m (turned g f L) (fun n => if n = g then Wide (Fo g) w w' else Fo n) ∧ Foot F w w' := by
  have hz := hft.size
  have hog := r.fo _ ho
  simp only at hog
  have hblk : ∀ b, b < w.heap.size → ¬ Fo g b → w'.heap[b]? = w.heap[b]? := fun b h1 h2 => hft.block b h1 h2
  have huniq : ∀ y ∈ L, y.2 = g → y.1 = o := fun y hy e => by
    have := snd_uniq L r.bag.once y hy (o, g) ho e
    rw [this]
  refine ⟨⟨r.whole.same (hblk h (r.lt h r.self) (fun q => (hog h q).2.1 rfl)), ?_, .inl r.self, fun b hb => ⟨.inl (r.fr b hb).1, (r.fr b hb).2⟩, ⟨fun x hx => ?_, fun x hx y hy hne => ?_, ?_⟩, fun x hx b hb => ?_, ?_⟩, ?_⟩
  · rw [turned_len, turned_rows hf]
    exact own_same r.row (fun b hb => hblk b (r.lt b (r.fr b hb).1) (fun q => (hog b q).2.2 hb))
  · obtain ⟨y, hy, e, h1, h2⟩ := turned_mem hx
    by_cases hg : y.2 = g
    · rw [if_pos (by rw [← e]; exact hg), ← e, hg, h1 hg, huniq y hy hg]
      exact hp
    · rw [if_neg (by rw [← e]; exact hg)]
      have := h2 hg
      subst this
      exact (r.bag.rp x hy).keep (fun b hb => hblk b ((r.bag.rp x hy).lt b hb) (r.bag.aside x hy _ ho hg b hb))
  · obtain ⟨x', hx', e1, _⟩ := turned_mem hx
    obtain ⟨y', hy', e2, _⟩ := turned_mem hy
    rw [← e1, ← e2] at hne ⊢
    by_cases h1 : x'.2 = g
    · have h2 : y'.2 ≠ g := fun q => hne (h1.trans q.symm)
      rw [if_pos h1, if_neg h2]
      have ha : Aside (Fo y'.2) (Fo g) := (r.bag.aside _ ho y' hy' (by rw [← h1]; exact hne)).symm
      exact (ha.wide (fun b hb => (r.bag.rp y' hy').lt b hb)).symm
    · by_cases h2 : y'.2 = g
      · rw [if_neg h1, if_pos h2]
        have ha : Aside (Fo x'.2) (Fo g) := r.bag.aside x' hx' _ ho h1
        exact ha.wide (fun b hb => (r.bag.rp x' hx').lt b hb)
      · rw [if_neg h1, if_neg h2]
        exact r.bag.aside x' hx' y' hy' hne
  · rw [turned_snd]; exact r.bag.once
  · obtain ⟨y, hy, e, _⟩ := turned_mem hx
    rw [← e] at hb
    by_cases hg : y.2 = g
    · rw [if_pos hg] at hb
      rcases hb with hb | hb
      · have := hog b hb
        exact ⟨.inl this.1, this.2⟩
      · exact ⟨.inr hb, fun e => by have := r.lt h r.self; omega, fun e => by have := r.lt b (r.fr b e).1; omega⟩
    · rw [if_neg hg] at hb
      have := r.fo y hy b hb
      exact ⟨.inl this.1, this.2⟩
  · intro b hb
    rcases hb with hb | hb
    · have := r.lt b hb; omega
    · exact hb.2
  · exact hft.more (fun b _ q => (hog b q).1)
/-- a message more -/
theorem RtAt.push {G : Nat → Prop} {o : Tm.One} {ob : Obj} (r : RtAt w F h vl m L Fo) (hp : Rp w G g o.s) (hG1 : ∀ b, G b → F b ∧ b ≠ h ∧ vl.ownBlock ≠ some b) (hG2 : ∀ x ∈ L, Aside (Fo x.2) G) (hG3 : ∀ x ∈ L, x.2 ≠ g)
    (ho : wr.ownsRow 0 64 7 v (L.length + 1) (rowsOf fOe L ++ fOe (o, g))) (hgr : (w.alloc ob).grownBy wr vl.ownBlock) (hv : v.ownBlock = vl.ownBlock ∨ v.ownBlock = some (w.alloc ob).heap.size) :
    RtAt (wr.setCell ⟨h, 3, none⟩ v) (Wide F w (wr.setCell ⟨h, 3, none⟩ v)) h v m (L ++ [(o, g)]) (fun n => if n = g then G else Fo n) ∧ Foot F w (wr.setCell ⟨h, 3, none⟩ v) := by
  have hh := r.lt h r.self
  have hz : (wr.setCell ⟨h, 3, none⟩ v).heap.size = wr.heap.size := World.size_setCell ..
  have hz1 := hgr.size
  have ha : (w.alloc ob).heap.size = w.heap.size + 1 := World.size_alloc ..
  have hblk : ∀ b, b < w.heap.size → b ≠ h → vl.ownBlock ≠ some b → (wr.setCell ⟨h, 3, none⟩ v).heap[b]? = w.heap[b]? := fun b h1 h2 h3 => by
    rw [Below.heap_setCell _ _ _ _ (fun e => h2 e), hgr.block b (by omega) (fun e => h3 e.symm), Below.heap_alloc _ _ _ h1]
  have hvb : ∀ b, v.ownBlock = some b → (vl.ownBlock = some b) ∨ (w.heap.size < b ∧ b < wr.heap.size) := fun b hb => by
    rcases hv with e | e
    · exact .inl (by rw [← e]; exact hb)
    · have h1 := (ho.lt b hb).2
      rw [hb] at e
      injection e with e
      exact .inr (by omega)
  have hft : Foot F w (wr.setCell ⟨h, 3, none⟩ v) := (((Foot.refl F w).alloc ob).grown hgr (fun k hk _ => (r.fr k hk).1)).setCell 3 v r.self
  have hw : Whole wr h 48 _ := (r.whole.alloc ob).same (hgr.block h (by omega) (fun e => (r.fr h e.symm).2 rfl))
  refine ⟨⟨by simpa using hw.put 3 v, ?_, .inl r.self, fun b hb => ?_, ⟨fun x hx => ?_, fun x hx y hy hne => ?_, ?_⟩, fun x hx b hb => ?_, ?_⟩, hft⟩
  · rw [rowsOf_append, rowsOf_one, List.length_append]
    refine own_same ho (fun b hb => Below.heap_setCell _ _ _ _ (fun e => ?_))
    rcases hvb b hb with h1 | h1
    · exact (r.fr b h1).2 e
    · have e : b = h := e
      omega
  · rcases hvb b hb with h1 | h1
    · exact ⟨.inl (r.fr b h1).1, (r.fr b h1).2⟩
    · exact ⟨.inr ⟨by omega, by omega⟩, by omega⟩
  · rcases List.mem_append.1 hx with hx | hx
    · rw [if_neg (hG3 x hx)]
      exact (r.bag.rp x hx).keep (fun b hb => by
        have := r.fo x hx b hb
        exact hblk b ((r.bag.rp x hx).lt b hb) this.2.1 this.2.2)
    · obtain rfl : x = (o, g) := by simpa using hx
      rw [if_pos rfl]
      exact hp.keep (fun b hb => by
        have := hG1 b hb
        exact hblk b (hp.lt b hb) this.2.1 this.2.2)
  · rcases List.mem_append.1 hx with hx | hx
    · rcases List.mem_append.1 hy with hy | hy
      · rw [if_neg (hG3 x hx), if_neg (hG3 y hy)]
        exact r.bag.aside x hx y hy hne
      · obtain rfl : y = (o, g) := by simpa using hy
        rw [if_neg (hG3 x hx), if_pos rfl]
        exact hG2 x hx
    · obtain rfl : x = (o, g) := by simpa using hx
      rcases List.mem_append.1 hy with hy | hy
      · rw [if_neg (hG3 y hy), if_pos rfl]
        exact (hG2 y hy).symm
      · obtain rfl : y = (o, g) := by simpa using hy
        exact absurd rfl hne
  · rw [List.map_append, List.nodup_append]
    refine ⟨r.bag.once, by simp, fun a ha b hb => ?_⟩
    obtain ⟨x, hx, rfl⟩ := List.mem_map.1 ha
    simp at hb
    subst hb
    exact hG3 x hx
  · rcases List.mem_append.1 hx with hx | hx
    · rw [if_neg (hG3 x hx)] at hb
      have := r.fo x hx b hb
      refine ⟨.inl this.1, this.2.1, fun e => ?_⟩
      rcases hvb b e with h1 | h1
      · exact this.2.2 h1
      · have := (r.bag.rp x hx).lt b hb; omega
    · obtain rfl : x = (o, g) := by simpa using hx
      rw [if_pos rfl] at hb
      have := hG1 b hb
      refine ⟨.inl this.1, this.2.1, fun e => ?_⟩
      rcases hvb b e with h1 | h1
      · exact this.2.2 h1
      · have := hp.lt b hb; omega
  · intro b hb
    rcases hb with hb | hb
    · have := r.lt b hb; omega
    · exact hb.2
end
end Go.Proofs.Ytkpmlhhoijijhaa
