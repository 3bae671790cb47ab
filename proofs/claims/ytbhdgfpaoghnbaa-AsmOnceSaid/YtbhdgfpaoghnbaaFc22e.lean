/- Contracts of package room: the steps of Put. -/
import Derived.Test.YtbhdgfpaoghnbaaFc22c
import Derived.Test.YtbhdgfpaoghnbaaFc22d
import Derived.Test.YtbhdgfpaoghnbaaRput22
namespace Go.Proofs.Ytbhdgfpaoghnbaa
open Go.RowKit
set_option linter.unusedVariables false
set_option maxRecDepth 100000
set_option linter.unusedSimpArgs false

/-- what Put answers -/
def TputPost (w : World) (F : Nat → Prop) (h : Nat) (m : Tm.Lim) (R : Tm.R) (e : Ending) (w' : World) : Prop :=
  ∃ v F', e = .returned (.tuple #[v, .bool R.ok, .int .i64 (R.err : Int)]) ∧ w'.ownsRow w.heap.size 5 1 v R.told.length (ints .u8 R.told) ∧ Tt w' F' h m R.l ∧ (∀ b, F' b → Wide F w w' b) ∧ (∀ k, v.ownBlock = some k → ¬ F' k) ∧ Foot F w w'
theorem TputPost.of {w : World} {F : Nat → Prop} {h : Nat} {m : Tm.Lim} {R R' : Tm.R} {e : Ending} {w' : World} (hR : R' = R) (k : TputPost w F h m R e w') : TputPost w F h m R' e w' := hR ▸ k
section
variable {w W : World} {F X : Nat → Prop} {h b bx : Nat} {m : Tm.Lim} {v vl : Value} {L : List (Tm.One × Nat)} {Fo : Nat → Nat → Prop} {o : Tm.One}
theorem put_fin {R : Tm.R} (M : Mit w F (fun x => v.ownBlock = some x) h m W vl L Fo) (hF : ∀ b, F b → b < w.heap.size) (hl : ones L = R.l) (ho : W.ownsRow w.heap.size 5 1 v R.told.length (ints .u8 R.told)) :
    TputPost w F h m R (.returned (.tuple #[v, .bool R.ok, .int .i64 (R.err : Int)])) W := by
  obtain ⟨Ft, q1, q2, q3, q4⟩ := M.done hF
  rw [hl] at q1
  exact ⟨v, Ft, rfl, ho, q1, q2, q3, q4⟩
theorem put_nil (M : Mit w F X h m W vl L Fo) (hF : ∀ b, F b → b < w.heap.size) (er : Nat) {l : List Tm.One} (hl : ones L = l) :
    TputPost w F h m ⟨[], false, er, l⟩ (.returned (.tuple #[.slice none 0 0, .bool false, .int .i64 (er : Int)])) W :=
  put_fin (R := ⟨[], false, er, l⟩) (M.less (fun x hx => by cases hx)) hF hl (World.ownsRow_nil _ _ 5 1)
theorem put_disc {cb : Array Value} (M : Mit w F X h m W vl L Fo) (hF : ∀ b, F b → b < w.heap.size) (hb : Whole W b 82 cb) (hbr : vl.ownBlock ≠ some b) {l : List Tm.One} (hl : ones (less L b) = l) :
    Calls Try.prog 38 #[pt h, pt b] W fun e w' => e = .returned (.tuple #[]) ∧ TputPost w F h m ⟨[], false, 10, l⟩ (.returned (.tuple #[.slice none 0 0, .bool false, .int .i64 10])) w' := by
  refine (mit_discard M hb hbr).mono ?_
  rintro e w' ⟨e1, ⟨v1, e2⟩, _, _⟩
  exact ⟨e1, put_nil e2 hF 10 hl⟩
/-- the table with these messages, that one in block b among them -/
def St (w : World) (F : Nat → Prop) (bx h : Nat) (m : Tm.Lim) (W : World) (l : List Tm.One) (b : Nat) (o : Tm.One) : Prop :=
  ∃ v L Fo, Mit w F (fun x => x = bx) h m W v L Fo ∧ ones L = l ∧ (o, b) ∈ L
theorem St.stay {l : List Tm.One} {W1 : World} (S : St w F bx h m W l b o) (hb : Below W.heap.size W W1) : St w F bx h m W1 l b o := by
  obtain ⟨v, L, Fo, M, q⟩ := S
  exact ⟨v, L, Fo, M.stay hb, q⟩
theorem St.cell {l : List Tm.One} (S : St w F bx h m W l b o) : ∃ q, W.cell? ⟨b, 6, none⟩ = some (pt q) ∧ bx < W.heap.size := by
  obtain ⟨v, L, Fo, M, e, hm⟩ := S
  obtain ⟨g, hg⟩ := (M.mg hm).whole
  exact ⟨g, hg.at_ 6, M.xlt bx rfl⟩
theorem turned_find {L : List (Tm.One × Nat)} (hn : (snds L).Nodup) (hkn : ((ones L).map Tm.One.key).Nodup) (hm : (o, b) ∈ L) {i : Nat} (hi : Tm.find (ones L) o.key = some i) (f : Tm.One → Tm.One) : ones (turned b f L) = (ones L).set i (f o) := by
  obtain ⟨hl, h1, _⟩ := Tm.find_some hi
  rw [ones_get hl] at h1
  have hl' : i < L.length := by rw [ones_len] at hl; exact hl
  have e : L[i] = (o, b) := key_uniq L hkn L[i] (List.getElem_mem hl') (o, b) hm h1
  rw [turned_set f L i hl' hn (by rw [e]), e]
theorem st_add {l : List Tm.One} {B : Nat} {g : Gd} {vb : Value} {q i : Nat} (S : St w F bx h m W l b o) (hkn : (l.map Tm.One.key).Nodup) (hi : Tm.find l o.key = some i) (P : Piece W B vb g.body) (hg : g.Ok) (hlen : g.body.length ≤ 1000000) (hs : o.s.size ≤ 1000000) (hx : g.index < o.s.count) (hh : o.s.has g.index = false) (hq : W.cell? ⟨b, 6, none⟩ = some (pt q)) :
    Calls Try.prog 40 #[pt q, .int .i64 (g.index : Int), vb] W fun e w' => e = .returned (.int .i64 0) ∧ St w F bx h m w' (l.set i (o.plus g)) b (o.plus g) ∧ w'.heap[bx]? = W.heap[bx]? ∧ w'.cell? ⟨b, 6, none⟩ = some (pt q) := by
  obtain ⟨v, L, Fo, M, rfl, hm⟩ := S
  obtain ⟨q', G, hM⟩ := M.mg hm
  have e : q' = q := by
    have := hM.whole.at_ 6
    rw [hq] at this
    simpa using this.symm
  subst e
  have hix := hg.index
  have he : o.s.err (g.index : Int) = 0 := by unfold Pm.S.err; rw [if_neg (by omega), if_neg (by rw [Int.toNat_natCast, hh]; decide)]
  have hpl : Tm.One.putS (g.index : Int) g.body o = o.plus g := putS_plus hx hh
  refine (padd21_any hM.parts (show o.s.size ≤ 1152921504606846976 by omega) (g.index : Int) (by omega) (by omega) P hg.body (by omega)).mono ?_
  rintro e w' ⟨e1, e2, e3⟩
  rw [he] at e1
  obtain ⟨k1, k2⟩ := hM.added (o' := Tm.One.putS (g.index : Int) g.body o) rfl e3 e2
  obtain ⟨⟨Fo1, k3⟩, k4, _⟩ := M.touch hm (Tm.One.putS (g.index : Int) g.body) k2 k1
  refine ⟨e1, ⟨v, _, Fo1, k3, ?_, ?_⟩, k4 bx rfl, ?_⟩
  · rw [turned_find M.once hkn hm hi, hpl]
  · rw [← hpl]; exact turned_has _ hm
  · have hw : Whole w' b 82 (fMs o q') := hM.whole.same (e3.block b hM.whole.lt (fun e => (hM.sub b e).2 rfl))
    exact hw.at_ 6
theorem st_shrink {l : List Tm.One} (S : St w F bx h m W l b o) (hm : m.Ok) (hkn : (l.map Tm.One.key).Nodup) (hlen : l.length ≤ 1000) (hh : Tm.held l ≤ 1000000000) (hs : o.s.size ≤ m.by_) :
    Calls Try.prog 41 #[pt h, pt b] W fun e w' => e = .returned (.tuple #[]) ∧ St w F bx h m w' (Tm.shrink m.by_ o.key l.length l) b o ∧ w'.heap[bx]? = W.heap[bx]? := by
  obtain ⟨v, L, Fo, M, rfl, hmem⟩ := S
  rw [ones_len] at hlen
  refine (tshrink22_any M hm hlen hh hmem).mono ?_
  rintro e w' ⟨e1, ⟨v1, Fo1, e2⟩, e3, e4⟩
  refine ⟨e1, ⟨v1, _, Fo1, e2, ?_, ?_⟩, e3 bx rfl⟩
  · have := sweep_is (q := m.by_) (b := b) (k := o.key) rfl hs L [] (ones L).length (by simpa using M.once) (by simpa using hkn) (by simpa using hmem) (.inl rfl) (by rw [ones_len]; simp)
    rw [this, List.nil_append]
  · exact sweep_mem m.by_ b o L [] (by simpa using hmem)
/-- .. beside bytes of the call's own -/
def Sv (w : World) (F : Nat → Prop) (h : Nat) (m : Tm.Lim) (W : World) (l : List Tm.One) (b : Nat) (o : Tm.One) (v : Value) : Prop :=
  ∃ vl L Fo, Mit w F (fun x => v.ownBlock = some x) h m W vl L Fo ∧ ones L = l ∧ (o, b) ∈ L ∧ W.ownsRow w.heap.size 5 1 v o.s.told.length (ints .u8 o.s.told)
theorem st_whole {l : List Tm.One} {q : Nat} (S : St w F bx h m W l b o) (hs : o.s.size ≤ 1000000) (hq : W.cell? ⟨b, 6, none⟩ = some (pt q)) :
    Calls Try.prog 42 #[pt q] W fun e w' => ∃ v, e = .returned (.tuple #[v, .bool o.s.full]) ∧ Sv w F h m w' l b o v ∧ (∃ A n c, v = .slice A n c) := by
  obtain ⟨vl, L, Fo, M, rfl, hmem⟩ := S
  obtain ⟨q', G, hM⟩ := M.mg hmem
  have e : q' = q := by
    have := hM.whole.at_ 6
    rw [hq] at this
    simpa using this.symm
  subst e
  refine (pwhole21_any hM.parts hs).mono ?_
  rintro e w' ⟨v, e1, e2, e3⟩
  have hf := M.foot.size
  obtain ⟨A, c, ev⟩ := own_shape e2
  exact ⟨v, e1, ⟨vl, L, Fo, (M.also e3 (Y := fun x => v.ownBlock = some x) (fun x hx => e2.lt x hx)).less (fun x hx => .inr hx), rfl, hmem, own_lower e2 hf⟩, A, _, c, ev⟩
theorem sv_open {l : List Tm.One} (S : Sv w F h m W l b o v) (hF : ∀ b, F b → b < w.heap.size) (hf : o.s.full = false) : TputPost w F h m ⟨[], false, 0, l⟩ (.returned (.tuple #[v, .bool false, .int .i64 0])) W := by
  obtain ⟨vl, L, Fo, M, e, _, ho⟩ := S
  have ht : o.s.told = [] := by unfold Pm.S.told; rw [hf]; rfl
  rw [ht] at ho
  exact put_fin (R := ⟨[], false, 0, l⟩) M hF e ho
theorem sv_full {l : List Tm.One} (S : Sv w F h m W l b o v) (hF : ∀ b, F b → b < w.heap.size) (hkn : (l.map Tm.One.key).Nodup) (hf : o.s.full = true) :
    Calls Try.prog 38 #[pt h, pt b] W fun e w' => e = .returned (.tuple #[]) ∧ TputPost w F h m ⟨o.s.whole, true, 0, Tm.wo l o.key⟩ (.returned (.tuple #[v, .bool true, .int .i64 0])) w' := by
  obtain ⟨vl, L, Fo, M, rfl, hmem, ho⟩ := S
  have ht : o.s.told = o.s.whole := by unfold Pm.S.told; rw [hf]; rfl
  rw [ht] at ho
  obtain ⟨g, hg⟩ := (M.mg hmem).whole
  refine (mit_discard M hg (M.rowL hmem)).mono ?_
  rintro e w' ⟨e1, ⟨v1, e2⟩, e3, e4⟩
  exact ⟨e1, put_fin (R := ⟨o.s.whole, true, 0, Tm.wo (ones L) o.key⟩) e2 hF (less_wo M.once hkn hmem rfl) (own_same ho (fun x hx => e3 x hx))⟩
end
end Go.Proofs.Ytbhdgfpaoghnbaa
