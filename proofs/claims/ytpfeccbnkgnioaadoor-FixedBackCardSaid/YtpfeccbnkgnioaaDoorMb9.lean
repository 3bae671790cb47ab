/- A message that is being read, field by field, beside a reader. -/
import Derived.Test.YtpfeccbnkgnioaaDoorFgets
import Derived.Test.YtpfeccbnkgnioaaDoorTab
namespace Go.Proofs.YtpfeccbnkgnioaaDoor
open Go.RowKit
set_option linter.unusedVariables false
set_option maxRecDepth 100000
open Gm

/-- block g holds the message; its lists are rows of the call's own, in blocks above g -/
structure Mb (w : World) (g : Nat) (m : Ms) : Prop where
  ex : ∃ Ap cp Aq cq, Bx w g m (.slice Ap m.peers.length cp) (.slice Aq m.pairs.length cq) ∧ w.ownsRow (g + 1) 26 2 (.slice Ap m.peers.length cp) m.peers.length (two fPeer m.peers) ∧ w.ownsRow (g + 1) 43 2 (.slice Aq m.pairs.length cq) m.pairs.length (two fPair m.pairs)
section
variable {w w' w0 w1 : World} {g r n c : Nat} {m : Ms} {A : Option Addr}
theorem Mb.lt (h : Mb w g m) : g < w.heap.size := by obtain ⟨_, _, _, _, h, _⟩ := h.ex; exact Whole.lt h
theorem Mb.only (h : Mb w g m) (k : Only r w w') (hr : r < g) : Mb w' g m := by
  obtain ⟨a, b, c, d, h1, h2, h3⟩ := h.ex
  exact ⟨a, b, c, d, Whole.only h1 k (by omega), own2_only h2 k (by omega), own2_only h3 k (by omega)⟩
theorem Mb.below (h : Mb w g m) (k : Below w.heap.size w w') : Mb w' g m := by
  obtain ⟨a, b, c, d, h1, h2, h3⟩ := h.ex
  exact ⟨a, b, c, d, h1.below k (Whole.lt h1), own2_below h2 k, own2_below h3 k⟩
theorem Mb.mv (h : Mb w g m) (ok : Ok m) : ∃ vp vq, Bx w g m vp vq ∧ Mv w w.heap.size m (.agg #[.int .i64 m.kind, .int .u32 (m.rid : Int), .int .u8 (m.code : Int), .bool m.has, .int .u64 (m.id : Int), .string m.key, .string m.val, .int .u64 (m.pid : Int), .int .u16 (m.pad : Int), vp, vq]) ∧ vp.oneCell' = true ∧ vq.oneCell' = true := by
  obtain ⟨a, b, c, d, h1, h2, h3⟩ := h.ex
  exact ⟨_, _, h1, ⟨⟨_, _, rfl, Sl.of_own h2, Sl.of_own h3⟩, ok⟩, rfl, rfl⟩
theorem Mb.cells (h : Mb w g m) : w.cell? ⟨g, 0, none⟩ = some (.int .i64 m.kind) ∧ w.cell? ⟨g, 1, none⟩ = some (.int .u32 (m.rid : Int)) ∧ w.cell? ⟨g, 2, none⟩ = some (.int .u8 (m.code : Int)) ∧ w.cell? ⟨g, 3, none⟩ = some (.bool m.has) ∧
    w.cell? ⟨g, 4, none⟩ = some (.int .u64 (m.id : Int)) ∧ w.cell? ⟨g, 5, none⟩ = some (.string m.key) ∧ w.cell? ⟨g, 6, none⟩ = some (.string m.val) ∧ w.cell? ⟨g, 7, none⟩ = some (.int .u64 (m.pid : Int)) ∧ w.cell? ⟨g, 8, none⟩ = some (.int .u16 (m.pad : Int)) := by
  obtain ⟨a, b, c, d, h1, h2, h3⟩ := h.ex
  exact ⟨h1.at_ 0, h1.at_ 1, h1.at_ 2, h1.at_ 3, h1.at_ 4, h1.at_ 5, h1.at_ 6, h1.at_ 7, h1.at_ 8⟩
theorem Mb.free (h : Mb w g m) (i : Nat) : w.frozen? ⟨g, i, none⟩ = false := by obtain ⟨a, b, c, d, h1, _⟩ := h.ex; exact h1.free i
theorem Mb.peersC (h : Mb w g m) : ∃ A c, w.cell? ⟨g, 9, none⟩ = some (.slice A m.peers.length c) ∧ w.ownsRow (g + 1) 26 2 (.slice A m.peers.length c) m.peers.length (two fPeer m.peers) := by
  obtain ⟨a, b, c, d, h1, h2, h3⟩ := h.ex
  exact ⟨a, b, h1.at_ 9, h2⟩
theorem Mb.pairsC (h : Mb w g m) : ∃ A c, w.cell? ⟨g, 10, none⟩ = some (.slice A m.pairs.length c) ∧ w.ownsRow (g + 1) 43 2 (.slice A m.pairs.length c) m.pairs.length (two fPair m.pairs) := by
  obtain ⟨a, b, c, d, h1, h2, h3⟩ := h.ex
  exact ⟨c, d, h1.at_ 10, h3⟩
theorem own_far {base sz k : Nat} {t : TypeId} {v : Value} {xs : List Value} (h : w.ownsRow base t sz v k xs) {i : Nat} (hg : g < base) (u : Value) : (w.setCell ⟨g, i, none⟩ u).ownsRow base t sz v k xs := ownsRow_setCell_below h (a := ⟨g, i, none⟩) (by show g < base; omega) u
theorem Mb.setRid (h : Mb w g m) (x : Nat) : Mb (w.setCell ⟨g, 1, none⟩ (.int .u32 (x : Int))) g { m with rid := x } := by
  obtain ⟨a, b, c, d, h1, h2, h3⟩ := h.ex
  exact ⟨a, b, c, d, h1.put 1 _, own_far h2 (by omega) _, own_far h3 (by omega) _⟩
theorem Mb.setCode (h : Mb w g m) (x : Nat) : Mb (w.setCell ⟨g, 2, none⟩ (.int .u8 (x : Int))) g { m with code := x } := by
  obtain ⟨a, b, c, d, h1, h2, h3⟩ := h.ex
  exact ⟨a, b, c, d, h1.put 2 _, own_far h2 (by omega) _, own_far h3 (by omega) _⟩
theorem Mb.setHas (h : Mb w g m) (x : Bool) : Mb (w.setCell ⟨g, 3, none⟩ (.bool x)) g { m with has := x } := by
  obtain ⟨a, b, c, d, h1, h2, h3⟩ := h.ex
  exact ⟨a, b, c, d, h1.put 3 _, own_far h2 (by omega) _, own_far h3 (by omega) _⟩
theorem Mb.setId (h : Mb w g m) (x : Nat) : Mb (w.setCell ⟨g, 4, none⟩ (.int .u64 (x : Int))) g { m with id := x } := by
  obtain ⟨a, b, c, d, h1, h2, h3⟩ := h.ex
  exact ⟨a, b, c, d, h1.put 4 _, own_far h2 (by omega) _, own_far h3 (by omega) _⟩
theorem Mb.setKey (h : Mb w g m) (x : ByteArray) : Mb (w.setCell ⟨g, 5, none⟩ (.string x)) g { m with key := x } := by
  obtain ⟨a, b, c, d, h1, h2, h3⟩ := h.ex
  exact ⟨a, b, c, d, h1.put 5 _, own_far h2 (by omega) _, own_far h3 (by omega) _⟩
theorem Mb.setVal (h : Mb w g m) (x : ByteArray) : Mb (w.setCell ⟨g, 6, none⟩ (.string x)) g { m with val := x } := by
  obtain ⟨a, b, c, d, h1, h2, h3⟩ := h.ex
  exact ⟨a, b, c, d, h1.put 6 _, own_far h2 (by omega) _, own_far h3 (by omega) _⟩
theorem Mb.setPid (h : Mb w g m) (x : Nat) : Mb (w.setCell ⟨g, 7, none⟩ (.int .u64 (x : Int))) g { m with pid := x } := by
  obtain ⟨a, b, c, d, h1, h2, h3⟩ := h.ex
  exact ⟨a, b, c, d, h1.put 7 _, own_far h2 (by omega) _, own_far h3 (by omega) _⟩
theorem Mb.setPad (h : Mb w g m) (x : Nat) : Mb (w.setCell ⟨g, 8, none⟩ (.int .u16 (x : Int))) g { m with pad := x } := by
  obtain ⟨a, b, c, d, h1, h2, h3⟩ := h.ex
  exact ⟨a, b, c, d, h1.put 8 _, own_far h2 (by omega) _, own_far h3 (by omega) _⟩
theorem Mb.setPeers (h : Mb w g m) (ps : List (Nat × Nat)) (ho : w.ownsRow (g + 1) 26 2 (.slice A n c) ps.length (two fPeer ps)) : Mb (w.setCell ⟨g, 9, none⟩ (.slice A n c)) g { m with peers := ps } := by
  obtain ⟨a, b, c', d, h1, h2, h3⟩ := h.ex
  have hn : n = ps.length := by
    obtain ⟨A2, c2, e⟩ := own_shape ho
    injection e
  subst hn
  exact ⟨A, c, c', d, h1.put 9 _, own_far ho (by omega) _, own_far h3 (by omega) _⟩
theorem Mb.setPairs (h : Mb w g m) (ps : List (ByteArray × ByteArray)) (ho : w.ownsRow (g + 1) 43 2 (.slice A n c) ps.length (two fPair ps)) : Mb (w.setCell ⟨g, 10, none⟩ (.slice A n c)) g { m with pairs := ps } := by
  obtain ⟨a, b, c', d, h1, h2, h3⟩ := h.ex
  have hn : n = ps.length := by
    obtain ⟨A2, c2, e⟩ := own_shape ho
    injection e
  subst hn
  exact ⟨a, b, A, c, h1.put 10 _, own_far h2 (by omega) _, own_far ho (by omega) _⟩

/-- a reader in block r, whose state R tells, beside a message in block g -/
structure Sg (R : World → List Nat → Int → Prop) (w0 : World) (r g : Nat) (m : Ms) (l : List Nat) (e : Int) (w : World) : Prop where
  rd : R w l e
  mb : Mb w g m
  but : But2 r g w0 w
  lt : r < g
  new : ∀ w w' l e, R w l e → Only g w w' → R w' l e
variable {R : World → List Nat → Int → Prop} {l l1 : List Nat} {e e1 : Int}
theorem Sg.read (h : Sg R w0 r g m l e w) (hr : R w1 l1 e1) (ho : Only r w w1) : Sg R w0 r g m l1 e1 w1 :=
  ⟨hr, h.mb.only ho h.lt, h.but.trans (ho.left g), h.lt, h.new⟩
theorem Sg.put (h : Sg R w0 r g m l e w) {m' : Ms} {i : Nat} {u : Value} (hm : Mb (w.setCell ⟨g, i, none⟩ u) g m') : Sg R w0 r g m' l e (w.setCell ⟨g, i, none⟩ u) :=
  ⟨h.new _ _ _ _ h.rd ((Only.refl g w).setCell i u), hm, h.but.trans (((Only.refl g w).setCell i u).right r), h.lt, h.new⟩
end
theorem results_cell_row2 {P : Program} {fn : Func} {p u : Tmp} {ty : TypeId} {x : Value} {tmps : Array Value} {w : World} {g : Nat} {t : TypeId} {cs : Array Value} {d : TypeDesc} (h : fn.results = #[.cell p ty, .tmp u])
    (hp : tmps.getD p undef = .pointer (some ⟨g, 0, none⟩)) (hx : tmps.getD u undef = x) (hg : w.heap[g]? = some (.cells cs t (0, 0)))
    (hu : P.underlying ty = some d) (hd : (match d with | .struct _ | .array _ _ => true | _ => false) = true) (hi : (P.info? ty).map (·.size) = some cs.size) :
    (results fn tmps).run P w = .ok (.tuple #[.agg cs, x]) w := by
  subst hx
  have hp' : tmps[p]?.getD undef = .pointer (some ⟨g, 0, none⟩) := by simpa using hp
  simp [results, h, hp', asAddr, run_loadVar_row w g t ty cs (0, 0) d hg hu hd hi]
theorem Tab.only {w w' : World} {g : Nat} (h : Tab w) (k : Only g w w') (hg : 0 < g) : Tab w' :=
  h.below (Only.below k (B := 0 + 1) (by omega) (by have := h.lt; omega)) (by omega)
/-- the message of a kind alone -/
theorem right_nine {m : Ms} : right m = 9 ↔ known m.kind = false := by
  constructor
  · intro h
    cases hk : known m.kind
    · rfl
    · unfold right at h
      rw [hk] at h
      revert h
      generalize same m (bare m) = a
      generalize badKey m = b
      generalize isLong m = c
      generalize isShort m = d
      revert a b c d
      decide
  · intro h; unfold right; rw [h]; rfl
end Go.Proofs.YtpfeccbnkgnioaaDoor
