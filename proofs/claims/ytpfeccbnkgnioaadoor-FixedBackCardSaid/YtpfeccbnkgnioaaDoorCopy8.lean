/- Contracts of slices.Clone at peers and pairs, and of msg.Copy. -/
import Derived.Test.YtpfeccbnkgnioaaDoorTab
import Derived.Lib.SliceRun
namespace Go.Proofs.YtpfeccbnkgnioaaDoor
open Go.RowKit
set_option linter.unusedVariables false
set_option maxRecDepth 100000
open Gm

theorem own2_from {w w' : World} {base n sz : Nat} {t : TypeId} {v : Value} {xs : List Value} (h : w.ownsRow base t sz v n xs) (hk : ∀ i, base ≤ i → i < w.heap.size → w'.heap[i]? = w.heap[i]?) : w'.ownsRow base t sz v n xs := by
  obtain ⟨h1, h2⟩ := h
  refine ⟨h1, ?_⟩
  rcases h2 with h2 | ⟨g, cap, cur, hv, hg, hh, r⟩
  · exact .inl h2
  · exact .inr ⟨g, cap, cur, hv, hg, by rw [hk g hg (Array.getElem?_eq_some_iff.1 hh).1]; exact hh, r⟩

/-- a message whose slices are the call's own, from base on -/
structure Mo (w : World) (base : Nat) (m : Ms) (v : Value) : Prop where
  ex : ∃ vp vq, v = .agg #[.int .i64 m.kind, .int .u32 (m.rid : Int), .int .u8 (m.code : Int), .bool m.has, .int .u64 (m.id : Int), .string m.key, .string m.val, .int .u64 (m.pid : Int), .int .u16 (m.pad : Int), vp, vq] ∧ w.ownsRow base 26 2 vp m.peers.length (two fPeer m.peers) ∧ w.ownsRow base 43 2 vq m.pairs.length (two fPair m.pairs)
  ok : Ok m
theorem Mo.mv {w : World} {base : Nat} {m : Ms} {v : Value} (h : Mo w base m v) : Mv w w.heap.size m v := by
  obtain ⟨⟨vp, vq, e, hp, hq⟩, ok⟩ := h
  exact ⟨⟨vp, vq, e, Sl.of_own hp, Sl.of_own hq⟩, ok⟩
/-- a new variable for a message -/
theorem msg_box (w : World) : ∃ b w0, w.heap.size = b ∧ w.alloc (.cells #[.int .i64 0, .int .u32 0, .int .u8 0, .bool false, .int .u64 0, .string ⟨#[]⟩, .string ⟨#[]⟩, .int .u64 0, .int .u16 0, .slice none 0 0, .slice none 0 0] 30) = w0 ∧ w0.heap.size = b + 1 ∧
    Whole w0 b 30 #[.int .i64 0, .int .u32 0, .int .u8 0, .bool false, .int .u64 0, .string ⟨#[]⟩, .string ⟨#[]⟩, .int .u64 0, .int .u16 0, .slice none 0 0, .slice none 0 0] ∧ Below b w w0 :=
  ⟨_, _, rfl, rfl, by simp, Whole.made _ _ _, (Below.refl _ _).alloc (Nat.le_refl _) _⟩

end Go.Proofs.YtpfeccbnkgnioaaDoor
