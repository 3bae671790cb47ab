/- A message that is stored in a new variable. -/
import Derived.Test.YtpfeccbnkgnioaaDoorCopy8
namespace Go.Proofs.YtpfeccbnkgnioaaDoor
open Go.RowKit
set_option linter.unusedVariables false
set_option maxRecDepth 100000
open Gm

/-- a message that is stored in a new variable -/
theorem var_msg {w : World} {B : Nat} {m : Ms} {v : Value} (H : Mv w B m v) : ∃ g vp vq w0 w1, v = .agg #[.int .i64 m.kind, .int .u32 (m.rid : Int), .int .u8 (m.code : Int), .bool m.has, .int .u64 (m.id : Int), .string m.key, .string m.val, .int .u64 (m.pid : Int), .int .u16 (m.pad : Int), vp, vq] ∧ w.heap.size = g ∧ w.alloc (.cells #[.int .i64 0, .int .u32 0, .int .u8 0, .bool false, .int .u64 0, .string ⟨#[]⟩, .string ⟨#[]⟩, .int .u64 0, .int .u16 0, .slice none 0 0, .slice none 0 0] 30) = w0 ∧ Whole w0 g 30 #[.int .i64 0, .int .u32 0, .int .u8 0, .bool false, .int .u64 0, .string ⟨#[]⟩, .string ⟨#[]⟩, .int .u64 0, .int .u16 0, .slice none 0 0, .slice none 0 0] ∧ w0.setRow g #[.int .i64 m.kind, .int .u32 (m.rid : Int), .int .u8 (m.code : Int), .bool m.has, .int .u64 (m.id : Int), .string m.key, .string m.val, .int .u64 (m.pid : Int), .int .u16 (m.pad : Int), vp, vq] = w1 ∧ Box w1 g m vp vq ∧ Below g w w1 ∧ w1.heap.size = g + 1 ∧ vp.oneCell' = true ∧ vq.oneCell' = true := by
  obtain ⟨vp, vq, rfl, hp, hq⟩ := H.ex
  have h0 := Whole.made w 30 #[.int .i64 0, .int .u32 0, .int .u8 0, .bool false, .int .u64 0, .string ⟨#[]⟩, .string ⟨#[]⟩, .int .u64 0, .int .u16 0, .slice none 0 0, .slice none 0 0]
  have hb : Below w.heap.size w ((w.alloc (.cells #[.int .i64 0, .int .u32 0, .int .u8 0, .bool false, .int .u64 0, .string ⟨#[]⟩, .string ⟨#[]⟩, .int .u64 0, .int .u16 0, .slice none 0 0, .slice none 0 0] 30)).setRow w.heap.size #[.int .i64 m.kind, .int .u32 (m.rid : Int), .int .u8 (m.code : Int), .bool m.has, .int .u64 (m.id : Int), .string m.key, .string m.val, .int .u64 (m.pid : Int), .int .u16 (m.pad : Int), vp, vq]) := below_row ((Below.refl _ _).alloc (Nat.le_refl _) _) (Nat.le_refl _) _
  obtain ⟨_, _, rfl, _⟩ := hp.ex
  obtain ⟨_, _, rfl, _⟩ := hq.ex
  exact ⟨_, _, _, _, _, rfl, rfl, rfl, h0, rfl, ⟨h0.row _, hp.all.below hb, hq.all.below hb, H.ok⟩, hb, by rw [size_setRow]; simp, rfl, rfl⟩
end Go.Proofs.YtpfeccbnkgnioaaDoor
