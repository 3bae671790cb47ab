/- Words of layer 13's laws. -/
import Derived.Test.YtldjdoebappkoaaGreatDoorDo13
import Derived.Test.YtldjdoebappkoaaGreatDoorPF
import Derived.Test.YtldjdoebappkoaaGreatDoorPA
import Derived.Test.YtldjdoebappkoaaGreatDoorPJ
namespace Go.Proofs.YtldjdoebappkoaaGreatDoor
open Go.RowKit
set_option linter.unusedVariables false
open Gm
theorem var13 {w : World} {B : Nat} {t : Tn} {vk vq : Value} (H : Tv w B t vk vq) : ∃ Ak ck Aq cq g u0 u1, vk = .slice Ak t.keys.length ck ∧ vq = .slice Aq t.kids.length cq ∧ w.heap.size = g ∧
    w.alloc (.cells #[.int .i64 0, .int .i64 0, .string ⟨#[]⟩, .slice none 0 0, .slice none 0 0] 25) = u0 ∧ Whole u0 g 25 #[.int .i64 0, .int .i64 0, .string ⟨#[]⟩, .slice none 0 0, .slice none 0 0] ∧
    u0.setRow g #[.int .i64 t.kind, .int .i64 t.n, .string t.s, .slice Ak t.keys.length ck, .slice Aq t.kids.length cq] = u1 ∧ Tb u1 g t (.slice Ak t.keys.length ck) (.slice Aq t.kids.length cq) ∧ Below w.heap.size w u1 ∧ g < u1.heap.size := by
  obtain ⟨Ak, ck, rfl, _⟩ := H.keys
  obtain ⟨Aq, cq, rfl, _⟩ := H.kids
  obtain ⟨g, u0, hg, hal, hW, hb, hs⟩ := var_tree w
  have hB : Below w.heap.size w (u0.setRow g #[.int .i64 t.kind, .int .i64 t.n, .string t.s, .slice Ak t.keys.length ck, .slice Aq t.kids.length cq]) := below_row (by rw [hg]; exact hb) (by omega) _
  exact ⟨Ak, ck, Aq, cq, g, u0, _, rfl, rfl, hg, hal, hW, rfl, ⟨hW.row _, by have h := H.all.keep hB; rw [hg] at h; exact h⟩, hB, by rw [size_setRow]; omega⟩
/-- a message stored in a new variable -/
theorem varm13 {w : World} {B : Nat} {m : Ms} {v : Value} (H : Mv w B m v) : ∃ Ap cp Aq cq g w0 w1, v = .agg #[.int .i64 m.kind, .int .u32 (m.rid : Int), .int .u8 (m.code : Int), .bool m.has, .int .u64 (m.id : Int), .string m.key, .string m.val, .int .u64 (m.pid : Int), .int .u16 (m.pad : Int), .slice Ap m.peers.length cp, .slice Aq m.pairs.length cq] ∧ w.heap.size = g ∧
    w.alloc (.cells #[.int .i64 0, .int .u32 0, .int .u8 0, .bool false, .int .u64 0, .string ⟨#[]⟩, .string ⟨#[]⟩, .int .u64 0, .int .u16 0, .slice none 0 0, .slice none 0 0] 36) = w0 ∧ Whole w0 g 36 #[.int .i64 0, .int .u32 0, .int .u8 0, .bool false, .int .u64 0, .string ⟨#[]⟩, .string ⟨#[]⟩, .int .u64 0, .int .u16 0, .slice none 0 0, .slice none 0 0] ∧
    w0.setRow g #[.int .i64 m.kind, .int .u32 (m.rid : Int), .int .u8 (m.code : Int), .bool m.has, .int .u64 (m.id : Int), .string m.key, .string m.val, .int .u64 (m.pid : Int), .int .u16 (m.pad : Int), .slice Ap m.peers.length cp, .slice Aq m.pairs.length cq] = w1 ∧ Box w1 g m (.slice Ap m.peers.length cp) (.slice Aq m.pairs.length cq) ∧ Below w.heap.size w w1 := by
  obtain ⟨vp, vq, rfl, hp, hq⟩ := H.ex
  obtain ⟨Ap, cp, rfl, _⟩ := hp.ex
  obtain ⟨Aq, cq, rfl, _⟩ := hq.ex
  obtain ⟨g, w0, hg, hal, hs, hM, hb⟩ := msg_box w
  have hB : Below w.heap.size w (w0.setRow g #[.int .i64 m.kind, .int .u32 (m.rid : Int), .int .u8 (m.code : Int), .bool m.has, .int .u64 (m.id : Int), .string m.key, .string m.val, .int .u64 (m.pid : Int), .int .u16 (m.pad : Int), .slice Ap m.peers.length cp, .slice Aq m.pairs.length cq]) := below_row (by rw [hg]; exact hb) (by omega) _
  exact ⟨Ap, cp, Aq, cq, g, w0, _, rfl, hg, hal, hM, rfl, ⟨hM.row _, by have h := hp.all.below hB; rw [hg] at h; exact h, by have h := hq.all.below hB; rw [hg] at h; exact h, H.ok⟩, hB⟩
theorem Dm.field_lim {t : Tn} (h : t.Lim) (k : ByteArray) : (Dm.field t k).Lim := by
  have z : Tn.Lim Dm.none_ := .mk (Nat.zero_le _) (Nat.zero_le _) (Nat.zero_le _) (fun k hk => by cases hk) (fun u hu => by cases hu)
  unfold Dm.field Tn.get
  split
  · cases hg : t.kids[Tn.place t.keys k]? with
    | none => exact z
    | some u => cases h with | mk hs hk hq hx hl => exact hl u (List.mem_of_getElem? hg)
  · exact z
theorem Tn.Lim.kids {t : Tn} (h : t.Lim) : t.kids.length ≤ 20 := by cases h; assumption
theorem put_fw13 {b : Bool} {k : ByteArray} {x t : Tn} (hf : t.fits = true) (h : ∀ u ∈ t.kids, u.Fw) (hx : x.Fw) : ∀ u ∈ (Dm.put b k x t).kids, u.Fw := by
  unfold Dm.put
  split
  · by_cases hp : Tn.place t.keys k < t.keys.length
    · rw [Tn.set_found hf hp]
      intro u hu
      rcases List.mem_or_eq_of_mem_set (show u ∈ t.kids.set _ x from hu) with hu | rfl
      · exact h u hu
      · exact hx
    · rw [Tn.set_new hf hp]
      intro u hu
      rcases Tn.mem_put (show u ∈ Tn.put t.kids _ x from hu) with rfl | hu
      · exact hx
      · exact h u hu
  · exact h
theorem Tn.Lim.fw {t : Tn} (h : t.Lim) : t.Fw := by
  induction h with
  | mk hs hk hq hx hl ih => exact .mk (by omega) (by omega) (by omega) ih
theorem leaf_fw (k n : Int) {s : ByteArray} (h : s.size ≤ 1000000) : (Tn.mk k n s [] []).Fw := .mk h (by simp [Tn.keys]) (by simp [Tn.kids]) (fun u hu => by cases hu)
theorem emp_fw13 : (⟨#[]⟩ : ByteArray).size ≤ 1000000 := by simp [ByteArray.size]
theorem Dm.tree_fw {m : Ms} (hk : m.key.size ≤ 1000000) (hv : m.val.size ≤ 1000000) (hp : m.peers.length ≤ 100000) (hq : m.pairs.length ≤ 100000) (hpp : ∀ p ∈ m.pairs, p.1.size ≤ 1000000 ∧ p.2.size ≤ 1000000) : (Dm.tree m).Fw := by
  have zQ : (at_ m.kind).name.size ≤ 1000000 := by have := (ent_bounds (bif known m.kind then m.kind.toNat else 0)).2.2.2.2; unfold at_; omega
  have zI : (Dm.idS m.id).size ≤ 1000000 := by unfold Dm.idS; rw [strOf_size, Bm.fix_length]; omega
  have zO : ∀ p, (Dm.peerS p).size ≤ 1000000 := fun p => by unfold Dm.peerS; rw [strOf_size, List.length_append, Bm.fix_length, Bm.fix_length]; omega
  have l1 := put_fw13 (b := !decide (m.code = 0)) (k := Dm.kC) Dm.fits_base (fun u hu => by cases hu) (leaf_fw 1 m.code emp_fw13)
  have l2 := put_fw13 (b := m.has) (k := Dm.kH) (Dm.f1 m) l1 (leaf_fw 1 1 emp_fw13)
  have l3 := put_fw13 (b := !decide (m.id = 0)) (k := Dm.kI) (Dm.f2 m) l2 (leaf_fw 2 0 zI)
  have l4 := put_fw13 (b := !decide (m.key = ⟨#[]⟩)) (k := Dm.kK) (Dm.f3 m) l3 (leaf_fw 2 0 hk)
  have l5 := put_fw13 (b := !decide (m.pid = 0) || !decide (m.pad = 0)) (k := Dm.kO) (Dm.f4 m) l4 (leaf_fw 2 0 (zO (m.pid, m.pad)))
  have l6 := put_fw13 (b := !decide (m.peers.length = 0)) (k := Dm.kP) (Dm.f5 m) l5 (show (Dm.list (m.peers.map Dm.peerT)).Fw from .mk emp_fw13 (by simp [Dm.list, Tn.keys]) (by show (m.peers.map Dm.peerT).length ≤ _; rw [List.length_map]; exact hp) (fun u hu => by
    obtain ⟨p, _, rfl⟩ := List.mem_map.1 (show u ∈ m.peers.map Dm.peerT from hu)
    exact leaf_fw _ _ (zO p)))
  have l7 := put_fw13 (b := true) (k := Dm.kQ) (Dm.f6 m) l6 (leaf_fw 2 0 zQ)
  have l8 := put_fw13 (b := !decide (m.rid = 0)) (k := Dm.kR) (Dm.f7 m) l7 (leaf_fw 1 m.rid emp_fw13)
  have l9 := put_fw13 (b := !decide (m.pairs.length = 0)) (k := Dm.kT) (Dm.f8 m) l8 (show (Dm.list (m.pairs.map Dm.pairT)).Fw from .mk emp_fw13 (by simp [Dm.list, Tn.keys]) (by show (m.pairs.map Dm.pairT).length ≤ _; rw [List.length_map]; exact hq) (fun u hu => by
    obtain ⟨p, hpm, rfl⟩ := List.mem_map.1 (show u ∈ m.pairs.map Dm.pairT from hu)
    exact .mk emp_fw13 (by simp [Dm.pairT, Dm.list, Tn.keys]) (by simp [Dm.pairT, Dm.list, Tn.kids]) (fun y hy => by
      rcases List.mem_cons.1 (show y ∈ [Dm.text p.1, Dm.text p.2] from hy) with rfl | hy
      · exact leaf_fw _ _ (hpp p hpm).1
      · rcases List.mem_cons.1 hy with rfl | hy
        · exact leaf_fw _ _ (hpp p hpm).2
        · cases hy)))
  have l10 := put_fw13 (b := !decide (m.val = ⟨#[]⟩)) (k := Dm.kV) (Dm.f9 m) l9 (leaf_fw 2 0 hv)
  have hk : (Dm.tree m).keys.length ≤ 10 := Dm.put_few (Dm.f9 m) (Dm.l9 m)
  have hs : (Dm.tree m).s = ⟨#[]⟩ := (Dx.ut m).s
  exact .mk (by rw [hs]; exact emp_fw13) (by omega) (by have := Dm.kids_few (Dm.tree_fits m) hk; omega) l10
theorem Dm.to_fw {m : Ms} (h : m.key.size ≤ 300 ∧ m.val.size ≤ 700 ∧ m.peers.length ≤ 40 ∧ m.pairs.length ≤ 20 ∧ ∀ p ∈ m.pairs, p.1.size ≤ 300 ∧ p.2.size ≤ 700) : (Dm.to m).1.Fw := by
  unfold Dm.to
  split
  · exact Dm.tree_fw (by omega) (by omega) (by omega) (by omega) (fun p hp => by have := h.2.2.2.2 p hp; omega)
  · exact leaf_fw _ _ emp_fw13
/-- the message that From tells has few peers and pairs -/
theorem Dm.told_few {t : Tn} (h : t.Fw) : (Dm.told t).1.peers.length ≤ 1000000 ∧ (Dm.told t).1.pairs.length ≤ 1000000 := by
  have kid : ∀ k, (Dm.field t k).kids.length ≤ 1000000 := fun k => by have := (h.field k).kids; omega
  have z : Dm.zero.peers.length ≤ 1000000 ∧ Dm.zero.pairs.length ≤ 1000000 := by simp [Dm.zero]
  have r : (Dm.read t).peers.length ≤ 1000000 ∧ (Dm.read t).pairs.length ≤ 1000000 := ⟨by show ((Dm.field t Dm.kP).kids.map _).length ≤ _; rw [List.length_map]; exact kid _, by show ((Dm.field t Dm.kT).kids.map _).length ≤ _; rw [List.length_map]; exact kid _⟩
  unfold Dm.told
  split
  · exact z
  · split
    · exact z
    · split
      · exact z
      · split
        · exact r
        · exact z
theorem msame_self (m : Ms) : same m m = true := same_iff.2 rfl
theorem Dm.to_bad13 {m : Ms} (h : ¬ right m = 0) : Dm.to m = (Dm.none_, right m) := by unfold Dm.to; rw [if_neg h]
theorem Dm.to_good13 {m : Ms} (h : right m = 0) : Dm.to m = (Dm.tree m, 0) := by unfold Dm.to; rw [if_pos h]
end Go.Proofs.YtldjdoebappkoaaGreatDoor
