/- The state of dict.treeOf while it sets key by key. -/
import Derived.Test.YtldjdoebappkoaaGreatDoorDl13
import Derived.Test.YtldjdoebappkoaaGreatDoorFork
namespace Go.Proofs.YtldjdoebappkoaaGreatDoor
open Go.RowKit
set_option linter.unusedVariables false
set_option maxRecDepth 100000
set_option linter.unusedSimpArgs false
open Gm

/-- the message in block b, the answer (zero) in block r, the tree T in block g; all that the tree leads to lies behind block r, and not in block g -/
structure Td (w0 : World) (b r g : Nat) (m : Ms) (vp vq : Value) (T : Tn) (vk vt : Value) (w : World) : Prop where
  box : Box w b m vp vq
  res : Whole w r 25 #[.int .i64 0, .int .i64 0, .string ⟨#[]⟩, .slice none 0 0, .slice none 0 0]
  tr : Whole w g 25 #[.int .i64 T.kind, .int .i64 T.n, .string T.s, vk, vt]
  tp : Tp w (fun x => r < x ∧ x ≠ g) T vk vt
  low : Below w0.heap.size w0 w
  lt : w0.heap.size ≤ b ∧ b < r ∧ r < g
section
variable {w0 : World} {b r g : Nat} {m : Ms} {vp vq : Value} {T T' : Tn} {vk vt vk' vt' : Value} {w w' : World}
theorem Td.behind (H : Td w0 b r g m vp vq T vk vt w) (hb : Below w.heap.size w w') : Td w0 b r g m vp vq T vk vt w' :=
  ⟨H.box.kept hb, H.res.below hb H.res.lt, H.tr.below hb H.tr.lt, H.tp.keep (fun x p q => ⟨p, hb.block x q⟩), H.low.trans (hb.mono H.low.size), H.lt⟩
theorem Td.put (H : Td w0 b r g m vp vq T vk vt w) (hx : Tp w (fun x => r < x ∧ x ≠ g) T' vk' vt') : Td w0 b r g m vp vq T' vk' vt' (w.setRow g #[.int .i64 T'.kind, .int .i64 T'.n, .string T'.s, vk', vt']) := by
  have hlt := H.lt
  exact ⟨H.box.below (below_row (Below.refl g w) (Nat.le_refl _) _) (by omega), H.res.rowOther (by omega) _, H.tr.row _, hx.keep (fun x p q => ⟨p, setRow_other w g x _ p.2⟩), below_row H.low (by omega) _, hlt⟩
theorem Td.shape (H : Tp w (fun x => r < x ∧ x ≠ g) T vk vt) : ∃ Ak ck At ct, vk = .slice Ak T.keys.length ck ∧ vt = .slice At T.kids.length ct := by
  cases H
  exact ⟨_, _, _, _, rfl, rfl⟩
theorem Td.cells (H : Td w0 b r g m vp vq T vk vt w) : w.cell? ⟨g, 0, none⟩ = some (.int .i64 T.kind) ∧ w.cell? ⟨g, 1, none⟩ = some (.int .i64 T.n) ∧ w.cell? ⟨g, 2, none⟩ = some (.string T.s) ∧ w.cell? ⟨g, 3, none⟩ = some vk ∧ w.cell? ⟨g, 4, none⟩ = some vt :=
  ⟨H.tr.at_ 0, H.tr.at_ 1, H.tr.at_ 2, H.tr.at_ 3, H.tr.at_ 4⟩
/-- a step: the tree T with x put at k if q -/
structure Nd (T T' : Tn) (q : Bool) (k : ByteArray) (x : Tn) : Prop where
  eq : Dm.put q k x T = T'
  few : T.Few
  fewx : x.Few
theorem Td.setif (H : Td w0 b r g m vp vq T vk vt w) {x : Tn} {xk xq : Value} {C : Nat} (hx : Tv w C x xk xq) {q : Bool} {k : ByteArray} (n : Nd T T' q k x) (hk : k.size ≤ 1000) :
    Calls Tryz.prog 39 #[.bool q, .agg #[.int .i64 T.kind, .int .i64 T.n, .string T.s, vk, vt], .string k, .agg #[.int .i64 x.kind, .int .i64 x.n, .string x.s, xk, xq]] w fun e w' =>
      ∃ Ak ck At ct, e = .returned (.agg #[.int .i64 T'.kind, .int .i64 T'.n, .string T'.s, .slice Ak T'.keys.length ck, .slice At T'.kids.length ct]) ∧ Td w0 b r g m vp vq T vk vt w' ∧ Tp w' (fun y => r < y ∧ y ≠ g) T' (.slice Ak T'.keys.length ck) (.slice At T'.kids.length ct) ∧ Below w.heap.size w w' := by
  have hlt := H.lt
  have hgl := H.tr.lt
  refine (setif13_at (q := q) n.few n.fewx H.tp (fun y hy => by omega) k (by unfold maxLen; omega) hx).mono ?_
  rintro e w' ⟨vk', vt', rfl, hp, hb⟩
  rw [n.eq] at hp ⊢
  obtain ⟨Ak, ck, At, ct, rfl, rfl⟩ := Td.shape hp
  exact ⟨Ak, ck, At, ct, rfl, H.behind hb, hp, hb⟩
theorem Td.leaf (H : Td w0 b r g m vp vq T vk vt w) {kd i : Int} {s : ByteArray} (hkd : -9223372036854775808 ≤ kd ∧ kd ≤ 9223372036854775807) (hi : -9223372036854775808 ≤ i ∧ i ≤ 9223372036854775807) (hs : s.size ≤ maxLen) {q : Bool} {k : ByteArray} (n : Nd T T' q k (.mk kd i s [] [])) (hk : k.size ≤ 1000) :
    Calls Tryz.prog 39 #[.bool q, .agg #[.int .i64 T.kind, .int .i64 T.n, .string T.s, vk, vt], .string k, .agg #[.int .i64 kd, .int .i64 i, .string s, .slice none 0 0, .slice none 0 0]] w fun e w' =>
      ∃ Ak ck At ct, e = .returned (.agg #[.int .i64 T'.kind, .int .i64 T'.n, .string T'.s, .slice Ak T'.keys.length ck, .slice At T'.kids.length ct]) ∧ Td w0 b r g m vp vq T vk vt w' ∧ Tp w' (fun y => r < y ∧ y ≠ g) T' (.slice Ak T'.keys.length ck) (.slice At T'.kids.length ct) ∧ Below w.heap.size w w' :=
  H.setif (x := .mk kd i s [] []) (tv_plain (B := 0) hkd hi hs) n hk
end
/-! each stage is few -/
theorem put_few13 {b : Bool} {k : ByteArray} {x t : Tn} (hf : t.fits = true) (h : ∀ u ∈ t.kids, u.Few) (hx : x.Few) : ∀ u ∈ (Dm.put b k x t).kids, u.Few := by
  unfold Dm.put
  split
  · by_cases hp : Tn.place t.keys k < t.keys.length
    · rw [Tn.set_found hf hp]
      intro u hu
      rcases List.mem_or_eq_of_mem_set (show u ∈ t.kids.set _ x from hu) with hu | rfl
      · exact h u hu
      · exact hx
    · rw [Tn.set_new hf hp]
      intro u hu
      rcases Tn.mem_put (show u ∈ Tn.put t.kids _ x from hu) with rfl | hu
      · exact hx
      · exact h u hu
  · exact h
structure Dx.Sf (t : Tn) (n : Nat) : Prop where
  du : Dx.Du t
  len : t.keys.length ≤ n
  kids : ∀ u ∈ t.kids, u.Few
theorem Dx.Sf.put {t : Tn} {n : Nat} (h : Dx.Sf t n) (b : Bool) (k : ByteArray) {x : Tn} (hx : x.Few) : Dx.Sf (Dm.put b k x t) (n + 1) :=
  ⟨h.du.put b k x, Dm.put_few h.du.fits h.len, put_few13 h.du.fits h.kids hx⟩
theorem Dx.Sf.few {t : Tn} {n : Nat} (h : Dx.Sf t n) (hn : n ≤ 100) : t.Few := .mk (by have := h.len; omega) (by have := h.len; have := (Tn.fits_eq h.du.fits).2; omega) h.kids
theorem Dx.Sf.base : Dx.Sf Dm.base 0 := ⟨Dx.Du.base, by decide, fun u hu => by cases hu⟩
theorem peers_few {l : List (Nat × Nat)} (h : l.length ≤ 1000000) : (Dm.list (l.map Dm.peerT)).Few := Tn.Few.list (by rw [List.length_map]; exact h) (fun u hu => by
  obtain ⟨p, _, rfl⟩ := List.mem_map.1 hu
  exact Tn.Few.leaf _ _ _)
theorem pairs_few {l : List (ByteArray × ByteArray)} (h : l.length ≤ 1000000) : (Dm.list (l.map Dm.pairT)).Few := Tn.Few.list (by rw [List.length_map]; exact h) (fun u hu => by
  obtain ⟨p, _, rfl⟩ := List.mem_map.1 hu
  exact pairT_few _)
section
variable (m : Ms)
theorem Dx.s1 : Dx.Sf (Dx.c1 m) 1 := Dx.Sf.base.put _ _ (Tn.Few.leaf _ _ _)
theorem Dx.s2 : Dx.Sf (Dx.c2 m) 2 := (Dx.s1 m).put _ _ (Tn.Few.leaf _ _ _)
theorem Dx.s3 : Dx.Sf (Dx.c3 m) 3 := (Dx.s2 m).put _ _ (Tn.Few.leaf _ _ _)
theorem Dx.s4 : Dx.Sf (Dx.c4 m) 4 := (Dx.s3 m).put _ _ (Tn.Few.leaf _ _ _)
theorem Dx.s5 : Dx.Sf (Dx.c5 m) 5 := (Dx.s4 m).put _ _ (Tn.Few.leaf _ _ _)
theorem Dx.s6 : Dx.Sf (Dx.c6 m) 6 := (Dx.s5 m).put _ _ (Tn.Few.leaf _ _ _)
theorem Dx.s7 : Dx.Sf (Dx.c7 m) 7 := (Dx.s6 m).put _ _ (Tn.Few.leaf _ _ _)
theorem Dx.s8 : Dx.Sf (Dx.c8 m) 8 := (Dx.s7 m).put _ _ (Tn.Few.leaf _ _ _)
theorem Dx.s9 (h : m.peers.length ≤ 1000000) : Dx.Sf (Dx.c9 m) 9 := (Dx.s8 m).put _ _ (peers_few h)
end
theorem nd1 (m : Ms) : Nd Dm.base (Dx.c1 m) true Dm.kQ (.mk 2 0 (at_ m.kind).name [] []) := ⟨rfl, Dx.Sf.base.few (by omega), Tn.Few.leaf _ _ _⟩
theorem nd2 (m : Ms) : Nd (Dx.c1 m) (Dx.c2 m) (!decide (m.code = 0)) Dm.kC (.mk 1 m.code ⟨#[]⟩ [] []) := ⟨rfl, (Dx.s1 m).few (by omega), Tn.Few.leaf _ _ _⟩
theorem nd3 (m : Ms) : Nd (Dx.c2 m) (Dx.c3 m) m.has Dm.kH (.mk 1 1 ⟨#[]⟩ [] []) := ⟨rfl, (Dx.s2 m).few (by omega), Tn.Few.leaf _ _ _⟩
theorem nd4 (m : Ms) : Nd (Dx.c3 m) (Dx.c4 m) (!decide (m.id = 0)) Dm.kI (.mk 2 0 (Dm.idS m.id) [] []) := ⟨rfl, (Dx.s3 m).few (by omega), Tn.Few.leaf _ _ _⟩
theorem nd5 (m : Ms) : Nd (Dx.c4 m) (Dx.c5 m) (!decide (m.key = ⟨#[]⟩)) Dm.kK (.mk 2 0 m.key [] []) := ⟨rfl, (Dx.s4 m).few (by omega), Tn.Few.leaf _ _ _⟩
theorem nd6 (m : Ms) : Nd (Dx.c5 m) (Dx.c6 m) (!decide (m.pid = 0) || !decide (m.pad = 0)) Dm.kO (.mk 2 0 (Dm.peerS (m.pid, m.pad)) [] []) := ⟨rfl, (Dx.s5 m).few (by omega), Tn.Few.leaf _ _ _⟩
theorem nd7 (m : Ms) : Nd (Dx.c6 m) (Dx.c7 m) (!decide (m.rid = 0)) Dm.kR (.mk 1 m.rid ⟨#[]⟩ [] []) := ⟨rfl, (Dx.s6 m).few (by omega), Tn.Few.leaf _ _ _⟩
theorem nd8 (m : Ms) : Nd (Dx.c7 m) (Dx.c8 m) (!decide (m.val = ⟨#[]⟩)) Dm.kV (.mk 2 0 m.val [] []) := ⟨rfl, (Dx.s7 m).few (by omega), Tn.Few.leaf _ _ _⟩
theorem nd9 (m : Ms) (h : m.peers.length ≤ 1000000) : Nd (Dx.c8 m) (Dx.c9 m) (!decide (m.peers.length = 0)) Dm.kP (Dm.list (m.peers.map Dm.peerT)) := ⟨rfl, (Dx.s8 m).few (by omega), peers_few h⟩
theorem nd10 (m : Ms) (h : m.peers.length ≤ 1000000) (h' : m.pairs.length ≤ 1000000) : Nd (Dx.c9 m) (Dx.c10 m) (!decide (m.pairs.length = 0)) Dm.kT (Dm.list (m.pairs.map Dm.pairT)) := ⟨rfl, (Dx.s9 m h).few (by omega), pairs_few h'⟩
end Go.Proofs.YtldjdoebappkoaaGreatDoor
