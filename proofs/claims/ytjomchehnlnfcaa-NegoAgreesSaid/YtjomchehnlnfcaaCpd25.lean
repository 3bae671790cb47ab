/- Contract of nego.copied: a talk with messages of its own. -/
import Derived.Test.YtjomchehnlnfcaaClb
import Derived.Test.YtjomchehnlnfcaaRng25
import Derived.Test.YtjomchehnlnfcaaLast
import Derived.Laws.OwnMore
namespace Go.Proofs.Ytjomchehnlnfcaa
open Go.RowKit
open Gm
set_option linter.unusedVariables false
set_option maxRecDepth 100000
set_option linter.unusedSimpArgs false

/-- messages whose slices are no longer than the form's reach -/
def Sz (ms : List Ms) : Prop := ms.length ≤ 1000000 ∧ ∀ m ∈ ms, m.peers.length ≤ 8796093022208 ∧ m.pairs.length ≤ 4398046511104
theorem Sz.nil : Sz [] := ⟨by simp, fun m hm => by cases hm⟩
/-- a message of a copy that is under way: its slices are the caller's, below B, or the call's own, from lo on -/
structure Cpm (w : World) (B lo : Nat) (x : Ms × Value × Value) : Prop where
  peers : Sl fPeer w B x.2.1 x.1.peers ∨ w.ownsRow lo 62 2 x.2.1 x.1.peers.length (two fPeer x.1.peers)
  pairs : Sl fPair w B x.2.2 x.1.pairs ∨ w.ownsRow lo 71 2 x.2.2 x.1.pairs.length (two fPair x.1.pairs)
  ok : Ok x.1
theorem own2_keep {w w' : World} {base n sz : Nat} {t : TypeId} {v : Value} {xs : List Value} (h : w.ownsRow base t sz v n xs) (hk : ∀ i, base ≤ i → i < w.heap.size → w'.heap[i]? = w.heap[i]?) : w'.ownsRow base t sz v n xs := by
  obtain ⟨h1, h2⟩ := h
  refine ⟨h1, ?_⟩
  rcases h2 with h2 | ⟨g, cap, cur, hv, hg, hh, r⟩
  · exact .inl h2
  · exact .inr ⟨g, cap, cur, hv, hg, by rw [hk g hg (Array.getElem?_eq_some_iff.1 hh).1]; exact hh, r⟩
/-- a message whose slices are the call's own, from lo on -/
structure Cpo (w : World) (lo : Nat) (x : Ms × Value × Value) : Prop where
  peers : w.ownsRow lo 62 2 x.2.1 x.1.peers.length (two fPeer x.1.peers)
  pairs : w.ownsRow lo 71 2 x.2.2 x.1.pairs.length (two fPair x.1.pairs)
  ok : Ok x.1
section
variable {w w' : World} {B lo : Nat} {x : Ms × Value × Value}
theorem Cpo.keep (h : Cpo w lo x) (hk : ∀ i, lo ≤ i → i < w.heap.size → w'.heap[i]? = w.heap[i]?) : Cpo w' lo x := ⟨own2_keep h.peers hk, own2_keep h.pairs hk, h.ok⟩
theorem Cpo.later (h : Cpo w lo x) (hb : Below w.heap.size w w') : Cpo w' lo x := h.keep (fun i _ hi => hb.block i hi)
theorem Cpo.set (h : Cpo w lo x) {g : Nat} (h2 : g < lo) (i : Nat) (u : Value) : Cpo (w.setCell ⟨g, i, none⟩ u) lo x :=
  h.keep (fun k hk _ => Below.heap_setCell _ _ _ _ (by show k ≠ g; omega))
theorem Cpo.low {lo' : Nat} (h : Cpo w lo x) (hl : lo' ≤ lo) : Cpo w lo' x := ⟨own2_lower h.peers hl, own2_lower h.pairs hl, h.ok⟩
theorem Cpo.cpm (h : Cpo w lo x) : Cpm w B lo x := ⟨.inr h.peers, .inr h.pairs, h.ok⟩
theorem Cpm.keep (h : Cpm w B lo x) (hb : Below B w w') (hk : ∀ i, lo ≤ i → i < w.heap.size → w'.heap[i]? = w.heap[i]?) : Cpm w' B lo x :=
  ⟨h.peers.imp (fun k => k.below hb) (fun k => own2_keep k hk), h.pairs.imp (fun k => k.below hb) (fun k => own2_keep k hk), h.ok⟩
theorem Cpm.later (h : Cpm w B lo x) (hb : Below w.heap.size w w') (hB : B ≤ w.heap.size) : Cpm w' B lo x := h.keep (hb.mono hB) (fun i _ hi => hb.block i hi)
theorem Cpm.set (h : Cpm w B lo x) {g : Nat} (h1 : B ≤ g) (h2 : g < lo) (i : Nat) (u : Value) : Cpm (w.setCell ⟨g, i, none⟩ u) B lo x :=
  h.keep ((Below.refl _ _).setCell (p := ⟨g, i, none⟩) h1 u) (fun k hk _ => Below.heap_setCell _ _ _ _ (by show k ≠ g; omega))
theorem Cpm.sl (h : Cpm w B lo x) : Sl fPeer w w.heap.size x.2.1 x.1.peers ∧ Sl fPair w w.heap.size x.2.2 x.1.pairs :=
  ⟨h.peers.elim (fun k => k.all) Sl.of_own, h.pairs.elim (fun k => k.all) Sl.of_own⟩
/-- the list's messages, with their slices' values -/
theorem Ml.opened {v : Value} {ms : List Ms} (h : Ml w B v ms) : ∃ L : List (Ms × Value × Value), L.map (fun x => x.1) = ms ∧ Cl fM 11 w B v L ∧ ∀ x ∈ L, Sl fPeer w B x.2.1 x.1.peers ∧ Sl fPair w B x.2.2 x.1.pairs ∧ Ok x.1 := by
  obtain ⟨A, c, e, h1, h2, h3, h4⟩ := h
  have each : ∀ i, i < ms.length → ∃ u : Ms × Value × Value, (∃ hi : i < ms.length, u.1 = ms[i]) ∧ (∃ b off, A = some ⟨b, off, none⟩ ∧ b < B ∧ ∀ k, k < 11 → w.cell? ⟨b, off + i * 11 + k, none⟩ = (fM u)[k]?) ∧ Sl fPeer w B u.2.1 u.1.peers ∧ Sl fPair w B u.2.2 u.1.pairs ∧ Ok u.1 := fun i hi => by
    obtain ⟨b, off, vp, vq, e, hlt, hc, hp, hq, hok⟩ := h4 i hi
    exact ⟨(ms[i], vp, vq), ⟨hi, rfl⟩, ⟨b, off, e, hlt, hc⟩, hp, hq, hok⟩
  haveI : Inhabited (Ms × Value × Value) := ⟨(⟨0, 0, 0, false, 0, ⟨#[]⟩, ⟨#[]⟩, 0, 0, [], []⟩, .bool false, .bool false)⟩
  obtain ⟨q, hq⟩ := Go.Deep.choose_lt each
  refine ⟨(List.range ms.length).map q, ?_, ⟨A, c, by simpa using e, by simpa using h1, h2, h3, fun i hi => ?_⟩, fun x hx => ?_⟩
  · refine List.ext_getElem (by simp) fun i h1 h2 => ?_
    obtain ⟨_, e⟩ := (hq i h2).1
    simpa using e
  · have hi' : i < ms.length := by simpa using hi
    obtain ⟨b, off, e, hlt, hc⟩ := (hq i hi').2.1
    exact ⟨b, off, e, hlt, fun j hj => by simpa using hc j hj⟩
  · obtain ⟨i, hi, rfl⟩ := List.mem_map.1 hx
    exact (hq i (List.mem_range.1 hi)).2.2
theorem Ml.shut {base : Nat} {v : Value} {L : List (Ms × Value × Value)} {ms : List Ms} {n : Nat} (hL : L.map (fun x => x.1) = ms) (hn : ms.length = n) (h : w.ownsRow base 66 11 v n (rowsOf fM L)) (hx : ∀ x ∈ L, Cpm w B lo x) : Ml w w.heap.size v ms := by
  subst hL hn
  rw [List.length_map] at h
  obtain ⟨A, c, e, h1, h2, h3, h4⟩ := Cl.of_own fM_len h
  refine ⟨A, c, by simpa using e, by simpa using h1, h2, h3, fun i hi => ?_⟩
  have hi' : i < L.length := by simpa using hi
  obtain ⟨b, off, e, hlt, hc⟩ := h4 i hi'
  have hm := hx _ (List.getElem_mem hi')
  rw [List.getElem_map]
  exact ⟨b, off, _, _, e, hlt, hc, hm.sl.1, hm.sl.2, hm.ok⟩
end
theorem sl_one {α : Type} {f : α → Value × Value} {w : World} {B : Nat} {v : Value} {l : List α} (h : Sl f w B v l) : v.oneCell' = true := by
  obtain ⟨A, c, rfl, _⟩ := h.ex
  rfl
theorem Cpm.one {w : World} {B lo : Nat} {x : Ms × Value × Value} (h : Cpm w B lo x) : x.2.1.oneCell' = true ∧ x.2.2.oneCell' = true := ⟨sl_one h.sl.1, sl_one h.sl.2⟩
theorem Cpm.shape {w : World} {B lo : Nat} {m : Ms} {vp vq : Value} (h : Cpm w B lo (m, vp, vq)) : ∃ A1 n1 c1 A2 n2 c2, vp = .slice A1 n1 c1 ∧ vq = .slice A2 n2 c2 := by
  obtain ⟨A1, c1, e1, _⟩ := h.sl.1.ex
  obtain ⟨A2, c2, e2, _⟩ := h.sl.2.ex
  exact ⟨A1, _, c1, A2, _, c2, e1, e2⟩
/-- a cell of an element is set -/
theorem rowsOf_set {α : Type} {f : α → List Value} {k : Nat} (hf : ∀ x, (f x).length = k) : ∀ (l : List α) (i : Nat) (hi : i < l.length) (j : Nat) (hj : j < k) (u : Value) (y : α), f y = (f l[i]).set j u → (rowsOf f l).set (i * k + j) u = rowsOf f (l.set i y)
  | x :: l, 0, _, j, hj, u, y, hy => by
    rw [Nat.zero_mul, Nat.zero_add, rowsOf_cons, List.set_append_left _ _ (by rw [hf]; exact hj), List.set_cons_zero, rowsOf_cons, hy]
    rfl
  | x :: l, i + 1, hi, j, hj, u, y, hy => by
    rw [rowsOf_cons, List.set_append_right _ _ (by rw [hf, Nat.add_mul]; omega), hf, List.set_cons_succ, rowsOf_cons, show (i + 1) * k + j - k = i * k + j by rw [Nat.add_mul]; omega, rowsOf_set hf l i (by simpa using hi) j hj u y (by simpa using hy)]
/-- a slice of messages that is the call's own, with all that it leads to, from base on -/
def MlO (w : World) (base : Nat) (v : Value) (ms : List Ms) : Prop := ∃ M : List (Ms × Value × Value), M.map (fun x => x.1) = ms ∧ w.ownsRow base 66 11 v ms.length (rowsOf fM M) ∧ ∀ x ∈ M, Cpo w base x
theorem MlO.ml {w : World} {base : Nat} {v : Value} {ms : List Ms} (h : MlO w base v ms) : Ml w w.heap.size v ms := by
  obtain ⟨M, h1, h2, h3⟩ := h
  exact Ml.shut (lo := base) h1 rfl h2 (fun x hx => (h3 x hx).cpm (B := 0))
theorem MlO.keep {w w' : World} {base : Nat} {v : Value} {ms : List Ms} (h : MlO w base v ms) (hk : ∀ i, base ≤ i → i < w.heap.size → w'.heap[i]? = w.heap[i]?) : MlO w' base v ms := by
  obtain ⟨M, h1, h2, h3⟩ := h
  exact ⟨M, h1, own2_keep h2 hk, fun x hx => (h3 x hx).keep hk⟩
theorem MlO.shape {w : World} {base : Nat} {v : Value} {ms : List Ms} (h : MlO w base v ms) : ∃ A c, v = .slice A ms.length c := by
  obtain ⟨M, h1, h2, h3⟩ := h
  exact own_shape h2
/-- the state of the copy -/
structure Cpy25 (w0 : World) (g r lo : Nat) (cs : Value → Array Value) (ms : List Ms) (n : Nat) (v : Value) (i : Nat) (w : World) : Prop where
  list : ∃ L : List (Ms × Value × Value), L.map (fun x => x.1) = ms ∧ w.ownsRow (g + 2) 66 11 v n (rowsOf fM L) ∧ (∀ x ∈ L, Cpm w g lo x) ∧ ∀ j (h : j < L.length), j < i → Cpo w lo L[j]
  below : Below w0.heap.size w0 w
  whole : Whole w g 26 (cs v)
  res : Whole w r 26 #[.int .u16 0, .int .i64 0, .int .u16 0, .int .i64 0, .int .i64 0, .int .u32 0, .int .u32 0, .slice none 0 0]
  lo : lo ≤ w.heap.size
set_option maxHeartbeats 2000000 in
theorem ccopied25_any {w : World} {xa xt xe xn : Nat} {xs xv xi : Int} {A : Option Addr} {n c : Nat} {ms : List Ms} (H : Ml w w.heap.size (.slice A n c) ms) (hz : Sz ms) :
    Calls Try.prog 21 #[.agg #[.int .u16 (xa : Int), .int .i64 xs, .int .u16 (xt : Int), .int .i64 xv, .int .i64 xi, .int .u32 (xe : Int), .int .u32 (xn : Int), .slice A n c]] w fun e w' => ∃ A' c', e = .returned (.agg #[.int .u16 (xa : Int), .int .i64 xs, .int .u16 (xt : Int), .int .i64 xv, .int .i64 xi, .int .u32 (xe : Int), .int .u32 (xn : Int), .slice A' n c']) ∧ MlO w' w.heap.size (.slice A' n c') ms ∧ Below w.heap.size w w' := by
  obtain ⟨L, hL, hcl, hcp⟩ := H.opened
  have hnn : ms.length = n := by
    obtain ⟨_, _, e, _⟩ := H
    cases e; rfl
  have hLn : L.length = n := by rw [← hnn, ← hL, List.length_map]
  obtain ⟨g, w1, hg, hal, hsz, hx, hb1⟩ := boxedT25 w #[.int .u16 (xa : Int), .int .i64 xs, .int .u16 (xt : Int), .int .i64 xv, .int .i64 xi, .int .u32 (xe : Int), .int .u32 (xn : Int), .slice A n c]
  obtain ⟨r, w2, hr, hal2, hsz2, hy, hb2⟩ := boxedT25 w1 #[.int .u16 0, .int .i64 0, .int .u16 0, .int .i64 0, .int .i64 0, .int .u32 0, .int .u32 0, .slice none 0 0]
  have hb12 := hb1.trans (hb2.mono hb1.size)
  have HB2 : Hid (Below w.heap.size w w2) := Lib.hid hb12
  have hx2 : Whole w2 g 26 #[.int .u16 (xa : Int), .int .i64 xs, .int .u16 (xt : Int), .int .i64 xv, .int .i64 xi, .int .u32 (xe : Int), .int .u32 (xn : Int), .slice A n c] := hx.below hb2 (by omega)
  have HX := Lib.hid hx2
  have HY := Lib.hid hy
  have HG : Hid (w.heap.size = g ∧ r = g + 1 ∧ w2.heap.size = g + 2) := Lib.hid ⟨by omega, by omega, by omega⟩
  have HC := Lib.hid (clonemsgsB_any (w := w2) (B := w.heap.size) (l := L) (v := .slice A n c) (hcl.below hb12) (fun x hx => ⟨sl_one (hcp x hx).1, sl_one (hcp x hx).2.1⟩) (by rw [hLn, ← hnn]; exact hz.1))
  rw [hLn] at HC
  have HP : Hid (∀ lo, ∀ x ∈ L, Cpm w2 g lo x) := Lib.hid (fun lo x hx => by
    obtain ⟨p, q, o⟩ := hcp x hx
    rw [← hg]
    exact ⟨.inl (p.below hb12), .inl (q.below hb12), o⟩)
  have HZ := Lib.hid hz
  have HL := Lib.hid hL
  have HN := Lib.hid hnn
  obtain ⟨c0, c1, c2, c3, c4, c5, c6, c7⟩ := cellsT hx2
  have f7 := hx2.free 7
  clear hx hb1 hsz hx2 hy hsz2 hb2 hb12 H hz hL hnn hLn hcl hcp
  go_enter Try.func21, Try.ntmps21
  go_wp2_with fail
  refine (HC.out).mono ?_
  rintro e w3 ⟨v', rfl, ho, hb3⟩
  obtain ⟨A', c', rfl⟩ := own_shape ho
  have hlt := ho.lt
  have HLo : Hid (∀ k, (Value.slice A' n c').ownBlock = some k → g + 2 ≤ k ∧ k < w3.heap.size) := Lib.hid (fun k hk => by have := hlt k hk; have := HG.out; omega)
  have hx3 := HX.out.below hb3 (by have := HG.out; omega)
  have hy3 := HY.out.below hb3 (by have := HG.out; omega)
  have HK7 : w3.cell? ⟨g, 7, none⟩ = some (.slice A n c) := hx3.at_ 7
  have HF7 : w3.frozen? ⟨g, 7, none⟩ = false := hx3.free 7
  obtain ⟨w4, hw4⟩ : ∃ W, w3.setCell ⟨g, 7, none⟩ (.slice A' n c') = W := ⟨_, rfl⟩
  obtain ⟨lo, hlo⟩ : ∃ lo, w3.heap.size = lo := ⟨_, rfl⟩
  have HS : Hid (Cpy25 w g r lo (fun v => #[.int .u16 (xa : Int), .int .i64 xs, .int .u16 (xt : Int), .int .i64 xv, .int .i64 xi, .int .u32 (xe : Int), .int .u32 (xn : Int), v]) ms n (.slice A' n c') 0 w4) := Lib.hid (by
    have hG := HG.out
    rw [← hw4]
    refine ⟨⟨L, HL.out, ?_, fun x hx => ?_, fun j _ h => absurd h (by omega)⟩, ?_, hx3.put 7 _, hy3.other (p := ⟨g, 7, none⟩) (by show r ≠ g; omega) _, by simp [World.setCell]; omega⟩
    · rw [← hG.2.2]
      exact ownsRow_setCell_below ho (a := ⟨g, 7, none⟩) (by show g < w2.heap.size; omega) _
    · exact ((HP.out lo x hx).later hb3 (by omega)).keep ((Below.refl _ _).setCell (p := ⟨g, 7, none⟩) (Nat.le_refl _) _) (fun k hk _ => Below.heap_setCell _ _ _ _ (by show k ≠ g; have := hb3.size; omega))
    · exact (HB2.out.trans (hb3.mono HB2.out.size)).setCell (p := ⟨g, 7, none⟩) (by show _ ≤ g; omega) _)
  have c7 : w4.cell? ⟨g, 7, none⟩ = some (.slice A' n c') := HS.out.whole.at_ 7
  have hn0 : n ≤ 1000000 := by rw [← HN.out]; exact HZ.out.1
  rw [hlo] at HLo
  have HLo2 : Hid (g + 2 ≤ lo) := Lib.hid (by have := hb3.size; have := HG.out; omega)
  clear ho hb3 hlt hx3 hy3 hlo
  go_wp2_with fail
  clear c7
  go_loopw [12] (fun x wr => ∃ i : Nat, i ≤ n ∧ x = .int .i64 (i : Int) ∧ Hid (Cpy25 w g r lo (fun v => #[.int .u16 (xa : Int), .int .i64 xs, .int .u16 (xt : Int), .int .i64 xv, .int .i64 xi, .int .u32 (xe : Int), .int .u32 (xn : Int), v]) ms n (.slice A' n c') i wr)) (fun x _ => n - (intOf x).toNat)
  case atStart => exact ⟨0, by omega, rfl, HS⟩
  case round =>
    obtain ⟨i, hi, rfl, HW⟩ := hrel
    by_cases hlt : i < n
    · obtain ⟨M, hM, hO, hQ, hQo⟩ := HW.out.list
      have hMn : M.length = n := by rw [← HN.out, ← hM, List.length_map]
      have hiM : i < M.length := by omega
      obtain ⟨b, e, hbl, hblo⟩ : ∃ b, A' = some ⟨b, 0, none⟩ ∧ g + 2 ≤ b ∧ b < lo := by
        rcases hO.2 with ⟨_, h0⟩ | ⟨b, cap, cur, hv, _⟩
        · omega
        · injection hv with e1 _ _
          have := HLo.out b (by rw [e1]; rfl)
          exact ⟨b, e1, this⟩
      subst e
      obtain ⟨m, vp, vq, hmm⟩ : ∃ m vp vq, M[i]'hiM = (m, vp, vq) := ⟨_, _, _, rfl⟩
      have hq := hQ _ (List.getElem_mem hiM)
      rw [hmm] at hq
      have hmem : m ∈ ms := by rw [← hM]; exact List.mem_map.2 ⟨_, List.getElem_mem hiM, by rw [hmm]⟩
      obtain ⟨hz1, hz2⟩ := HZ.out.2 m hmem
      obtain ⟨A1, n1, c1, A2, n2, c2, rfl, rfl⟩ := hq.shape
      have h9 : wr.cell? ⟨b, i * 11 + 9, none⟩ = some (.slice A1 n1 c1) := by
        rw [hO.cellAt (i * 11 + 9) (by omega), rowsOf_get fM_len M i hiM 9 (by omega), hmm]; rfl
      have h10 : wr.cell? ⟨b, i * 11 + 10, none⟩ = some (.slice A2 n2 c2) := by
        rw [hO.cellAt (i * 11 + 10) (by omega), rowsOf_get fM_len M i hiM 10 (by omega), hmm]; rfl
      have f9 := hO.frozenAt (i * 11 + 9)
      have c7 : wr.cell? ⟨g, 7, none⟩ = some (.slice (some ⟨b, 0, none⟩) n c') := HW.out.whole.at_ 7
      have hi0 : 0 ≤ (i : Int) := by omega
      have HM := Lib.hid hM
      have HO := Lib.hid hO
      have HQ := Lib.hid hQ
      have HQo := Lib.hid hQo
      have Hq := Lib.hid hq
      have Hmm := Lib.hid hmm
      have CP := Lib.hid (fun W (h : Below wr.heap.size wr W) => clonepeersB_any (w := W) (hq.sl.1.below h) hz1)
      have CQ := Lib.hid (fun W (h : Below wr.heap.size wr W) => clonepairsB_any (w := W) (hq.sl.2.below h) hz2)
      have HV : Hid (lo ≤ wr.heap.size ∧ b < wr.heap.size) := Lib.hid ⟨HW.out.lo, by have := HW.out.lo; omega⟩
      have Hz1 := Lib.hid hz1
      have Hz2 := Lib.hid hz2
      have Hbl := Lib.hid hbl
      have Hblo := Lib.hid hblo
      have HMn := Lib.hid hMn
      clear hM hO hQ hQo hq hmm hz1 hz2 hbl hblo hMn hmem
      go_wp2_with fail
      refine wp_region_last (S := fun W => W.cell? ⟨b, i * 11 + 10, none⟩ = some (.slice A2 n2 c2)) 17 [(0, true), (1, true), (2, true), (3, true), (4, true), (7, true), (8, true), (9, true), (10, true), (5, false), (6, false), (11, false), (12, true), (13, true), (14, false), (15, false), (16, true), (17, false)] (by kernel_rfl) (by kernel_rfl) rfl (by kernel_rfl) (by rfl) (fun _ _ _ _ _ h => h) h10 ?_
      iterate 9
        refine alongL_take (v := ?_) rfl (by rfl) ?_ ?_
        rotate_left
        · intro W hW; go_simp; try with_reducible rfl
        simp only [Act.put, List.setIfInBounds_toArray, List.set_cons_zero, List.set_cons_succ]
      have h9d : wr.drew.cell? ⟨b, i * 11 + 9, none⟩ = some (.slice A1 n1 c1) := h9
      refine alongL_step rfl (fun K hK => ?_)
      go_simp
      refine hK.out _ _ h10 ?_
      clear hK K
      try simp only [Act.put, List.setIfInBounds_toArray, List.set_cons_zero, List.set_cons_succ]
      refine alongL_step rfl (fun K hK => ?_)
      go_simp
      refine (CP.out _ (Below.refl _ _).drew).mono ?_
      rintro e wa ⟨vp', rfl, hop, hba⟩
      obtain ⟨A3, c3, rfl⟩ := own_shape hop
      have HOp := Lib.hid hop
      have HBa : Hid (Below wr.heap.size wr wa) := Lib.hid ((Below.refl _ _).drew.trans hba)
      have h10a : wa.cell? ⟨b, i * 11 + 10, none⟩ = some (.slice A2 n2 c2) := (HBa.out.cell (p := ⟨b, i * 11 + 10, none⟩) HV.out.2).trans h10
      refine hK.out _ _ h10a ?_
      clear hK K hop hba
      try simp only [Act.put, List.setIfInBounds_toArray, List.set_cons_zero, List.set_cons_succ]
      refine alongL_step rfl (fun K hK => ?_)
      go_simp
      refine (CQ.out _ HBa.out).mono ?_
      rintro e wb ⟨vq', rfl, hoq, hbb⟩
      obtain ⟨A4, c4', rfl⟩ := own_shape hoq
      have HOq := Lib.hid hoq
      have HBb := Lib.hid hbb
      have hwb : Below wr.heap.size wr wb := HBa.out.trans (hbb.mono HBa.out.size)
      have HBab := Lib.hid hwb
      have h10b : wb.cell? ⟨b, i * 11 + 10, none⟩ = some (.slice A2 n2 c2) := (hwb.cell (p := ⟨b, i * 11 + 10, none⟩) HV.out.2).trans h10
      have h9b : wb.cell? ⟨b, i * 11 + 9, none⟩ = some (.slice A1 n1 c1) := (hwb.cell (p := ⟨b, i * 11 + 9, none⟩) HV.out.2).trans h9
      have f9b : wb.frozen? ⟨b, i * 11 + 9, none⟩ = false := (hwb.frozen (p := ⟨b, i * 11 + 9, none⟩) HV.out.2).trans f9
      refine hK.out _ _ h10b ?_
      clear hK K hoq hbb hwb
      try simp only [Act.put, List.setIfInBounds_toArray, List.set_cons_zero, List.set_cons_succ]
      iterate 2
        refine alongL_take (v := ?_) rfl (by rfl) ?_ ?_
        rotate_left
        · intro W hW; go_simp; try with_reducible rfl
        simp only [Act.put, List.setIfInBounds_toArray, List.set_cons_zero, List.set_cons_succ]
      have HO9 := Lib.hid ((own2_below HO.out HBab.out).stored (i * 11 + 9) (.slice A3 m.peers.length c3)).1
      obtain ⟨wc, hwc⟩ : ∃ W, wb.setCell ⟨b, i * 11 + 9, none⟩ (.slice A3 m.peers.length c3) = W := ⟨_, rfl⟩
      have HO9' : Hid (wc.ownsRow (g + 2) 66 11 (.slice (some ⟨b, 0, none⟩) n c') n ((rowsOf fM M).set (i * 11 + 9) (.slice A3 m.peers.length c3))) := Lib.hid (by rw [← hwc]; exact HO9.out)
      have h10c : wc.cell? ⟨b, i * 11 + 10, none⟩ = some (.slice A2 n2 c2) := by
        have hlen := HMn.out
        rw [HO9'.out.cellAt (i * 11 + 10) (by omega), List.getElem?_set_ne (by omega), rowsOf_get fM_len M i hiM 10 (by omega), Hmm.out]; rfl
      have f10c : wc.frozen? ⟨b, i * 11 + 10, none⟩ = false := HO9'.out.frozenAt (i * 11 + 10)
      have HWC : Hid (wb.setCell ⟨b, i * 11 + 9, none⟩ (.slice A3 m.peers.length c3) = wc) := Lib.hid hwc
      refine alongL_step rfl (fun K hK => ?_)
      go_simp
      refine hK.out _ _ h10c ?_
      clear hK K
      try simp only [Act.put, List.setIfInBounds_toArray, List.set_cons_zero, List.set_cons_succ]
      refine alongL_step rfl (fun K hK => ?_)
      go_simp
      refine hK.out _ _ h10c ?_
      clear hK K
      try simp only [Act.put, List.setIfInBounds_toArray, List.set_cons_zero, List.set_cons_succ]
      refine alongL_take (v := ?_) rfl (by rfl) ?_ ?_
      rotate_left
      · intro W hW; go_simp; try with_reducible rfl
      simp only [Act.put, List.setIfInBounds_toArray, List.set_cons_zero, List.set_cons_succ]
      obtain ⟨wd, hwd⟩ : ∃ W, wc.setCell ⟨b, i * 11 + 10, none⟩ (.slice A4 m.pairs.length c4') = W := ⟨_, rfl⟩
      refine alongL_last rfl (fun K hK => ?_)
      go_simp
      refine hK.out _ _ ?_
      clear hK K
      have HN' : Hid (Cpy25 w g r lo (fun v => #[.int .u16 (xa : Int), .int .i64 xs, .int .u16 (xt : Int), .int .i64 xv, .int .i64 xi, .int .u32 (xe : Int), .int .u32 (xn : Int), v]) ms n (.slice (some ⟨b, 0, none⟩) n c') (i + 1) wd) := Lib.hid (by
        have hG := HG.out
        have hV := HV.out
        have hbl := Hbl.out
        have hblo := Hblo.out
        have hs : wd.heap.size = wb.heap.size := by rw [← hwd, ← HWC.out]; simp [World.setCell]
        have hset : ∀ (x : Ms × Value × Value), Cpm wb g lo x → Cpm wd g lo x := fun x hx => by
          rw [← hwd, ← HWC.out]
          exact (hx.set (by omega) hblo _ _).set (by omega) hblo _ _
        have hseto : ∀ (x : Ms × Value × Value), Cpo wb lo x → Cpo wd lo x := fun x hx => by
          rw [← hwd, ← HWC.out]
          exact (hx.set hblo _ _).set hblo _ _
        have hnew : Cpo wd lo (m, .slice A3 m.peers.length c3, .slice A4 m.pairs.length c4') := hseto _ ⟨own2_lower (own2_below HOp.out HBb.out) hV.1, own2_lower HOq.out (by have := HBa.out.size; omega), Hq.out.ok⟩
        refine ⟨⟨M.set i (m, .slice A3 m.peers.length c3, .slice A4 m.pairs.length c4'), ?_, ?_, fun x hx => ?_, fun j hj hji => ?_⟩, ?_, ?_, ?_, ?_⟩
        · rw [List.map_set, HM.out]
          have e1 : ms[i]'(by have := HN.out; omega) = m := by
            have h1 : (M.map (fun x => x.1))[i]'(by rw [List.length_map]; exact hiM) = m := by rw [List.getElem_map, Hmm.out]
            simpa [HM.out] using h1
          have e2 : ms.set i m = ms := by
            conv => lhs; rw [← e1]
            exact List.set_getElem_self _
          exact e2
        · have h1 := (HO9'.out.stored (i * 11 + 10) (.slice A4 m.pairs.length c4')).1
          rw [hwd, rowsOf_set fM_len M i hiM 9 (by omega) _ (m, .slice A3 m.peers.length c3, .slice A2 n2 c2) (by rw [Hmm.out]; rfl),
            rowsOf_set fM_len _ i (by rw [List.length_set]; exact hiM) 10 (by omega) _ (m, .slice A3 m.peers.length c3, .slice A4 m.pairs.length c4') (by rw [List.getElem_set_self]; rfl), List.set_set] at h1
          exact h1
        · rcases List.mem_or_eq_of_mem_set hx with hx | rfl
          · exact hset _ ((HQ.out x hx).later HBab.out (by omega))
          · exact hnew.cpm
        · rw [List.getElem_set]
          split
          · exact hnew
          · exact hseto _ ((HQo.out j (by rw [List.length_set] at hj; exact hj) (by omega)).later HBab.out)
        · rw [← hwd, ← HWC.out]
          exact ((HW.out.below.trans (HBab.out.mono HW.out.below.size)).setCell (p := ⟨b, i * 11 + 9, none⟩) (by show _ ≤ b; omega) _).setCell (p := ⟨b, i * 11 + 10, none⟩) (by show _ ≤ b; omega) _
        · rw [← hwd, ← HWC.out]
          exact ((HW.out.whole.below HBab.out (by omega)).other (p := ⟨b, i * 11 + 9, none⟩) (by show g ≠ b; omega) _).other (p := ⟨b, i * 11 + 10, none⟩) (by show g ≠ b; omega) _
        · rw [← hwd, ← HWC.out]
          exact ((HW.out.res.below HBab.out (by omega)).other (p := ⟨b, i * 11 + 9, none⟩) (by show r ≠ b; omega) _).other (p := ⟨b, i * 11 + 10, none⟩) (by show r ≠ b; omega) _
        · have := HBab.out.size; omega)
      go_wp2_with fail
      go_roundw
      case rel => exact ⟨i + 1, by omega, by go_num, HN'⟩
      case measure => simp [intOf]; omega
    · obtain rfl : i = n := by omega
      obtain ⟨M, hM, hO, hQ, hQo⟩ := HW.out.list
      have HML : Hid (∀ cs, MlO (wr.setRow r cs) w.heap.size (.slice A' i c') ms) := Lib.hid (fun cs => by
        have hG := HG.out
        have hl := HLo2.out
        refine ⟨M, hM, ?_, fun x hx => ?_⟩
        · rw [HN.out]
          exact own2_lower (own2_keep hO (fun k hk _ => setRow_other wr r k cs (by omega))) (by omega)
        · obtain ⟨j, hj, rfl⟩ := List.getElem_of_mem hx
          exact ((hQo j hj (by rw [← HN.out, ← hM, List.length_map]; exact hj)).keep (fun k hk _ => setRow_other wr r k cs (by omega))).low (by omega))
      have HWh := Lib.hid HW.out.whole
      have HRs := Lib.hid HW.out.res
      have HBw := Lib.hid HW.out.below
      clear hO hQ hQo hM
      go_wp2_with (first | (refine wpList_load_struct Try.underlying26 (talkI rfl) rfl rfl rfl HWh.out ?_) | (refine wpList_store_whole rfl rfl rfl rfl rfl HRs.out (talkI rfl) rfl (by simp [Value.oneCell']) ?_))
      have HRs' := Lib.hid (HRs.out.row #[.int .u16 (xa : Int), .int .i64 xs, .int .u16 (xt : Int), .int .i64 xv, .int .i64 xi, .int .u32 (xe : Int), .int .u32 (xn : Int), .slice A' i c'])
      refine bodyPost_ret (v := .agg #[.int .u16 (xa : Int), .int .i64 xs, .int .u16 (xt : Int), .int .i64 xv, .int .i64 xi, .int .u32 (xe : Int), .int .u32 (xn : Int), .slice A' i c']) ?_ rfl ⟨A', c', rfl, HML.out _, below_row HBw.out (by have := HG.out; omega) _⟩
      exact results_cell_row rfl _ _ _ _ _ (0, 0) _ rfl HRs'.out Try.underlying26 rfl (talkI rfl)
end Go.Proofs.Ytjomchehnlnfcaa
