/- A talk as an argument, each of whose slices has no more bytes than the form's reach. -/
import Derived.Test.YtjomchehnlnfcaaMl25
import Derived.SizedLaws
namespace Go.Proofs.Ytjomchehnlnfcaa
open Go.RowKit Go.ChangeShapes Go.WideShapes
open Gm
set_option linter.unusedVariables false
set_option linter.unusedSimpArgs false
set_option maxRecDepth 100000

section
variable {H : Type} {enc : TypeId × Value → H} {w : World} {base : Nat} {held : Bool} {fuel : Nat} {x : DataW H × List MemPlace}
theorem len_sized {t e : TypeId} {A : Option Addr} {n c : Nat} (ht : Try.prog.underlying t = some (.slice e)) (h : DataW.trod enc Try.prog w base (fun _ => true) held fuel t [.slice A n c] = some x)
    (hw : ∀ k ∈ x.1.weights Try.prog t, k ≤ reachBytes) : n * Try.prog.bytesOf e ≤ reachBytes := by
  rcases DataW.trod_slice ht h with ⟨h0, _⟩ | ⟨a, len, cap, elems, rest, m, hf, hc, rfl, hb, hl, hm, hlen, _⟩
  · simp at h0
    obtain ⟨_, rfl, _⟩ := h0
    simp
  · simp at hc
    obtain ⟨_, rfl, _⟩ := hc
    have h3 := hw ((elems.length + rest.length) * Try.prog.bytesOf e) (by simp [DataW.weights, ht])
    refine Nat.le_trans (Nat.mul_le_mul_right _ ?_) h3
    omega
theorem msg_sized {m : Ms} {vp vq : Value} {B : Nat} (hf : DataW.trod enc Try.prog w base (fun _ => true) held fuel 66 (msgRow m vp vq) = some x) (hw : ∀ k ∈ x.1.weights Try.prog 66, k ≤ reachBytes)
    (hp : Sl fPeer w B vp m.peers) (hq : Sl fPair w B vq m.pairs) : m.peers.length ≤ 8796093022208 ∧ m.pairs.length ≤ 4398046511104 := by
  obtain ⟨xs, n, _, rfl, _, hlen, hx⟩ := DataW.trod_struct Try.underlying66 hf
  have one : ∀ t, t ∈ [63, 64] → Try.prog.cellsOf t = 1 := by
    intro t ht
    simp at ht
    rcases ht with rfl | rfl <;> kernel_rfl
  have h8 : DataW.trod enc Try.prog w base (fun _ => true) held n 63 [vp] = xs[8]? := each_field hx 8 _ rfl 63 9 1 rfl rfl (one _ (by decide))
  have h9 : DataW.trod enc Try.prog w base (fun _ => true) held n 64 [vq] = xs[9]? := each_field hx 9 _ rfl 64 10 1 rfl rfl (one _ (by decide))
  have l10 : xs.length = 10 := hlen
  rw [List.getElem?_eq_getElem (by omega)] at h8 h9
  obtain ⟨A, c, rfl, _⟩ := hp.ex
  obtain ⟨A', c', rfl, _⟩ := hq.ex
  have each : ∀ (j : Nat) (t : TypeId) (hj : j < xs.length), (Try.prog.underlying 66).map (fun d => match d with | .struct fs => (fs.toList.map (·.type))[j]? | _ => none) = some (some t) → ∀ k ∈ (xs[j].1).weights Try.prog t, k ≤ reachBytes := fun j t hj ht k hk => by
    refine hw k ?_
    rw [Try.underlying66] at ht
    simp only [Option.map_some, Option.some.injEq] at ht
    simp only [DataW.weights, Try.underlying66]
    exact DataW.weights_mem_each ht (by rw [List.getElem?_map, List.getElem?_eq_getElem hj]; rfl) k hk
  have a := len_sized Try.underlying63 h8 (each 8 _ (by omega) (by rw [Try.underlying66]; rfl))
  have b := len_sized Try.underlying64 h9 (each 9 _ (by omega) (by rw [Try.underlying66]; rfl))
  rw [show Try.prog.bytesOf 62 = 16 by kernel_rfl] at a
  rw [show Try.prog.bytesOf 71 = 32 by kernel_rfl] at b
  have hr : reachBytes = 140737488351232 := rfl
  omega
end
theorem open_msgs_sized {H : Type} {enc : TypeId × Value → H} {w : World} {base : Nat} {held : Bool} {fuel : Nat} {cs : List Value} {x : DataW H × List MemPlace} (h : DataW.trod enc Try.prog w base (fun _ => true) held fuel 24 cs = some x)
    (hw : ∀ k ∈ x.1.weights Try.prog 24, k ≤ reachBytes) : ∃ v ms, cs = [v] ∧ Ml w w.heap.size v ms ∧ ∀ m ∈ ms, m.peers.length ≤ 8796093022208 ∧ m.pairs.length ≤ 4398046511104 := by
  rcases DataW.trod_slice Try.underlying24 h with ⟨rfl, _⟩ | ⟨a, len, cap, elems, rest, n, _, rfl, rfl, _, hl, hm, hlen, hx, _, _⟩
  · exact ⟨_, [], rfl, Ml.nil _ _, fun m hm => by cases hm⟩
  · rw [show Try.prog.cellsOf 66 = 11 by kernel_rfl] at hx
    have each : ∀ i, i < len → ∃ u : Ms × Value × Value, (∀ k, k < 11 → w.cell? ((a.add (i * 11)).add k) = (msgRow u.1 u.2.1 u.2.2)[k]?) ∧ Sl fPeer w w.heap.size u.2.1 u.1.peers ∧ Sl fPair w w.heap.size u.2.2 u.1.pairs ∧ Ok u.1 ∧ u.1.peers.length ≤ 8796093022208 ∧ u.1.pairs.length ≤ 4398046511104 := fun i hi => by
      have h0 := hx i hi
      rw [List.getElem?_eq_getElem (by omega)] at h0
      obtain ⟨cs', h1, h2⟩ := Option.bind_eq_some_iff.1 h0
      obtain ⟨_, hlen2, hcell⟩ := World.cells?_some h1
      obtain ⟨m, vp, vq, rfl, h3, h4, h5⟩ := open_msg_cells hlen2 h2
      have h6 := msg_sized h2 (fun k hk => hw k (by
        simp only [DataW.weights, Try.underlying24, List.mem_cons, List.mem_append]
        refine .inr (.inl ?_)
        have hmem : ∀ (L : List (DataW H)) (e : TypeId) (d : DataW H), d ∈ L → ∀ k ∈ d.weights Try.prog e, k ∈ DataW.weightsAll Try.prog e L := by
          intro L e d hd k hk
          induction L with
          | nil => cases hd
          | cons y L ih =>
            simp only [DataW.weightsAll, List.mem_append]
            rcases List.mem_cons.1 hd with rfl | hd
            · exact .inl hk
            · exact .inr (ih hd)
        exact hmem _ _ _ (List.mem_map.2 ⟨_, List.getElem_mem _, rfl⟩) k hk)) h3 h4
      refine ⟨(m, vp, vq), fun k hk => ?_, h3, h4, h5, h6⟩
      rw [hcell k hk]
    haveI : Inhabited (Ms × Value × Value) := ⟨(⟨0, 0, 0, false, 0, ⟨#[]⟩, ⟨#[]⟩, 0, 0, [], []⟩, .bool false, .bool false)⟩
    obtain ⟨q, hq⟩ := Go.Deep.choose_lt each
    refine ⟨_, (List.range len).map fun i => (q i).1, rfl, ⟨some a, cap, by simp, by simpa using hl, hm, (fun h => by cases h), fun i hi => ?_⟩, fun m hm => ?_⟩
    rotate_left
    · obtain ⟨i, hi, rfl⟩ := List.mem_map.1 hm
      exact (hq i (List.mem_range.1 hi)).2.2.2.2
    have hi' : i < len := by simpa using hi
    have h0 := (hq i hi').1 0 (by omega)
    obtain ⟨b0, off0, e0, hb0⟩ := spot_of h0
    obtain ⟨b, off, spot⟩ := a
    have hsp : spot = none := by
      have hz := (hq 0 (by omega)).1 0 (by omega)
      rw [Go.Deep.add_add] at hz
      simpa [Addr.add] using World.cell?_spot hz
    subst hsp
    rw [add_plain, add_plain] at e0
    injection e0 with e1 _ _
    subst e1
    have hcs := (hq i hi').1
    refine ⟨b, off, (q i).2.1, (q i).2.2, rfl, hb0, fun k hk => ?_, by simpa using (hq i hi').2.1, by simpa using (hq i hi').2.2.1, by simpa using (hq i hi').2.2.2.1⟩
    have := hcs k hk
    rw [add_plain, add_plain] at this
    simpa using this
theorem open_talk_sized {H : Type} {enc : TypeId × Value → H} {w : World} {base : Nat} {held : Bool} {r : Reach} {b0 : Nat} {v : Value} {d : DataW H} {ps : List MemPlace}
    (hv : Value.okWide Try.prog w r b0 26 v) (hd : DataW.Trod enc Try.prog w base (fun _ => true) held 26 v d ps) (hw : ∀ k ∈ d.weights Try.prog 26, k ≤ reachBytes) :
    ∃ t W, v = .agg (Tk.row t W) ∧ Ml w w.heap.size W t.waits ∧ t.Ok ∧ ∀ m ∈ t.waits, m.peers.length ≤ 8796093022208 ∧ m.pairs.length ≤ 4398046511104 := by
  obtain ⟨cs, rfl, hsz, _⟩ : ∃ cs, v = .agg cs ∧ cs.size = Try.prog.cellsOf 26 ∧ Row.okWide Try.prog w r b0 26 cs := by simpa [Value.okWide, Try.underlying26] using hv
  rw [show Try.prog.cellsOf 26 = 8 by kernel_rfl] at hsz
  obtain ⟨fuel, hf⟩ := hd
  obtain ⟨xs, n, _, hx0, _, hlen, hx⟩ := DataW.trod_struct Try.underlying26 hf
  injection hx0 with hd0 _
  subst hd0
  obtain ⟨l⟩ := cs
  match l, hsz with
  | [c0, c1, c2, c3, c4, c5, c6, c7], _ =>
  match xs, hlen with
  | [x0, x1, x2, x3, x4, x5, x6, x7], _ =>
  have one : ∀ t, t ∈ [22, 3, 23, 24] → Try.prog.cellsOf t = 1 := by
    intro t ht
    simp at ht
    rcases ht with rfl | rfl | rfl | rfl <;> kernel_rfl
  have h0 : DataW.trod enc Try.prog w base (fun _ => true) held n 22 [c0] = some x0 := each_field hx 0 _ rfl 22 0 1 rfl rfl (one _ (by decide))
  have h1 : DataW.trod enc Try.prog w base (fun _ => true) held n 3 [c1] = some x1 := each_field hx 1 _ rfl 3 1 1 rfl rfl (one _ (by decide))
  have h2 : DataW.trod enc Try.prog w base (fun _ => true) held n 22 [c2] = some x2 := each_field hx 2 _ rfl 22 2 1 rfl rfl (one _ (by decide))
  have h3 : DataW.trod enc Try.prog w base (fun _ => true) held n 3 [c3] = some x3 := each_field hx 3 _ rfl 3 3 1 rfl rfl (one _ (by decide))
  have h4 : DataW.trod enc Try.prog w base (fun _ => true) held n 3 [c4] = some x4 := each_field hx 4 _ rfl 3 4 1 rfl rfl (one _ (by decide))
  have h5 : DataW.trod enc Try.prog w base (fun _ => true) held n 23 [c5] = some x5 := each_field hx 5 _ rfl 23 5 1 rfl rfl (one _ (by decide))
  have h6 : DataW.trod enc Try.prog w base (fun _ => true) held n 23 [c6] = some x6 := each_field hx 6 _ rfl 23 6 1 rfl rfl (one _ (by decide))
  have h7 : DataW.trod enc Try.prog w base (fun _ => true) held n 24 [c7] = some x7 := each_field hx 7 _ rfl 24 7 1 rfl rfl (one _ (by decide))
  obtain ⟨z0, e0, _, w0⟩ := DataW.trod_int Try.underlying22 h0
  obtain ⟨z1, e1, _, w1⟩ := DataW.trod_int Try.underlying3 h1
  obtain ⟨z2, e2, _, w2⟩ := DataW.trod_int Try.underlying22 h2
  obtain ⟨z3, e3, _, w3⟩ := DataW.trod_int Try.underlying3 h3
  obtain ⟨z4, e4, _, w4⟩ := DataW.trod_int Try.underlying3 h4
  obtain ⟨z5, e5, _, w5⟩ := DataW.trod_int Try.underlying23 h5
  obtain ⟨z6, e6, _, w6⟩ := DataW.trod_int Try.underlying23 h6
  have hw7 : ∀ k ∈ x7.1.weights Try.prog 24, k ≤ reachBytes := fun k hk => hw k (by
    simp only [DataW.weights, Try.underlying26]
    exact DataW.weights_mem_each (j := 7) rfl rfl k hk)
  obtain ⟨W, ms, e7, hm, hms⟩ := open_msgs_sized h7 hw7
  simp at e0 e1 e2 e3 e4 e5 e6 e7
  subst e0 e1 e2 e3 e4 e5 e6 e7
  obtain ⟨p0, q0⟩ := bounds_u16 w0
  obtain ⟨p2, q2⟩ := bounds_u16 w2
  obtain ⟨p5, q5⟩ := bounds_u32 w5
  obtain ⟨p6, q6⟩ := bounds_u32 w6
  obtain ⟨z0, rfl⟩ := Int.eq_ofNat_of_zero_le p0
  obtain ⟨z2, rfl⟩ := Int.eq_ofNat_of_zero_le p2
  obtain ⟨z5, rfl⟩ := Int.eq_ofNat_of_zero_le p5
  obtain ⟨z6, rfl⟩ := Int.eq_ofNat_of_zero_le p6
  exact ⟨⟨z0, z1, z2, z3, z4, z5, z6, ms⟩, _, rfl, hm, ⟨by show z0 < _; omega, bounds_i64 w1, by show z2 < _; omega, bounds_i64 w3, bounds_i64 w4, by show z5 < _; omega, by show z6 < _; omega⟩, hms⟩
end Go.Proofs.Ytjomchehnlnfcaa
