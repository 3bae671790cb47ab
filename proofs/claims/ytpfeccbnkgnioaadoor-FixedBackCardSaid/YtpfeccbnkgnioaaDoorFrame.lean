/- From the readings of a row's arguments to what the walks are told of them. -/
import Derived.Test.YtpfeccbnkgnioaaDoorMem
import Derived.WalkKit
import Derived.ProofKit
import Derived.OpenShut
import Derived.ShutString
import Derived.ChangeOld
namespace Go.Proofs.YtpfeccbnkgnioaaDoor
open Go.ChangeShapes Go.WideShapes Go.ChangeAt Go.RowKit
set_option linter.unusedVariables false

/-- what a walk is told of a slice of numbers without a sign -/
structure Row (k : IntKind) (w : World) (a : Option Addr) (len cap : Nat) (l : List Nat) : Prop where
  len_eq : l.length = len
  sees : Sees k w w.heap.size a l
  wf : ∀ x ∈ l, (Lit.int k (x : Int)).wf = true
  le : len ≤ cap
  max : cap ≤ maxLen
  null : a = none → cap = 0

theorem Row.byte {w : World} {a : Option Addr} {len cap : Nat} {l : List Nat} (h : Row .u8 w a len cap l) : ∀ x ∈ l, x < 256 := fun x hx => by
  have := bounds_u8 (h.wf x hx); omega
theorem Row.u64 {w : World} {a : Option Addr} {len cap : Nat} {l : List Nat} (h : Row .u64 w a len cap l) : ∀ x ∈ l, x < 18446744073709551616 := fun x hx => by
  have := bounds_u64 (h.wf x hx); omega

theorem row_of {k : IntKind} {w : World} {x : Addr} {len cap : Nat} {zs : List Int} (h0 : ∀ n, (Lit.int k n).wf = true → 0 ≤ n) (hl : len ≤ cap) (hm : cap ≤ maxLen) (hz : zs.length = cap)
    (hc : ∀ i, i < zs.length → w.cell? (x.add i) = some (.int k (zs.getD i 0))) (hw : ∀ n ∈ zs, (Lit.int k n).wf = true) : Row k w (some x) len cap ((zs.take len).map Int.toNat) := by
  refine ⟨by rw [List.length_map, List.length_take]; omega, ?_, ?_, hl, hm, fun h => by cases h⟩
  · intro hp
    rw [List.length_map, List.length_take] at hp
    obtain ⟨b, off, spot⟩ := x
    have hc0 := hc 0 (by omega)
    have hspot : spot = none := by simpa [Addr.add] using World.cell?_spot hc0
    subst hspot
    have hb : b < w.heap.size := by
      rcases Nat.lt_or_ge b w.heap.size with h | h
      · exact h
      · simp [World.cell?, Addr.add, Array.getElem?_eq_none h] at hc0
    refine ⟨b, off, rfl, hb, fun i hi => ?_⟩
    rw [List.length_map, List.length_take] at hi
    have hi' : i < zs.length := by omega
    have e := hc i hi'
    have ha : (⟨b, off, none⟩ : Addr).add i = ⟨b, off + i, none⟩ := by unfold Addr.add; split <;> simp_all
    rw [ha] at e
    rw [e]
    have hn : 0 ≤ zs[i] := h0 _ (hw _ (List.getElem_mem hi'))
    simp [List.getD, List.getElem?_eq_getElem hi', List.getElem?_take_of_lt (show i < len by omega), Int.toNat_of_nonneg hn]
  · intro y hy
    obtain ⟨z, hz1, rfl⟩ := List.mem_map.1 hy
    have hz2 := hw z (List.mem_of_mem_take hz1)
    rw [Int.toNat_of_nonneg (h0 _ hz2)]
    exact hz2
theorem row_none (k : IntKind) (w : World) : Row k w none 0 0 [] := ⟨rfl, fun h => absurd h (by simp), fun _ h => by simp at h, by omega, by unfold maxLen; omega, fun _ => rfl⟩

/-- an array of numbers by value, opened -/
theorem open_nums {H : Type} {enc : TypeId × Value → H} {P : Program} {w : World} {base : Nat} {spare : Nat → Bool} {held : Bool} {r : Reach} {b0 : Nat} {t e : TypeId} {n : Nat} {k : IntKind} {v : Value} {d : DataW H} {ps : List MemPlace}
    (ht : P.underlying t = some (.array n e)) (he : P.underlying e = some (.int k)) (ht1 : P.cellsOf t = n) (he1 : P.cellsOf e = 1) (hv : Value.okWide P w r b0 t v) (hd : DataW.Trod enc P w base spare held t v d ps) :
    ∃ zs : List Int, zs.length = n ∧ v = .agg (zs.map fun z => Value.int k z).toArray ∧ ∀ z ∈ zs, (Lit.int k z).wf = true := by
  obtain ⟨cs, rfl, hsz, _⟩ : ∃ cs, v = .agg cs ∧ cs.size = P.cellsOf t ∧ Row.okWide P w r b0 t cs := by simpa [Value.okWide, ht] using hv
  rw [ht1] at hsz
  obtain ⟨fuel, hf⟩ := hd
  obtain ⟨xs, m, _, _, _, hx, hall⟩ := DataW.trod_array ht hf
  have key : ∀ i, i < n → ∃ z, cs[i]? = some (.int k z) ∧ (Lit.int k z).wf = true := by
    intro i hi
    have h1 := hall i hi
    rw [he1, Nat.mul_one, List.getElem?_eq_getElem (by omega)] at h1
    obtain ⟨z, hz, _, hw⟩ := DataW.trod_int he h1
    refine ⟨z, ?_, hw⟩
    have hc : (Value.agg cs).cells = cs := rfl
    rw [hc, List.drop_eq_getElem_cons (show i < cs.toList.length by simp; omega)] at hz
    simp at hz
    rw [Array.getElem?_eq_getElem (by omega), hz]
  refine ⟨cs.toList.map intOf, by simpa using hsz, ?_, ?_⟩
  · congr 1
    apply Array.ext (by simp)
    intro i h1 h2
    obtain ⟨z, hz, _⟩ := key i (by omega)
    rw [Array.getElem?_eq_getElem h1] at hz
    injection hz with hz
    simp [hz, intOf]
  · intro z hz
    obtain ⟨u, hu, rfl⟩ := List.mem_map.1 hz
    obtain ⟨i, hi, rfl⟩ := List.getElem_of_mem hu
    obtain ⟨z, hz, hw⟩ := key i (by simpa [hsz] using hi)
    have h3 : cs[i]? = some cs.toList[i] := by simp [Array.getElem?_eq_getElem (show i < cs.size by simpa using hi)]
    rw [h3] at hz
    injection hz with hz
    rw [hz]
    exact hw

theorem len1 : ∀ {l : List Int}, l.length = 1 → ∃ a0, l = [a0]
  | [a0], _ => ⟨_, rfl⟩
theorem len2 : ∀ {l : List Int}, l.length = 2 → ∃ a0 a1, l = [a0, a1]
  | [a0, a1], _ => ⟨_, _, rfl⟩
theorem len3 : ∀ {l : List Int}, l.length = 3 → ∃ a0 a1 a2, l = [a0, a1, a2]
  | [a0, a1, a2], _ => ⟨_, _, _, rfl⟩
theorem len4 : ∀ {l : List Int}, l.length = 4 → ∃ a0 a1 a2 a3, l = [a0, a1, a2, a3]
  | [a0, a1, a2, a3], _ => ⟨_, _, _, _, rfl⟩
theorem len5 : ∀ {l : List Int}, l.length = 5 → ∃ a0 a1 a2 a3 a4, l = [a0, a1, a2, a3, a4]
  | [a0, a1, a2, a3, a4], _ => ⟨_, _, _, _, _, rfl⟩
theorem len6 : ∀ {l : List Int}, l.length = 6 → ∃ a0 a1 a2 a3 a4 a5, l = [a0, a1, a2, a3, a4, a5]
  | [a0, a1, a2, a3, a4, a5], _ => ⟨_, _, _, _, _, _, rfl⟩
theorem len7 : ∀ {l : List Int}, l.length = 7 → ∃ a0 a1 a2 a3 a4 a5 a6, l = [a0, a1, a2, a3, a4, a5, a6]
  | [a0, a1, a2, a3, a4, a5, a6], _ => ⟨_, _, _, _, _, _, _, rfl⟩
theorem len8 : ∀ {l : List Int}, l.length = 8 → ∃ a0 a1 a2 a3 a4 a5 a6 a7, l = [a0, a1, a2, a3, a4, a5, a6, a7]
  | [a0, a1, a2, a3, a4, a5, a6, a7], _ => ⟨_, _, _, _, _, _, _, _, rfl⟩
end Go.Proofs.YtpfeccbnkgnioaaDoor
