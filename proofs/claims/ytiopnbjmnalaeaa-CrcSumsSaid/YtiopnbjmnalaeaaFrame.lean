/- From the readings of a row's arguments to what the walks are told of them. -/
import Derived.Test.YtiopnbjmnalaeaaMem
import Derived.WalkKit
import Derived.ProofKit
import Derived.OpenShut
import Derived.ShutString
import Derived.ChangeOld
namespace Go.Proofs.Ytiopnbjmnalaeaa
open Go.ChangeShapes Go.WideShapes Go.ChangeAt Go.RowKit
set_option linter.unusedVariables false

/-- what a walk is told of a slice of numbers without a sign -/
structure Row (k : IntKind) (w : World) (a : Option Addr) (len cap : Nat) (l : List Nat) : Prop where
  len_eq : l.length = len
  sees : Sees k w w.heap.size a l
  wf : ∀ x ∈ l, (Lit.int k (x : Int)).wf = true
  le : len ≤ cap
  max : cap ≤ maxLen
  null : a = none → cap = 0

theorem Row.byte {w : World} {a : Option Addr} {len cap : Nat} {l : List Nat} (h : Row .u8 w a len cap l) : ∀ x ∈ l, x < 256 := fun x hx => by
  have := bounds_u8 (h.wf x hx); omega
theorem Row.u64 {w : World} {a : Option Addr} {len cap : Nat} {l : List Nat} (h : Row .u64 w a len cap l) : ∀ x ∈ l, x < 18446744073709551616 := fun x hx => by
  have := bounds_u64 (h.wf x hx); omega

theorem row_of {k : IntKind} {w : World} {x : Addr} {len cap : Nat} {zs : List Int} (h0 : ∀ n, (Lit.int k n).wf = true → 0 ≤ n) (hl : len ≤ cap) (hm : cap ≤ maxLen) (hz : zs.length = cap)
    (hc : ∀ i, i < zs.length → w.cell? (x.add i) = some (.int k (zs.getD i 0))) (hw : ∀ n ∈ zs, (Lit.int k n).wf = true) : Row k w (some x) len cap ((zs.take len).map Int.toNat) := by
  refine ⟨by rw [List.length_map, List.length_take]; omega, ?_, ?_, hl, hm, fun h => by cases h⟩
  · intro hp
    rw [List.length_map, List.length_take] at hp
    obtain ⟨b, off, spot⟩ := x
    have hc0 := hc 0 (by omega)
    have hspot : spot = none := by simpa [Addr.add] using World.cell?_spot hc0
    subst hspot
    have hb : b < w.heap.size := by
      rcases Nat.lt_or_ge b w.heap.size with h | h
      · exact h
      · simp [World.cell?, Addr.add, Array.getElem?_eq_none h] at hc0
    refine ⟨b, off, rfl, hb, fun i hi => ?_⟩
    rw [List.length_map, List.length_take] at hi
    have hi' : i < zs.length := by omega
    have e := hc i hi'
    have ha : (⟨b, off, none⟩ : Addr).add i = ⟨b, off + i, none⟩ := by unfold Addr.add; split <;> simp_all
    rw [ha] at e
    rw [e]
    have hn : 0 ≤ zs[i] := h0 _ (hw _ (List.getElem_mem hi'))
    simp [List.getD, List.getElem?_eq_getElem hi', List.getElem?_take_of_lt (show i < len by omega), Int.toNat_of_nonneg hn]
  · intro y hy
    obtain ⟨z, hz1, rfl⟩ := List.mem_map.1 hy
    have hz2 := hw z (List.mem_of_mem_take hz1)
    rw [Int.toNat_of_nonneg (h0 _ hz2)]
    exact hz2
theorem row_none (k : IntKind) (w : World) : Row k w none 0 0 [] := ⟨rfl, fun h => absurd h (by simp), fun _ h => by simp at h, by omega, by unfold maxLen; omega, fun _ => rfl⟩
end Go.Proofs.Ytiopnbjmnalaeaa
