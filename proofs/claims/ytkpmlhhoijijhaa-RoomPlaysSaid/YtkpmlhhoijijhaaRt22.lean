/- Layer 22's reference as memory; contracts of find, Held, without. -/
import Derived.Test.YtkpmlhhoijijhaaPR
import Derived.Test.YtkpmlhhoijijhaaRpp21
import Derived.Test.YtkpmlhhoijijhaaPM
namespace Go.Proofs.Ytkpmlhhoijijhaa
open Go.RowKit
set_option linter.unusedVariables false
set_option maxRecDepth 100000
set_option linter.unusedSimpArgs false

/-- an open message as its cells -/
def fOe (x : Tm.One × Nat) : List Value := [.int .u16 (x.1.sender : Int), .int .u32 (x.1.epoch : Int), .int .u32 (x.1.id : Int), .int .u16 (x.1.count : Int), .int .u8 (x.1.version : Int), .int .i64 (x.1.age : Int), .pointer (some ⟨x.2, 0, none⟩)]
theorem fOe_len : ∀ x, (fOe x).length = 7 := fun _ => rfl
theorem fOe_one (x : Tm.One × Nat) : ∀ u ∈ fOe x, u.oneCell' = true := by
  intro u hu
  simp only [fOe, List.mem_cons, List.mem_nil_iff, or_false] at hu
  rcases hu with rfl | rfl | rfl | rfl | rfl | rfl | rfl <;> rfl
theorem oneT22 : Try.prog.underlying 46 = some (.slice 64) := Try.underlying46
theorem oneI22 : (Try.prog.info? 64).map (fun i => (i.zero, i.size, i.bytes)) = some (some (.agg #[.int .u16 0, .int .u32 0, .int .u32 0, .int .u16 0, .int .u8 0, .int .i64 0, .pointer none]), 7, 32) := by kernel_rfl
/-- the messages themselves -/
def ones (L : List (Tm.One × Nat)) : List Tm.One := L.map (fun x => x.1)
theorem ones_len (L : List (Tm.One × Nat)) : (ones L).length = L.length := by simp [ones]
theorem ones_get {L : List (Tm.One × Nat)} {i : Nat} (h : i < (ones L).length) : (ones L)[i] = (L[i]'(by rw [ones_len] at h; exact h)).1 := by simp [ones]
/-- things that share no block -/
structure Bag (w : World) (Fo : Nat → Nat → Prop) (L : List (Tm.One × Nat)) : Prop where
  rp : ∀ x ∈ L, Rp w (Fo x.2) x.2 x.1.s
  aside : ∀ x ∈ L, ∀ y ∈ L, x.2 ≠ y.2 → Aside (Fo x.2) (Fo y.2)
  once : (L.map (·.2)).Nodup
/-- the reference's table in block h, which has the blocks of F -/
structure RtAt (w : World) (F : Nat → Prop) (h : Nat) (vl : Value) (m : Tm.Lim) (L : List (Tm.One × Nat)) (Fo : Nat → Nat → Prop) : Prop where
  whole : Whole w h 48 #[.int .i64 (m.op : Int), .int .i64 (m.by_ : Int), .int .i64 (m.ex : Int), vl]
  row : w.ownsRow 0 64 7 vl L.length (rowsOf fOe L)
  self : F h
  fr : ∀ b, vl.ownBlock = some b → F b ∧ b ≠ h
  bag : Bag w Fo L
  fo : ∀ x ∈ L, ∀ b, Fo x.2 b → F b ∧ b ≠ h ∧ vl.ownBlock ≠ some b
  lt : ∀ b, F b → b < w.heap.size
def Rt (w : World) (F : Nat → Prop) (h : Nat) (m : Tm.Lim) (l : List Tm.One) : Prop := ∃ vl L Fo, ones L = l ∧ RtAt w F h vl m L Fo
section
variable {w w' : World} {F : Nat → Prop} {h : Nat} {vl : Value} {m : Tm.Lim} {L L' : List (Tm.One × Nat)} {l : List Tm.One} {Fo : Nat → Nat → Prop}
theorem Bag.keep (b : Bag w Fo L) (hk : ∀ x ∈ L, ∀ b, Fo x.2 b → w'.heap[b]? = w.heap[b]?) : Bag w' Fo L := ⟨fun x hx => (b.rp x hx).keep (hk x hx), b.aside, b.once⟩
theorem Bag.sub (b : Bag w Fo L) (hs : L'.Sublist L) : Bag w Fo L' := ⟨fun x hx => b.rp x (hs.subset hx), fun x hx y hy => b.aside x (hs.subset hx) y (hs.subset hy), (hs.map _).nodup b.once⟩
theorem RtAt.keep (r : RtAt w F h vl m L Fo) (hk : ∀ b, F b → w'.heap[b]? = w.heap[b]?) : RtAt w' F h vl m L Fo :=
  ⟨r.whole.same (hk h r.self), own_same r.row (fun b hb => hk b (r.fr b hb).1), r.self, r.fr, r.bag.keep (fun x hx b hb => hk b (r.fo x hx b hb).1), r.fo, fun b hb => by
    have h1 := r.lt b hb
    have h2 := hk b hb
    rcases Nat.lt_or_ge b w'.heap.size with h3 | h3
    · exact h3
    · rw [Array.getElem?_eq_none h3, Array.getElem?_eq_getElem h1] at h2; cases h2⟩
theorem Rt.keep (r : Rt w F h m l) (hk : ∀ b, F b → w'.heap[b]? = w.heap[b]?) : Rt w' F h m l := by
  obtain ⟨vl, L, Fo, e, r⟩ := r
  exact ⟨vl, L, Fo, e, r.keep hk⟩
theorem Rt.lt (r : Rt w F h m l) : ∀ b, F b → b < w.heap.size := by obtain ⟨vl, L, Fo, e, r⟩ := r; exact r.lt
theorem RtAt.drew (r : RtAt w F h vl m L Fo) : RtAt w.drew F h vl m L Fo := r.keep (fun _ _ => rfl)
theorem RtAt.drewN (r : RtAt w F h vl m L Fo) (n : Nat) : RtAt (w.drewN n) F h vl m L Fo := r.keep (fun _ _ => rfl)
theorem RtAt.more {G : Nat → Prop} (r : RtAt w F h vl m L Fo) (hG : ∀ b, F b → G b) (hl : ∀ b, G b → b < w.heap.size) : RtAt w G h vl m L Fo :=
  ⟨r.whole, r.row, hG _ r.self, fun b hb => ⟨hG _ (r.fr b hb).1, (r.fr b hb).2⟩, r.bag, fun x hx b hb => ⟨hG _ (r.fo x hx b hb).1, (r.fo x hx b hb).2⟩, hl⟩
theorem RtAt.c3 (r : RtAt w F h vl m L Fo) : w.cell? ⟨h, 3, none⟩ = some vl := r.whole.at_ 3
/-- an element's cells -/
theorem RtAt.cells {A : Option Addr} {n c : Nat} (r : RtAt w F h (.slice A n c) m L Fo) {i : Nat} (hi : i < L.length) : ∃ b, A = some ⟨b, 0, none⟩ ∧ b < w.heap.size ∧ ∀ j, j < 7 → w.cell? ⟨b, i * 7 + j, none⟩ = (fOe L[i])[j]? := by
  obtain ⟨A', c', e, h1, h2, h3, h4⟩ := own_look r.row
  injection e with e1 e2 e3
  subst e1
  have g0 : (fOe L[i])[0]? = some ((fOe L[i])[0]'(by rw [fOe_len]; omega)) := List.getElem?_eq_getElem _
  obtain ⟨b, rfl, _, hlt, _⟩ := h4 (i * 7 + 0) _ ((rowsOf_get fOe_len L i hi 0 (by omega)).trans g0)
  refine ⟨b, rfl, hlt, fun j hj => ?_⟩
  have gj : (fOe L[i])[j]? = some ((fOe L[i])[j]'(by rw [fOe_len]; exact hj)) := List.getElem?_eq_getElem _
  obtain ⟨b', e, _, _, hc⟩ := h4 (i * 7 + j) _ ((rowsOf_get fOe_len L i hi j hj).trans gj)
  cases e
  rw [gj]
  exact hc
theorem RtAt.shape (r : RtAt w F h vl m L Fo) : ∃ A c, vl = .slice A L.length c ∧ L.length ≤ c ∧ c ≤ maxLen := by
  obtain ⟨A, c, e, h1, h2, _⟩ := own_look r.row
  exact ⟨A, c, e, h1, h2⟩
end
set_option maxHeartbeats 1000000 in
theorem rfind22_any {w : World} {F : Nat → Prop} {h : Nat} {vl : Value} {m : Tm.Lim} {L : List (Tm.One × Nat)} {Fo : Nat → Nat → Prop} (r : RtAt w F h vl m L Fo) (hL : L.length ≤ 1000) (a b c : Nat) :
    Calls Try.prog 28 #[.pointer (some ⟨h, 0, none⟩), .int .u16 (a : Int), .int .u32 (b : Int), .int .u32 (c : Int)] w fun e w' => e = .returned (.int .i64 (placeI (Tm.find (ones L) (a, b, c)))) ∧ w = w' := by
  obtain ⟨A, cp, rfl, hle, hmx⟩ := r.shape
  have hc3 := r.c3
  have HC := Lib.hid (fun i (hi : i < L.length) => r.cells hi)
  obtain ⟨n, hn⟩ : ∃ n, Hid (L.length = n) := ⟨_, Lib.hid rfl⟩
  unfold maxLen at hmx
  rw [hn.out] at hle hL hc3
  clear r
  go_enter Try.func28, Try.ntmps28
  go_wp2_with fail
  go_loop [9] (fun v => ∃ k : Nat, v = .int .i64 k ∧ k ≤ n ∧ Hid (∀ j, j < k → ∀ hj : j < (ones L).length, ((ones L)[j]).key ≠ (a, b, c))) (fun v => n - (intOf v).toNat)
  case atStart => exact ⟨0, rfl, Nat.zero_le _, Lib.hid (fun j hj => by omega)⟩
  case round =>
    obtain ⟨k, rfl, hk, HP⟩ := hrel
    by_cases hlt : k < n
    · have hkl : k < L.length := by rw [hn.out]; exact hlt
      have hkl' : k < (ones L).length := by rw [ones_len]; exact hkl
      obtain ⟨B, rfl, hB, hcell⟩ := HC.out k hkl
      have h0 := hcell 0 (by omega)
      have h1 := hcell 1 (by omega)
      have h2 := hcell 2 (by omega)
      obtain ⟨o, ho⟩ : ∃ o, Hid (L[k].1 = o) := ⟨_, Lib.hid rfl⟩
      have e0 : (fOe L[k])[0]? = some (.int .u16 (o.sender : Int)) := by rw [← ho.out]; rfl
      have e1 : (fOe L[k])[1]? = some (.int .u32 (o.epoch : Int)) := by rw [← ho.out]; rfl
      have e2 : (fOe L[k])[2]? = some (.int .u32 (o.id : Int)) := by rw [← ho.out]; rfl
      rw [e0, Nat.add_zero] at h0
      rw [e1] at h1
      rw [e2] at h2
      have hko : Hid (((ones L)[k]).key = (o.sender, o.epoch, o.id)) := Lib.hid (by rw [ones_get hkl', ho.out]; rfl)
      have HN : Hid ((o.sender, o.epoch, o.id) ≠ (a, b, c) → ∀ j, j < k + 1 → ∀ hj : j < (ones L).length, ((ones L)[j]).key ≠ (a, b, c)) := Lib.hid (fun hne j hj hjl => by
        rcases Nat.lt_or_ge j k with h | h
        · exact HP.out j h hjl
        · obtain rfl : j = k := by omega
          rw [hko.out]; exact hne)
      clear hcell e0 e1 e2
      by_cases x0 : o.sender = a
      · by_cases x1 : o.epoch = b
        · by_cases x2 : o.id = c
          · have HR := Lib.hid (Tm.find_is (k := (a, b, c)) hkl' (by rw [hko.out, x0, x1, x2]) (fun j hj => HP.out j hj (by omega)))
            rw [x0] at h0
            rw [x1] at h1
            rw [x2] at h2
            clear x0 x1 x2
            go_wp2_with fail
            go_ret
            exact ⟨by rw [HR.out]; rfl, rfl⟩
          · have HQ := Lib.hid (HN.out (fun e => x2 (Prod.mk.inj (Prod.mk.inj e).2).2))
            have hb2 : ((o.id : Int) == (c : Int)) = false := by simp; omega
            rw [x0] at h0
            rw [x1] at h1
            clear x0 x1
            go_wp2_with fail
            go_round
            case rel => exact ⟨k + 1, by go_num, by omega, HQ⟩
            case measure => simp [intOf]; omega
        · have HQ := Lib.hid (HN.out (fun e => x1 (Prod.mk.inj (Prod.mk.inj e).2).1))
          have hb1 : ((o.epoch : Int) == (b : Int)) = false := by simp; omega
          rw [x0] at h0
          clear x0
          go_wp2_with fail
          go_round
          case rel => exact ⟨k + 1, by go_num, by omega, HQ⟩
          case measure => simp [intOf]; omega
      · have HQ := Lib.hid (HN.out (fun e => x0 (Prod.mk.inj e).1))
        have hb0 : ((o.sender : Int) == (a : Int)) = false := by simp; omega
        go_wp2_with fail
        go_round
        case rel => exact ⟨k + 1, by go_num, by omega, HQ⟩
        case measure => simp [intOf]; omega
    · have HR := Lib.hid (Tm.find_not (l := ones L) (k := (a, b, c)) (fun j hj => HP.out j (by rw [ones_len, hn.out] at hj; omega) hj))
      go_wp2_with fail
      go_ret
      exact ⟨by rw [HR.out]; rfl, rfl⟩
end Go.Proofs.Ytkpmlhhoijijhaa
