/- Contracts of layer 21's reference: New, place, Add, Has, Missing, Size, Whole. -/
import Derived.Test.YtkpmlhhoijijhaaPR
import Derived.Test.YtkpmlhhoijijhaaPM
import Derived.Test.YtkpmlhhoijijhaaPA
import Derived.BigQuiet
import Derived.Deep.QuietTactic
namespace Go.Proofs.Ytkpmlhhoijijhaa
open Go.RowKit
set_option linter.unusedVariables false
set_option maxRecDepth 100000
set_option linter.unusedSimpArgs false

/-- the reference's parts in block g, which has the blocks of F -/
structure RpAt (w : World) (F : Nat → Prop) (g : Nat) (vp vb : Value) (s : Pm.S) : Prop where
  whole : Whole w g 77 #[.int .i64 (s.count : Int), vp, vb]
  places : w.ownsRow 0 3 1 vp s.l.length (ints .i64 s.idx)
  bodies : w.ownsRow 0 9 1 vb s.l.length (strs (s.l.map (·.2)))
  self : F g
  fp : ∀ b, vp.ownBlock = some b → F b ∧ b ≠ g
  fb : ∀ b, vb.ownBlock = some b → F b ∧ b ≠ g ∧ vp.ownBlock ≠ some b
  lt : ∀ b, F b → b < w.heap.size
  ok : s.Ok
def Rp (w : World) (F : Nat → Prop) (g : Nat) (s : Pm.S) : Prop := ∃ vp vb, RpAt w F g vp vb s
section
variable {F : Nat → Prop} {g : Nat} {w w' : World} {vp vb : Value} {s : Pm.S}
theorem Rp.keep (h : Rp w F g s) (hk : ∀ b, F b → w'.heap[b]? = w.heap[b]?) : Rp w' F g s := by
  obtain ⟨vp, vb, h⟩ := h
  refine ⟨vp, vb, h.whole.same (hk g h.self), own_same h.places (fun b hb => hk b (h.fp b hb).1), own_same h.bodies (fun b hb => hk b (h.fb b hb).1), h.self, h.fp, h.fb, fun b hb => ?_, h.ok⟩
  have h1 := h.lt b hb
  have h2 := hk b hb
  rcases Nat.lt_or_ge b w'.heap.size with h3 | h3
  · exact h3
  · rw [Array.getElem?_eq_none h3, Array.getElem?_eq_getElem h1] at h2; cases h2
theorem Rp.lt (h : Rp w F g s) : ∀ b, F b → b < w.heap.size := by obtain ⟨vp, vb, h⟩ := h; exact h.lt
theorem Rp.self (h : Rp w F g s) : F g := by obtain ⟨vp, vb, h⟩ := h; exact h.self
theorem Rp.ok (h : Rp w F g s) : s.Ok := by obtain ⟨vp, vb, h⟩ := h; exact h.ok
theorem Rp.drewN (h : Rp w F g s) (n : Nat) : Rp (w.drewN n) F g s := h.keep (fun _ _ => rfl)
/-- .. more blocks are counted as its own -/
theorem Rp.more {G : Nat → Prop} (h : Rp w F g s) (hG : ∀ b, F b → G b) (hl : ∀ b, G b → b < w.heap.size) : Rp w G g s := by
  obtain ⟨vp, vb, h⟩ := h
  exact ⟨vp, vb, h.whole, h.places, h.bodies, hG _ h.self, fun b hb => ⟨hG _ (h.fp b hb).1, (h.fp b hb).2⟩, fun b hb => ⟨hG _ (h.fb b hb).1, (h.fb b hb).2⟩, hl, h.ok⟩
end

/-- what place answers -/
def placeI (o : Option Nat) : Int := match o with
  | some k => (k : Int)
  | none => -1
theorem rplace21_any {F : Nat → Prop} {g : Nat} {w : World} {s : Pm.S} (h : Rp w F g s) (i : Nat) (hi : i ≤ 9223372036854775807) :
    Calls Try.prog 43 #[.pointer (some ⟨g, 0, none⟩), .int .i64 (i : Int)] w fun e w' => e = .returned (.int .i64 (placeI (Pm.place s.idx i))) ∧ w = w' := by
  obtain ⟨vp, vb, h⟩ := h
  have hc1 : w.cell? ⟨g, 1, none⟩ = some vp := h.whole.at_ 1
  have hlen := h.ok.len
  have hmost := h.ok.most
  have HO := Lib.hid h.places
  obtain ⟨n, hn⟩ : ∃ n, Hid (s.l.length = n) := ⟨_, Lib.hid rfl⟩
  have hidx : Hid (s.idx.length = n) := Lib.hid (by rw [← hn.out]; simp [Pm.S.idx])
  rw [hn.out] at HO hlen
  obtain ⟨A, c, rfl, hle, hmax, hnull⟩ := own_look HO.out
  unfold maxLen at hmax
  clear h hnull
  go_enter Try.func43, Try.ntmps43
  go_wp2_with fail
  go_loop [5] (fun v => ∃ k : Nat, v = .int .i64 k ∧ k ≤ n ∧ Hid (∀ j, j < k → ∀ h : j < s.idx.length, s.idx[j] ≠ i)) (fun v => n - (intOf v).toNat)
  case atStart => exact ⟨0, rfl, Nat.zero_le _, Lib.hid (fun j hj => by omega)⟩
  case round =>
    obtain ⟨k, rfl, hk, HP⟩ := hrel
    by_cases hlt : k < n
    · have hki : k < s.idx.length := by rw [hidx.out]; exact hlt
      obtain ⟨b, rfl, hb, hcell⟩ := own_cell' HO.out (ints_get .i64 s.idx k hki)
      have hg : s.idx.getD k 0 = s.idx[k] := by simp [List.getD, List.getElem?_eq_getElem hki]
      rw [hg] at hcell
      by_cases he : s.idx[k] = i
      · have HR := Lib.hid (Pm.place_some hki he HP.out)
        rw [he] at hcell
        clear hg he
        go_wp2_with fail
        go_ret
        exact ⟨by rw [HR.out]; rfl, rfl⟩
      · have HQ : Hid (∀ j, j < k + 1 → ∀ h : j < s.idx.length, s.idx[j] ≠ i) := Lib.hid (fun j hj h => by
          rcases Nat.lt_or_ge j k with h1 | h1
          · exact HP.out j h1 h
          · obtain rfl : j = k := by omega
            exact he)
        obtain ⟨x, hx⟩ : ∃ x, Hid (s.idx[k] = x) := ⟨_, Lib.hid rfl⟩
        rw [hx.out] at hcell he
        have hne : ((x : Int) == (i : Int)) = false := by simp; omega
        clear hg
        go_wp2_with fail
        go_round
        case rel => exact ⟨k + 1, by go_num, by omega, HQ⟩
        case measure => simp [intOf]; omega
    · have HR := Lib.hid (Pm.place_none (l := s.idx) (i := i) (fun j h => HP.out j (by rw [hidx.out] at h; omega) h))
      go_wp2_with fail
      go_ret
      exact ⟨by rw [HR.out]; rfl, rfl⟩

/-- .. place answers no less than 0 just if the part is there -/
theorem placeI_has (s : Pm.S) (i : Nat) : decide (0 ≤ placeI (Pm.place s.idx i)) = s.has i := by
  have h := Pm.place_has s.idx i
  unfold Pm.S.has
  rw [← h]
  cases Pm.place s.idx i with
  | none => rfl
  | some k => simp [placeI]
theorem placeI_bound {s : Pm.S} (h : s.Ok) (i : Nat) : -1 ≤ placeI (Pm.place s.idx i) ∧ placeI (Pm.place s.idx i) ≤ 65535 := by
  cases hp : Pm.place s.idx i with
  | none => simp [placeI]
  | some k =>
    obtain ⟨hk, _⟩ := Pm.at_place hp
    have := h.len
    have := h.most
    simp [placeI]
    omega
theorem rhas21_any {F : Nat → Prop} {g : Nat} {w : World} {s : Pm.S} (h : Rp w F g s) (i : Nat) (hi : i ≤ 9223372036854775807) :
    Calls Try.prog 29 #[.pointer (some ⟨g, 0, none⟩), .int .i64 (i : Int)] w fun e w' => e = .returned (.bool (s.has i)) ∧ w = w' := by
  have P := Lib.hid (rplace21_any h i hi)
  have HD := Lib.hid (placeI_has s i)
  obtain ⟨x, hx⟩ : ∃ x, Hid (placeI (Pm.place s.idx i) = x) := ⟨_, Lib.hid rfl⟩
  rw [hx.out] at P HD
  go_enter Try.func29, Try.ntmps29
  go_wp2_with fail
  refine (P.out).mono ?_
  rintro e w1 ⟨rfl, rfl⟩
  go_wp2_with fail
  go_ret
  exact ⟨by rw [← HD.out]; rfl, rfl⟩
theorem rmissing21_any {F : Nat → Prop} {g : Nat} {w : World} {s : Pm.S} (h : Rp w F g s) :
    Calls Try.prog 44 #[.pointer (some ⟨g, 0, none⟩)] w fun e w' => e = .returned (.int .i64 ((s.count : Int) - (s.l.length : Int))) ∧ ∃ q, w' = w.drewN q := by
  obtain ⟨vp, vb, h⟩ := h
  have hlen := h.ok.len
  have hmost := h.ok.most
  obtain ⟨A, c, rfl, hle, hmax, hnull, _⟩ := own_look h.places
  have hc0 : w.cell? ⟨g, 0, none⟩ = some (.int .i64 (s.count : Int)) := h.whole.at_ 0
  have hc1 : w.cell? ⟨g, 1, none⟩ = some (.slice A s.l.length c) := h.whole.at_ 1
  obtain ⟨n, hn⟩ : ∃ n, Hid (s.l.length = n) := ⟨_, Lib.hid rfl⟩
  obtain ⟨m, hm⟩ : ∃ m, Hid (s.count = m) := ⟨_, Lib.hid rfl⟩
  rw [hn.out] at hlen hc1 ⊢
  rw [hm.out] at hlen hmost hc0 ⊢
  have hw : IntKind.i64.wrap ((m : Int) - (n : Int)) = (m : Int) - (n : Int) := by rw [IntKind.wrap_i64]; omega
  clear h hle hmax hnull
  go_enter Try.func44, Try.ntmps44
  go_wp2_with fail
  go_quiet (fail)
  go_wp2_with fail
  go_ret
  exact ⟨rfl, _, rfl⟩
theorem rsize21_any {F : Nat → Prop} {g : Nat} {w : World} {s : Pm.S} (h : Rp w F g s) (hs : s.size ≤ 1000000000) :
    Calls Try.prog 30 #[.pointer (some ⟨g, 0, none⟩)] w fun e w' => e = .returned (.int .i64 (s.size : Int)) ∧ w = w' := by
  obtain ⟨vp, vb, h⟩ := h
  have hlen := h.ok.len
  have hmost := h.ok.most
  have HO := Lib.hid h.bodies
  have hc2 : w.cell? ⟨g, 2, none⟩ = some vb := h.whole.at_ 2
  have HB := Lib.hid h.ok.byte
  have hsz : Hid (s.size = (s.l.map (fun x => x.2.length)).sum) := Lib.hid rfl
  obtain ⟨z, hz⟩ : ∃ z, Hid (s.size = z) := ⟨_, Lib.hid rfl⟩
  rw [hz.out] at hs hsz ⊢
  obtain ⟨l, hl⟩ : ∃ l, Hid (s.l = l) := ⟨_, Lib.hid rfl⟩
  rw [hl.out] at HO HB hlen hsz
  obtain ⟨n, hn⟩ : ∃ n, Hid (l.length = n) := ⟨_, Lib.hid rfl⟩
  rw [hn.out] at HO hlen
  obtain ⟨A, c, rfl, hle, hmax, hnull, _⟩ := own_look HO.out
  unfold maxLen at hmax
  clear h hnull
  go_enter Try.func30, Try.ntmps30
  go_wp2_with fail
  go_loop [3, 4] (fun u v => ∃ k q : Nat, v = .int .i64 k ∧ u = .int .i64 q ∧ k ≤ n ∧ Hid (q = ((l.take k).map (fun x => x.2.length)).sum)) (fun _ v => n - (intOf v).toNat)
  case atStart => exact ⟨0, 0, rfl, rfl, Nat.zero_le _, Lib.hid (by simp)⟩
  case round =>
    obtain ⟨k, q, rfl, rfl, hk, HP⟩ := hrel
    by_cases hlt : k < n
    · have hkl : k < l.length := by rw [hn.out]; exact hlt
      obtain ⟨b, rfl, hb, hcell⟩ := own_cell' HO.out (strs_get (i := k) (ps := l.map (·.2)) (by simpa using hkl))
      rw [List.getElem_map] at hcell
      have hss : (strOf l[k].2).size = l[k].2.length := strOf_size _
      have HQ : Hid (q + l[k].2.length = ((l.take (k + 1)).map (fun x => x.2.length)).sum) := Lib.hid (by
        rw [HP.out, List.take_succ_eq_append_getElem hkl, List.map_append, List.sum_append]; simp)
      have hle2 : Hid (q + l[k].2.length ≤ z) := Lib.hid (by
        rw [HQ.out, List.map_take, hsz.out]; exact Pm.sum_take_le _ _)
      obtain ⟨y, hy⟩ : ∃ y, Hid (l[k].2.length = y) := ⟨_, Lib.hid rfl⟩
      rw [hy.out] at hss HQ hle2
      have hle3 : q + y ≤ z := hle2.out
      obtain ⟨t, ht⟩ : ∃ t, Hid (strOf l[k].2 = t) := ⟨_, Lib.hid rfl⟩
      rw [ht.out] at hss hcell
      have hw : IntKind.i64.wrap ((q : Int) + (y : Int)) = ((q + y : Nat) : Int) := by rw [IntKind.wrap_i64]; omega
      go_wp2_with fail
      go_round
      case rel => exact ⟨k + 1, q + y, by go_num, rfl, by omega, HQ⟩
      case measure => simp [intOf]; omega
    · obtain rfl : k = n := by omega
      have HR : Hid (q = z) := Lib.hid (by rw [HP.out, hsz.out, List.take_of_length_le (by rw [hn.out]; exact Nat.le_refl _)])
      go_wp2_with fail
      go_ret
      exact ⟨by rw [HR.out]; rfl, rfl⟩
/-- one more -/
theorem Rp.snoc {F : Nat → Prop} {g : Nat} {w w1 w2 w3 w4 : World} {vp vb vp' vb' : Value} {s : Pm.S} {i : Nat} {b : List Nat} {n : Nat} (h : RpAt w F g vp vb s) (hi : i < s.count) (hh : s.has i = false) (hb : ∀ y ∈ b, y < 256) (hn : s.l.length = n)
    (hw1 : Below w.heap.size w w1) (ho1 : w2.ownsRow 0 3 1 vp' (n + 1) (ints .i64 s.idx ++ [.int .i64 (i : Int)])) (hg1 : w1.grownBy w2 vp.ownBlock) (hv1 : vp'.ownBlock = vp.ownBlock ∨ vp'.ownBlock = some w1.heap.size)
    (hw3 : Below w2.heap.size (w2.setCell ⟨g, 1, none⟩ vp') w3) (ho2 : w4.ownsRow 0 9 1 vb' (n + 1) (strs (s.l.map (·.2)) ++ [.string (strOf b)])) (hg2 : w3.grownBy w4 vb.ownBlock) (hv2 : vb'.ownBlock = vb.ownBlock ∨ vb'.ownBlock = some w3.heap.size)
    (hW : Whole w4 g 77 #[.int .i64 (s.count : Int), vp', vb]) :
    Rp (w4.setCell ⟨g, 2, none⟩ vb') (Wide F w (w4.setCell ⟨g, 2, none⟩ vb')) g (s.add i b) ∧ Foot F w (w4.setCell ⟨g, 2, none⟩ vb') := by
  have hz1 := hw1.size
  have hz2 := hg1.size
  have hz3 := hw3.size
  have hz4 := hg2.size
  have e0 : (w2.setCell ⟨g, 1, none⟩ vp').heap.size = w2.heap.size := by simp [World.setCell]
  have e4 : (w4.setCell ⟨g, 2, none⟩ vb').heap.size = w4.heap.size := by simp [World.setCell]
  have hgl := h.lt g h.self
  have hFt : Foot F w (w4.setCell ⟨g, 2, none⟩ vb') := by
    have f1 : Foot F w w2 := (Foot.of_below (F := F) hw1).grown hg1 (fun k hk _ => (h.fp k hk).1)
    have f2 : Foot F w (w2.setCell ⟨g, 1, none⟩ vp') := f1.setCell 1 _ h.self
    have f3 : Foot F w w3 := f2.trans (Foot.of_below (F := F) (by rw [e0]; exact hw3)) (fun _ _ q => q)
    exact (f3.grown hg2 (fun k hk _ => (h.fb k hk).1)).setCell 2 _ h.self
  have hin : ∀ k, (∃ v : Value, v.ownBlock = some k ∧ (v = vp' ∨ v = vb')) → Wide F w (w4.setCell ⟨g, 2, none⟩ vb') k := fun k ⟨v, hk, hv⟩ => by
    rcases hv with rfl | rfl
    · rcases hv1 with e | e
      · rw [e] at hk; exact .inl (h.fp k hk).1
      · rw [e] at hk; injection hk with hk
        have := (ho1.lt k (by rw [e, hk])).2
        exact .inr ⟨by omega, by omega⟩
    · rcases hv2 with e | e
      · rw [e] at hk; exact .inl (h.fb k hk).1
      · rw [e] at hk; injection hk with hk
        have := (ho2.lt k (by rw [e, hk])).2
        exact .inr ⟨by omega, by omega⟩
  have hpg : ∀ k, vp'.ownBlock = some k → k ≠ g := fun k hk => by
    rcases hv1 with e | e
    · rw [e] at hk; exact (h.fp k hk).2
    · rw [e] at hk; injection hk with hk; omega
  have hbg : ∀ k, vb'.ownBlock = some k → k ≠ g := fun k hk => by
    rcases hv2 with e | e
    · rw [e] at hk; exact (h.fb k hk).2.1
    · rw [e] at hk; injection hk with hk; omega
  have hpb : ∀ k, vb.ownBlock = some k → vp'.ownBlock ≠ some k := fun k hk q => by
    have hk' := (h.fb k hk)
    have hl := h.lt k hk'.1
    rcases hv1 with e | e
    · rw [e] at q; exact hk'.2.2 q
    · rw [e] at q; injection q with q; omega
  refine ⟨⟨vp', vb', ?_, ?_, ?_, .inl h.self, fun k hk => ⟨hin k ⟨vp', hk, .inl rfl⟩, hpg k hk⟩, fun k hk => ⟨hin k ⟨vb', hk, .inr rfl⟩, hbg k hk, fun q => ?_⟩, ?_, h.ok.add hi hh hb⟩, hFt⟩
  · show Whole _ g 77 #[.int .i64 (s.count : Int), vp', vb']
    have := hW.put 2 vb'
    simpa using this
  · have e1 : ints .i64 s.idx ++ [.int .i64 (i : Int)] = ints .i64 (s.add i b).idx := by simp [ints, Pm.S.idx, Pm.S.add]
    rw [show (s.add i b).l.length = n + 1 by simp [Pm.S.add, hn], ← e1]
    refine own_same ho1 (fun k hk => ?_)
    have hk2 := (ho1.lt k hk).2
    rw [Below.heap_setCell _ _ _ _ (by exact hpg k hk), hg2.block k (by omega) (fun e => hpb k e.symm hk), hw3.block k hk2, Below.heap_setCell _ _ _ _ (by exact hpg k hk)]
  · have e1 : strs (s.l.map (·.2)) ++ [.string (strOf b)] = strs ((s.add i b).l.map (·.2)) := by simp [strs, Pm.S.add]
    rw [show (s.add i b).l.length = n + 1 by simp [Pm.S.add, hn], ← e1]
    exact own_same ho2 (fun k hk => Below.heap_setCell _ _ _ _ (by exact hbg k hk))
  · rcases hv2 with e | e
    · rw [e] at hk; exact hpb k hk q
    · rw [e] at hk; injection hk with hk
      have := (ho1.lt k q).2
      omega
  · intro k hk
    rcases hk with hk | hk
    · have := h.lt k hk; omega
    · exact hk.2
set_option maxHeartbeats 1000000 in
theorem radd21_any {F : Nat → Prop} {g : Nat} {w : World} {s : Pm.S} (h : Rp w F g s) (z : Int) (h1 : -9223372036854775808 ≤ z) (h2 : z ≤ 9223372036854775807) {t : ByteArray} {b : List Nat} (T : Txt t b) :
    Calls Try.prog 32 #[.pointer (some ⟨g, 0, none⟩), .int .i64 z, .string t] w fun e w' => e = .returned (.int .i64 (s.err z : Int)) ∧ Rp w' (Wide F w w') g (s.put z b) ∧ Foot F w w' := by
  have hstay : Rp w (Wide F w w) g s := h.more (fun b hb => .inl hb) (fun b hb => by
    rcases hb with hb | hb
    · exact h.lt b hb
    · omega)
  have HST := Lib.hid hstay
  have hmost := h.ok.most
  have hc0 : w.cell? ⟨g, 0, none⟩ = some (.int .i64 (s.count : Int)) := by obtain ⟨vp, vb, h⟩ := h; exact h.whole.at_ 0
  by_cases hz : z < 0
  · have he : s.err z = 1 := by unfold Pm.S.err; rw [if_pos (.inl hz)]
    have hp : s.put z b = s := by unfold Pm.S.put; rw [if_neg (by rw [he]; omega)]
    have hd : decide (z < 0) = true := by simpa using hz
    rw [he, hp]
    clear h he hp
    go_enter Try.func32, Try.ntmps32
    go_wp2_with fail
    go_ret
    exact ⟨rfl, HST.out, Foot.refl _ _⟩
  obtain ⟨i, rfl⟩ : ∃ i : Nat, z = (i : Int) := ⟨z.toNat, by omega⟩
  have hd : decide ((i : Int) < 0) = false := decide_eq_false (by omega)
  by_cases hi : i < s.count
  case neg =>
    have he : s.err i = 1 := by unfold Pm.S.err; rw [if_pos (.inr (by omega))]
    have hp : s.put i b = s := by unfold Pm.S.put; rw [if_neg (by rw [he]; omega)]
    have hi' : s.count ≤ i := by omega
    rw [he, hp]
    obtain ⟨m, hm⟩ : ∃ m, Hid (s.count = m) := ⟨_, Lib.hid rfl⟩
    rw [hm.out] at hc0 hi'
    clear h he hp hi hz
    go_enter Try.func32, Try.ntmps32
    go_wp2_with fail
    go_ret
    exact ⟨rfl, HST.out, Foot.refl _ _⟩
  have P := Lib.hid (rplace21_any h i (by omega))
  have HD := placeI_has s i
  have HBD := placeI_bound h.ok i
  obtain ⟨x, hx⟩ : ∃ x, Hid (placeI (Pm.place s.idx i) = x) := ⟨_, Lib.hid rfl⟩
  rw [hx.out] at P HD HBD
  obtain ⟨HB0, HB1⟩ := HBD
  cases hh : s.has i with
  | true =>
    have he : s.err i = 12 := by unfold Pm.S.err; rw [if_neg (by omega), if_pos (by simpa using hh)]
    have hp : s.put i b = s := by unfold Pm.S.put; rw [if_neg (by rw [he]; omega)]
    rw [hh] at HD
    have hx0 : 0 ≤ x := by simpa using HD
    rw [he, hp]
    clear h he hp hz
    obtain ⟨m, hm⟩ : ∃ m, Hid (s.count = m) := ⟨_, Lib.hid rfl⟩
    rw [hm.out] at hc0 hi
    go_enter Try.func32, Try.ntmps32
    go_wp2_with fail
    refine (P.out).mono ?_
    rintro e w1 ⟨rfl, rfl⟩
    go_wp2_with fail
    go_ret
    exact ⟨rfl, HST.out, Foot.refl _ _⟩
  | false =>
    have he : s.err i = 0 := by unfold Pm.S.err; rw [if_neg (by omega), if_neg (by simp [hh])]
    have hp : s.put i b = s.add i b := by unfold Pm.S.put; rw [if_pos he, Int.toNat_natCast]
    rw [hh] at HD
    have hx0 : ¬ 0 ≤ x := by simpa using HD
    rw [he, hp]
    obtain ⟨vp, vb, h⟩ := h
    have hlen := h.ok.len
    have HSN := Lib.hid (fun w1 w2 w3 w4 vp' vb' n hn a1 a2 a3 a4 a5 a6 a7 a8 a9 => Rp.snoc (w1 := w1) (w2 := w2) (w3 := w3) (w4 := w4) (vp' := vp') (vb' := vb') (n := n) h hi hh T.byte hn a1 a2 a3 a4 a5 a6 a7 a8 a9)
    have hstr : Hid (t = strOf b) := Lib.hid T.str
    have HP := Lib.hid h.places
    have HBo := Lib.hid h.bodies
    have HW := Lib.hid h.whole
    have hfp := Lib.hid h.fp
    have hfb := Lib.hid h.fb
    have hgl := h.lt g h.self
    obtain ⟨n, hn⟩ : ∃ n, Hid (s.l.length = n) := ⟨_, Lib.hid rfl⟩
    rw [hn.out] at HP HBo hlen
    obtain ⟨m, hm⟩ : ∃ m, Hid (s.count = m) := ⟨_, Lib.hid rfl⟩
    rw [hm.out] at hc0 hi HW hlen hmost
    obtain ⟨Ap, cp, rfl, hp1, hp2, hp3, _⟩ := own_look HP.out
    obtain ⟨Ab, cb, rfl, hb1, hb2, hb3, _⟩ := own_look HBo.out
    have hc1 : w.cell? ⟨g, 1, none⟩ = some (.slice Ap n cp) := h.whole.at_ 1
    have hf1 : ∀ W, Whole W g 77 #[.int .i64 (m : Int), .slice Ap n cp, .slice Ab n cb] → W.cell? ⟨g, 1, none⟩ = some (.slice Ap n cp) ∧ W.frozen? ⟨g, 1, none⟩ = false := fun W hW => ⟨hW.at_ 1, hW.free 1⟩
    have HF1 := Lib.hid hf1
    clear h he hp hz hp1 hp2 hp3 hb1 hb2 hb3 hf1
    go_enter Try.func32, Try.ntmps32
    go_wp2_with fail
    refine (P.out).mono ?_
    rintro e w1 ⟨rfl, rfl⟩
    go_wp2_with (at_builtin; first
      | ((refine wpList_append_cells intT.under intT.info rfl (by decide) (by decide) _ _ rfl rfl 0 (.slice Ap n cp) n (ints .i64 s.idx) rfl (HP.out.alloc _) 1 1 [Value.int .i64 (i : Int)] rfl rfl (fun h => by cases h) (by decide) (src_one _ _ _) (fun u hu => by simp at hu; subst hu; rfl) (by omega) (Nat.zero_le _) ?_)
         intro vp' w2 hr1 hg1 hv1
         obtain ⟨Ap', cp', rfl, _, _, _, _⟩ := own_look hr1
         have hz2 := hg1.size
         have hW2 : Whole w2 g 77 #[.int .i64 (m : Int), .slice Ap n cp, .slice Ab n cb] := (HW.out.alloc _).same (hg1.block g (by simp; omega) (fun e => (hfp.out g e.symm).2 rfl))
         have hW3 := hW2.put 1 (.slice Ap' (n + 1) cp')
         have HW3 := Lib.hid hW3
         obtain ⟨hcc1, hff1⟩ := HF1.out w2 hW2
         have hcc2 : (w2.setCell ⟨g, 1, none⟩ (.slice Ap' (n + 1) cp')).cell? ⟨g, 2, none⟩ = some (.slice Ab n cb) := hW3.at_ 2
         have HO2 : Hid ((w2.setCell ⟨g, 1, none⟩ (.slice Ap' (n + 1) cp')).ownsRow 0 9 1 (.slice Ab n cb) n (strs (s.l.map (·.2)))) := Lib.hid (own_same HBo.out (fun k hk => by
           obtain ⟨q1, q2, q3⟩ := hfb.out k hk
           have hkl := (HBo.out.lt k hk).2
           rw [Below.heap_setCell _ _ _ _ q2, hg1.block k (by simp; omega) (fun e => q3 e.symm), Below.heap_alloc _ _ _ hkl]))
         have HS2 : Hid (Src ((w2.setCell ⟨g, 1, none⟩ (.slice Ap' (n + 1) cp')).alloc (.cells #[Value.string t] 9)) (some ⟨w2.heap.size, 0, none⟩) [Value.string t]) := Lib.hid (by
           have := src_one (w2.setCell ⟨g, 1, none⟩ (.slice Ap' (n + 1) cp')) (Value.string t) 9
           rwa [World.size_setCell] at this)
         have HR1 := Lib.hid hr1
         have HG1 := Lib.hid hg1
         have HV1 := Lib.hid hv1
         clear hr1 hg1 hv1 hW2 hW3)
      | ((refine wpList_append_cells strT.under strT.info rfl (by decide) (by decide) _ _ rfl rfl 0 (.slice Ab n cb) n (strs (List.map (fun x : Nat × List Nat => x.2) s.l)) rfl (HO2.out.alloc _) 1 1 [Value.string t] rfl rfl (fun h => by cases h) (by decide) HS2.out (fun u hu => by simp at hu; subst hu; rfl) (by omega) (Nat.zero_le _) ?_)
         intro vb' w4 hr2 hg2 hv2
         refine held_in ?_))
    obtain ⟨Ab', cb', rfl, _, _, _, _⟩ := own_look hr2
    have hz4 := hg2.size
    have hW4 : Whole w4 g 77 #[.int .i64 (m : Int), .slice Ap' (n + 1) cp', .slice Ab n cb] := (HW3.out.alloc _).same (hg2.block g (by rw [World.size_alloc, World.size_setCell]; rw [World.size_alloc] at hz2; omega) (fun e => (hfb.out g e.symm).2.1 rfl))
    have hcc3 : w4.cell? ⟨g, 2, none⟩ = some (.slice Ab n cb) := hW4.at_ 2
    have hff3 : w4.frozen? ⟨g, 2, none⟩ = false := hW4.free 2
    have HR2 := Lib.hid hr2
    have HG2 := Lib.hid hg2
    have HV2 := Lib.hid hv2
    have HW4 := Lib.hid hW4
    clear hr2 hg2 hv2 hW4
    refine held_out ?_
    go_wp2_with fail
    go_ret
    obtain ⟨r1, r2⟩ := HSN.out _ _ _ _ _ _ n hn.out ((Below.refl _ _).alloc (Nat.le_refl _) _) HR1.out HG1.out HV1.out (Below.alloc (Below.refl _ _) (by rw [World.size_setCell]; exact Nat.le_refl _) _) (by rw [← hstr.out]; exact HR2.out) HG2.out HV2.out (by rw [hm.out]; exact HW4.out)
    exact ⟨rfl, r1, r2⟩
theorem Pm.S.Ok.full_iff {s : Pm.S} (h : s.Ok) : s.full = decide (¬ (0 : Int) < (s.count : Int) - (s.l.length : Int)) := by
  have := h.len
  unfold Pm.S.full
  by_cases hc : s.l.length = s.count
  · rw [decide_eq_true hc, decide_eq_true (by omega)]
  · rw [decide_eq_false hc, decide_eq_false (by omega)]
/-- what Whole answers -/
def Pm.S.told (s : Pm.S) : List Nat := if s.full then s.whole else []
set_option maxHeartbeats 1000000 in
theorem rwhole21_any {F : Nat → Prop} {g : Nat} {w : World} {s : Pm.S} (h : Rp w F g s) (hs : s.size ≤ 1000000000) :
    Calls Try.prog 33 #[.pointer (some ⟨g, 0, none⟩)] w fun e w' => e = .returned (.tuple #[.string (strOf s.told), .bool s.full]) ∧ ∃ q, w' = w.drewN q := by
  have M := Lib.hid (rmissing21_any h)
  have hlen := h.ok.len
  have hmost := h.ok.most
  have hfi := h.ok.full_iff
  have H := Lib.hid h
  by_cases hc : s.l.length = s.count
  case neg =>
    have hf : s.full = false := by unfold Pm.S.full; rw [decide_eq_false hc]
    have ht : s.told = [] := by unfold Pm.S.told; rw [hf]; rfl
    rw [hf, ht]
    obtain ⟨n, hn⟩ : ∃ n, Hid (s.l.length = n) := ⟨_, Lib.hid rfl⟩
    obtain ⟨m, hm⟩ : ∃ m, Hid (s.count = m) := ⟨_, Lib.hid rfl⟩
    rw [hn.out, hm.out] at M hlen hc
    have hpos : (0 : Int) < (m : Int) - (n : Int) := by omega
    clear h hfi hf ht
    go_enter Try.func33, Try.ntmps33
    go_wp2_with fail
    refine (M.out).mono ?_
    rintro e w1 ⟨rfl, q, rfl⟩
    go_wp2_with fail
    go_ret2
    exact ⟨rfl, _, rfl⟩
  have hf : s.full = true := by unfold Pm.S.full; rw [decide_eq_true hc]
  have ht : s.told = s.whole := by unfold Pm.S.told; rw [hf]; rfl
  rw [hf, ht]
  rw [hc] at M
  have HAll := Lib.hid (fun i hi => h.ok.all (i := i) hc hi)
  have HFB := Lib.hid h.ok.first_byte
  have HFL := Lib.hid (fun k => Pm.S.first_le s k)
  have HFA := Lib.hid s.first_all
  have HAT := Lib.hid h.ok.at_byte
  have HAL := Lib.hid (fun i => Pm.S.at_le s i)
  have HFS := Lib.hid (fun k => Pm.S.first_succ s k)
  obtain ⟨z, hz⟩ : ∃ z, Hid (s.size = z) := ⟨_, Lib.hid rfl⟩
  rw [hz.out] at hs HFL HAL
  have HC : Hid (∀ q, (w.drewN q).cell? ⟨g, 0, none⟩ = some (.int .i64 (s.count : Int)) ∧ ∃ vb, (w.drewN q).cell? ⟨g, 2, none⟩ = some vb ∧ w.ownsRow 0 9 1 vb s.l.length (strs (s.l.map (·.2)))) := Lib.hid (fun q => by
    obtain ⟨vp, vb, h⟩ := h
    exact ⟨h.whole.at_ 0, vb, h.whole.at_ 2, h.bodies⟩)
  have HP : Hid (∀ i, i < s.count → ∀ q, Calls Try.prog 43 #[.pointer (some ⟨g, 0, none⟩), .int .i64 (i : Int)] (w.drewN q) fun e w' => e = .returned (.int .i64 (placeI (Pm.place s.idx i))) ∧ w' = w.drewN q) := Lib.hid (fun i hi q =>
    (rplace21_any (H.out.drewN q) i (by omega)).mono fun _ _ ⟨h1, h2⟩ => ⟨h1, h2.symm⟩)
  obtain ⟨m, hm⟩ : ∃ m, Hid (s.count = m) := ⟨_, Lib.hid rfl⟩
  rw [hm.out] at M hlen hmost HC HP HAll HFA
  have hpos : ¬ (0 : Int) < (m : Int) - (m : Int) := by omega
  clear h hfi hf ht hc
  go_enter Try.func33, Try.ntmps33
  go_wp2_with fail
  refine (M.out).mono ?_
  rintro e w1 ⟨rfl, q, rfl⟩
  go_wp2_with fail
  go_loopw [4, 5] (fun u v wr => ∃ (k q : Nat) (t : ByteArray), v = .int .i64 k ∧ u = .string t ∧ k ≤ m ∧ Hid (t = strOf (s.first k)) ∧ Hid (wr = w.drewN q)) (fun _ v _ => m - (intOf v).toNat)
  case atStart => exact ⟨0, _, _, rfl, rfl, Nat.zero_le _, Lib.hid rfl, Lib.hid rfl⟩
  case round =>
    obtain ⟨k, q, t, rfl, rfl, hk, HT, HQ⟩ := hrel
    obtain ⟨hc0, vb, hc2, ho⟩ := HC.out q
    rw [← HQ.out] at hc0 hc2
    by_cases hlt : k < m
    · have hin := HAll.out k hlt
      obtain ⟨j, hj⟩ : ∃ j, Hid (Pm.place s.idx k = some j) := by
        have := Pm.place_has s.idx k
        rw [List.contains_iff_mem.2 hin] at this
        obtain ⟨j, hj⟩ := Option.isSome_iff_exists.1 this
        exact ⟨j, hj⟩
      obtain ⟨hjl, hja⟩ := Pm.at_place hj.out
      have P : Hid (∀ i, Calls Try.prog 43 #[.pointer (some ⟨g, 0, none⟩), .int .i64 (k : Int)] (wr.drewN i) fun e w' => e = .returned (.int .i64 (j : Int)) ∧ w' = wr.drewN i) := Lib.hid (fun i => by
        have := HP.out k hlt (q + i)
        rw [hj.out] at this
        rw [HQ.out, World.drewN_drewN]
        exact this)
      have hoc := strs_get (ps := s.l.map (·.2)) (i := j) (by simpa using hjl)
      rw [List.getElem_map, ← hja] at hoc
      obtain ⟨A, c, rfl, hle, hmax, hnull, _⟩ := own_look ho
      obtain ⟨b, rfl, hb, hcell⟩ := own_cell' ho hoc
      have hcell : wr.cell? ⟨b, j, none⟩ = some (.string (strOf (s.at_ k))) := by rw [HQ.out]; exact hcell
      have hts : t.size = (s.first k).length := by rw [HT.out, strOf_size]
      have hus : (strOf (s.at_ k)).size = (s.at_ k).length := strOf_size _
      have hl1 := HFL.out k
      have hl2 := HAL.out k
      have hl3 : k * z ≤ 65535 * 1000000000 := Nat.mul_le_mul (by omega) hs
      have HN : Hid (t ++ strOf (s.at_ k) = strOf (s.first (k + 1))) := Lib.hid (by rw [HT.out, HFS.out, strOf_append])
      obtain ⟨n, hn⟩ : ∃ n, Hid (s.l.length = n) := ⟨_, Lib.hid rfl⟩
      rw [hn.out] at hc2 hjl hle
      obtain ⟨x, hx⟩ : ∃ x, Hid (strOf (s.at_ k) = x) := ⟨_, Lib.hid rfl⟩
      rw [hx.out] at hcell HN hus
      have hjo : ¬ 9223372036854775807 < t.size + x.size := by omega
      unfold maxLen at hmax
      clear hts hus hl1 hl2 hl3 hnull hoc hja ho
      go_wp2_with fail
      go_quiet (with_reducible exact Calls.quiet_of_same (P.out _))
      go_wp2_with fail
      go_roundw
      case rel => exact ⟨k + 1, q + _, _, by go_num, rfl, by omega, HN, Lib.hid (by rw [HQ.out, World.drewN_drewN])⟩
      case measure => simp [intOf]; omega
    · obtain rfl : k = m := by omega
      go_wp2_with fail
      go_ret2
      exact ⟨by rw [HT.out, HFA.out]; rfl, q, HQ.out⟩
end Go.Proofs.Ytkpmlhhoijijhaa
