/- Contracts of the law's room and Large of layer 11; small trees. -/
import Derived.Test.YtphanlkobkkgfaaRtree11
namespace Go.Proofs.Ytphanlkobkkgfaa
open Go.RowKit
set_option linter.unusedVariables false
set_option maxRecDepth 100000
set_option linter.unusedSimpArgs false
namespace Tn
mutual
def room : Tn → Nat → Int → Int
  | .mk _ _ s keys kids, level, left => if left < 1 ∨ 20 < level ∨ 300 < s.size ∨ 20 < keys.length ∨ 20 < kids.length ∨ ¬ (∀ k ∈ keys, k.size ≤ 300) then -1 else rooms kids (level + 1) (left - 1)
def rooms : List Tn → Nat → Int → Int
  | [], _, left => left
  | t :: ts, level, left => if room t level left < 0 then -1 else rooms ts level (room t level left)
end
mutual
theorem room_bound : ∀ (t : Tn) (level : Nat) (left : Int), -1 ≤ left → -1 ≤ room t level left ∧ room t level left ≤ left
  | .mk k n s keys kids, level, left, h => by
    rw [room]
    split
    · omega
    · rename_i h1
      have := rooms_bound kids (level + 1) (left - 1) (by omega)
      omega
theorem rooms_bound : ∀ (l : List Tn) (level : Nat) (left : Int), -1 ≤ left → -1 ≤ rooms l level left ∧ rooms l level left ≤ left
  | [], level, left, h => by rw [rooms]; omega
  | t :: l, level, left, h => by
    rw [rooms]
    have h1 := room_bound t level left h
    split
    · omega
    · have := rooms_bound l level (room t level left) (by omega)
      omega
end
/-- no text and no list in it is long -/
inductive Lim : Tn → Prop
  | mk {t : Tn} (hs : t.s.size ≤ 300) (hk : t.keys.length ≤ 20) (hq : t.kids.length ≤ 20) (hx : ∀ k ∈ t.keys, k.size ≤ 300) (hl : ∀ u ∈ t.kids, Lim u) : Lim t
mutual
theorem room_lim : ∀ (t : Tn) (level : Nat) (left : Int), 0 ≤ room t level left → Lim t ∧ level + t.depth ≤ 21
  | .mk k n s keys kids, level, left, h => by
    rw [room] at h
    split at h
    · omega
    · rename_i h1
      have hx : ∀ k ∈ keys, k.size ≤ 300 := by
        refine Classical.byContradiction fun hn => h1 (.inr (.inr (.inr (.inr (.inr hn)))))
      have h2 := rooms_lim kids (level + 1) (left - 1) (by omega) h
      refine ⟨.mk (show s.size ≤ 300 by omega) (show keys.length ≤ 20 by omega) (show kids.length ≤ 20 by omega) hx h2.1, ?_⟩
      rw [depth]
      omega
theorem rooms_lim : ∀ (l : List Tn) (level : Nat) (left : Int), level ≤ 21 → 0 ≤ rooms l level left → (∀ t ∈ l, Lim t) ∧ level + depths l ≤ 21
  | [], level, left, hv, h => by rw [depths]; exact ⟨fun t ht => absurd ht (by simp), by omega⟩
  | t :: l, level, left, hv, h => by
    rw [rooms] at h
    split at h
    · omega
    · rename_i h1
      have h2 := room_lim t level left (by omega)
      have h3 := rooms_lim l level _ hv h
      refine ⟨fun u hu => ?_, by rw [depths]; omega⟩
      rcases List.mem_cons.1 hu with rfl | hu
      · exact h2.1
      · exact h3.1 u hu
end
variable {t : Tn} {level : Nat} {left : Int}
theorem room_none (h : left < 1 ∨ 20 < level ∨ 300 < t.s.size ∨ 20 < t.keys.length ∨ 20 < t.kids.length ∨ ¬ (∀ k ∈ t.keys, k.size ≤ 300)) : t.room level left = -1 := by
  obtain ⟨k, n, s, keys, kids⟩ := t
  rw [room]
  exact if_pos h
theorem room_some (h1 : ¬ left < 1) (h2 : ¬ 20 < level) (h3 : ¬ 300 < t.s.size) (h4 : ¬ 20 < t.keys.length) (h5 : ¬ 20 < t.kids.length) (h6 : ∀ k ∈ t.keys, k.size ≤ 300) : t.room level left = rooms t.kids (level + 1) (left - 1) := by
  obtain ⟨k, n, s, keys, kids⟩ := t
  rw [room]
  exact if_neg (fun h => by
    rcases h with h | h | h | h | h | h
    · exact h1 h
    · exact h2 h
    · exact h3 h
    · exact h4 h
    · exact h5 h
    · exact h h6)
theorem rooms_drop {l : List Tn} {i : Nat} (h : i < l.length) : rooms (l.drop i) level left = if l[i].room level left < 0 then -1 else rooms (l.drop (i + 1)) level (l[i].room level left) := by
  rw [List.drop_eq_getElem_cons h, rooms]
end Tn

set_option maxHeartbeats 4000000 in
theorem room11_any (k : Nat) : ∀ (t : Tn), SizeOf.sizeOf t < k → ∀ (level : Nat) (left : Int), level ≤ 21 → -1 ≤ left → left ≤ 400 → ∀ {w : World} {B : Nat} {vk vq : Value}, Tv w B t vk vq →
    Calls Try.prog 14 #[tval t vk vq, .int .i64 (level : Int), .int .i64 left] w fun e w' => e = .returned (.int .i64 (t.room level left)) ∧ Below w.heap.size w w' := by
  induction k with
  | zero => intro t h; omega
  | succ k ih =>
    intro t hk level left hv hl1 hl2 w B vk vq H
    obtain ⟨b, w1, hs, hal, hT, hb1⟩ := boxedT H
    have HT := Lib.hid hT
    have HB1 := Lib.hid hb1
    have hbw := hT.lt
    obtain ⟨c0, c1, c2, c3, c4⟩ := hT.cells
    obtain ⟨A, c, rfl, h1, h2, _, K, Q, hK⟩ := hT.tv.kids
    have HK := Lib.hid hK
    obtain ⟨Ak, ck, rfl, hSk⟩ := hT.tv.keys
    have HSk := Lib.hid hSk.1
    have hsk := hSk.2
    unfold maxLen at h2 hsk
    obtain ⟨hsk1, hsk2, _, hsk4⟩ := hsk
    have HSZ := Lib.hid hsk4
    have IH := Lib.hid (fun i (hi : i < t.kids.length) (L : Int) {w : World} {B : Nat} {vk vq : Value} (hv : level + 1 ≤ 21) (h1 : -1 ≤ L) (h2 : L ≤ 400) (h : Tv w B t.kids[i] vk vq) => ih t.kids[i] (by have := Tn.kid_lt hi; omega) (level + 1) L hv h1 h2 h)
    have R1 := Lib.hid (fun h => Tn.room_none (t := t) (level := level) (left := left) h)
    have R2 := Lib.hid (fun h1 h2 h3 h4 h5 h6 => Tn.room_some (t := t) (level := level) (left := left) h1 h2 h3 h4 h5 h6)
    have HCt := Lib.hid (fun W (h : Below w1.heap.size w1 W) => (HT.out.keep h).cells)
    have hTn := (HT.out.tv.str : t.s.size ≤ maxLen)
    unfold maxLen at hTn
    obtain ⟨r, hr⟩ : ∃ r, Hid (t.room level left = r) := ⟨_, rfl⟩
    rw [hr.out] at R1 R2 ⊢
    obtain ⟨nk, hnk⟩ : ∃ n, Hid (t.keys.length = n) := ⟨_, rfl⟩
    obtain ⟨n, hn⟩ : ∃ n, Hid (t.kids.length = n) := ⟨_, rfl⟩
    obtain ⟨sz, hsz⟩ : ∃ n, Hid (t.s.size = n) := ⟨_, rfl⟩
    have hsz' := hsz.out
    rw [hnk.out] at c3 hsk1 hal HCt R1 R2 ⊢
    rw [hn.out] at h1 c4 hal HCt R1 R2 ⊢
    rw [hsz.out] at R1 R2 hTn
    unfold tcells at hal
    unfold tval
    clear hT H hK hSk hb1 ih hsk4
    by_cases e0 : left < 1
    case pos =>
      have HR := Lib.hid (R1.out (.inl e0))
      go_enter Try.func14, Try.ntmps14
      go_wp2_with fail
      go_ret
      exact ⟨ret_int (by rw [HR.out]), by first | (rw [hs]; exact HB1.out) | exact HB1.out⟩
    by_cases e1 : 20 < level
    case pos =>
      have HR := Lib.hid (R1.out (.inr (.inl e1)))
      go_enter Try.func14, Try.ntmps14
      go_wp2_with fail
      go_ret
      exact ⟨ret_int (by rw [HR.out]), by first | (rw [hs]; exact HB1.out) | exact HB1.out⟩
    by_cases e2 : 300 < sz
    case pos =>
      have HR := Lib.hid (R1.out (.inr (.inr (.inl e2))))
      go_enter Try.func14, Try.ntmps14
      go_wp2_with fail
      go_ret
      exact ⟨ret_int (by rw [HR.out]), by first | (rw [hs]; exact HB1.out) | exact HB1.out⟩
    by_cases e3 : 20 < nk
    case pos =>
      have HR := Lib.hid (R1.out (.inr (.inr (.inr (.inl e3)))))
      go_enter Try.func14, Try.ntmps14
      go_wp2_with fail
      go_ret
      exact ⟨ret_int (by rw [HR.out]), by first | (rw [hs]; exact HB1.out) | exact HB1.out⟩
    by_cases e4 : 20 < n
    case pos =>
      have HR := Lib.hid (R1.out (.inr (.inr (.inr (.inr (.inl e4))))))
      go_enter Try.func14, Try.ntmps14
      go_wp2_with fail
      go_ret
      exact ⟨ret_int (by rw [HR.out]), by first | (rw [hs]; exact HB1.out) | exact HB1.out⟩
    have R3 := Lib.hid (fun h => R1.out (.inr (.inr (.inr (.inr (.inr h))))))
    have R4 := Lib.hid (fun h => R2.out e0 e1 e2 e3 e4 h)
    clear R1 R2
    go_enter Try.func14, Try.ntmps14
    go_wp2_with fail
    go_loopw [7] (fun vi wr => ∃ (i : Nat), i ≤ nk ∧ vi = .int .i64 i ∧ Hid (∀ j, j < i → ∀ (h : j < t.keys.length), t.keys[j].size ≤ 300) ∧ w1 = wr) (fun vi _ => nk - (intOf vi).toNat)
    case atStart => exact ⟨0, by omega, rfl, Lib.hid (fun j hj => by omega), rfl⟩
    case round =>
      obtain ⟨i, hi, rfl, HX, rfl⟩ := hrel
      by_cases hlt : i < nk
      · have hia : i < t.keys.length := by rw [hnk.out]; exact hlt
        obtain ⟨x1, o1, rfl, _, g1⟩ := HSk.out i hia
        have HS : Hid (t.keys[i].size ≤ 300 → ∀ j, j < i + 1 → ∀ (h : j < t.keys.length), t.keys[j].size ≤ 300) := Lib.hid (fun h j hj hj2 => by
          by_cases e : j = i
          · subst e; exact h
          · exact HX.out j (by omega) hj2)
        have HN : Hid (¬ t.keys[i].size ≤ 300 → r = -1) := Lib.hid (fun h => R3.out (fun hh => h (hh _ (List.getElem_mem hia))))
        have hz := HSZ.out _ (List.getElem_mem hia)
        obtain ⟨p, hp⟩ : ∃ p, Hid (t.keys[i] = p) := ⟨t.keys[i], Lib.hid rfl⟩
        rw [hp.out] at g1 HS HN hz
        obtain ⟨q, hq⟩ : ∃ q, Hid (p.size = q) := ⟨_, rfl⟩
        have hq' := hq.out
        rw [hq'] at HS HN hz
        by_cases e5 : q ≤ 300
        · have HS' := Lib.hid (HS.out e5)
          clear HS HN HX
          go_wp2_with fail
          go_roundw
          case rel => exact ⟨i + 1, by omega, by go_num, HS', by first | trivial | rfl⟩
          case measure => simp [intOf]; omega
        · have HR := Lib.hid (HN.out e5)
          clear HS HN HX
          go_wp2_with fail
          go_ret
          exact ⟨ret_int (by rw [HR.out]), by first | (rw [hs]; exact HB1.out) | exact HB1.out⟩
      · have HR := Lib.hid (R4.out (fun k hk => by
          obtain ⟨j, hj, rfl⟩ := List.mem_iff_getElem.1 hk
          exact HX.out j (by have := hnk.out; omega) hj))
        clear R3 R4 HX
        go_wp2_with fail
        go_loopw [2, 8] (fun v2 v8 wr => ∃ (j : Nat) (L : Int), j ≤ n ∧ v2 = .int .i64 L ∧ v8 = .int .i64 j ∧ 0 ≤ L ∧ L ≤ 400 ∧ Hid (r = Tn.rooms (t.kids.drop j) (level + 1) L) ∧ Hid (Below b w wr) ∧ Hid (Below w1.heap.size w1 wr)) (fun _ vi _ => n - (intOf vi).toNat)
        case atStart => exact ⟨0, left - 1, by omega, by go_num, rfl, by omega, by omega, Lib.hid (by rw [HR.out]; simp), HB1, Lib.hid (Below.refl _ _)⟩
        case round =>
          clear HR
          obtain ⟨j, L, hj, rfl, rfl, hL1, hL2, HR, HB, HC⟩ := hrel
          have d4 := (HCt.out wr HC.out).2.2.2.2
          by_cases hlt2 : j < n
          · have hja : j < t.kids.length := by rw [hn.out]; exact hlt2
            obtain ⟨x1, o1, rfl, hx1, h5, hv'⟩ := HK.out j hja
            have HW : Below b w1 wr := HC.out.mono (Nat.le_of_lt hbw)
            obtain ⟨g0, g1, g2, g3, g4⟩ := h5.below HW hx1
            have HD := Lib.hid (Tn.rooms_drop (level := level + 1) (left := L) hja)
            have CR := Lib.hid (IH.out j hja L (by omega) (by omega) hL2 (hv'.keep HW))
            have hbd := Tn.room_bound t.kids[j] (level + 1) L (by omega)
            obtain ⟨u, hu⟩ : ∃ u, Hid (t.kids[j] = u) := ⟨t.kids[j], Lib.hid rfl⟩
            rw [hu.out] at g0 g1 g2 HD CR hbd
            obtain ⟨x, hx⟩ : ∃ x, Hid (u.room (level + 1) L = x) := ⟨_, rfl⟩
            rw [hx.out] at HD CR hbd
            clear h5 hv' HW
            obtain ⟨hx2, hx3⟩ := hbd
            go_wp2_with fail
            refine (CR.out).mono ?_
            rintro e w4 ⟨rfl, hb4⟩
            have HB4 := Lib.hid (HB.out.trans (hb4.mono (by have := HB.out.size; omega)))
            have HC4 := Lib.hid (HC.out.trans (hb4.mono HC.out.size))
            clear hb4
            by_cases hx0 : x < 0
            · have HR2 : Hid (r = -1) := Lib.hid (by rw [HR.out, HD.out, if_pos hx0])
              clear HD HR
              go_wp2_with fail
              go_ret
              exact ⟨ret_int (by rw [HR2.out]), by first | (rw [hs]; exact HB4.out) | exact HB4.out⟩
            · have HR2 : Hid (r = Tn.rooms (t.kids.drop (j + 1)) (level + 1) x) := Lib.hid (by rw [HR.out, HD.out, if_neg hx0])
              clear HD HR
              go_wp2_with fail
              go_roundw
              case rel => exact ⟨j + 1, x, by omega, rfl, by go_num, by omega, by omega, HR2, HB4, HC4⟩
              case measure => simp [intOf]; omega
          · have hin2 : j = t.kids.length := by rw [hn.out]; omega
            have HR2 : Hid (r = L) := Lib.hid (by rw [HR.out, hin2, List.drop_length]; rfl)
            go_wp2_with fail
            go_ret
            exact ⟨ret_int (by rw [HR2.out]), by first | (rw [hs]; exact HB.out) | exact HB.out⟩

theorem large11_any {t : Tn} {level : Nat} (hv : level ≤ 21) {w : World} {B : Nat} {vk vq : Value} (H : Tv w B t vk vq) :
    Calls Try.prog 7 #[tval t vk vq, .int .i64 (level : Int)] w fun e w' => e = .returned (.bool (decide (t.room level 400 < 0))) ∧ Below w.heap.size w w' := by
  obtain ⟨b, w1, hs, hal, hT, hb1⟩ := boxedT H
  have HB1 := Lib.hid hb1
  have hbw := hT.lt
  obtain ⟨c0, c1, c2, c3, c4⟩ := hT.cells
  have HC := Lib.hid (room11_any (SizeOf.sizeOf t + 1) t (by omega) level 400 hv (by omega) (by omega) hT.tv)
  unfold tcells at hal
  unfold tval at HC
  unfold tval
  clear hT H hb1
  obtain ⟨r, hr⟩ : ∃ r, Hid (t.room level 400 = r) := ⟨_, rfl⟩
  rw [hr.out] at HC ⊢
  go_enter Try.func7, Try.ntmps7
  go_wp2_with fail
  refine (HC.out).mono ?_
  rintro e w3 ⟨rfl, hb3⟩
  have HB3 := Lib.hid (HB1.out.trans (hb3.mono (by omega)))
  clear hb3
  go_wp2_with fail
  go_ret
  exact ⟨rfl, by first | (rw [hs]; exact HB3.out) | exact HB3.out⟩
/-- a tree that is not too large -/
structure Tn.Small (t : Tn) : Prop where
  lim : t.Lim
  deep : t.depth ≤ 20
theorem Tn.small_of {t : Tn} (h : ¬ t.room 1 400 < 0) : t.Small := by
  have := Tn.room_lim t 1 400 (by omega)
  exact ⟨this.1, by omega⟩
end Go.Proofs.Ytphanlkobkkgfaa
