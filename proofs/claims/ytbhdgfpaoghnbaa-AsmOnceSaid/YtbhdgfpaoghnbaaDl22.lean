/- Rows of pointers to messages: what package slices does with them (IndexFunc, DeleteFunc, Clone). -/
import Derived.Test.YtbhdgfpaoghnbaaPM
import Derived.Test.YtbhdgfpaoghnbaaPA
import Derived.Lib.SliceRun
import Derived.Deep.CutRange
namespace Go.Proofs.Ytbhdgfpaoghnbaa
open Go.RowKit
set_option linter.unusedVariables false
set_option maxRecDepth 100000
set_option linter.unusedSimpArgs false

/-- a pointer to a whole block -/
abbrev pt (b : Nat) : Value := .pointer (some ⟨b, 0, none⟩)
def pts (l : List Nat) : List Value := l.map pt
theorem pts_length (l : List Nat) : (pts l).length = l.length := by simp [pts]
theorem pts_get (l : List Nat) (i : Nat) : (pts l)[i]? = l[i]?.map pt := by simp [pts]
theorem pts_append (a b : List Nat) : pts (a ++ b) = pts a ++ pts b := by simp [pts]
theorem pts_one (l : List Nat) : ∀ u ∈ pts l, u.oneCell' = true := fun u hu => by
  obtain ⟨x, _, rfl⟩ := List.mem_map.1 hu
  rfl
/-- the first part of a row -/
theorem own_cut {w : World} {base E n c j : Nat} {A : Option Addr} {xs : List Value} (h : w.ownsRow base E 1 (.slice A n c) n xs) (hj : j ≤ n) : w.ownsRow base E 1 (.slice A j c) j (xs.take j) := by
  obtain ⟨h1, h2⟩ := h
  refine ⟨by rw [List.length_take, h1]; omega, ?_⟩
  rcases h2 with ⟨hv, hn⟩ | ⟨g, cap, cur, hv, hg, hh, hnc, hm, hs, ht⟩
  · subst hn
    obtain rfl : j = 0 := by omega
    injection hv with hv1 hv2 hv3
    subst hv1 hv3
    exact .inl ⟨rfl, rfl⟩
  · injection hv with hv1 hv2 hv3
    subst hv1 hv3
    refine .inr ⟨g, _, cur, rfl, hg, hh, by omega, hm, hs, ?_⟩
    rw [← ht, List.take_take, Nat.min_eq_left (by omega), Nat.mul_one]
/-- some cells of a row are set -/
theorem own_sets {base E g n c : Nat} : ∀ (vs : List Value) (o : Nat) (w : World) (xs : List Value), w.ownsRow base E 1 (.slice (some ⟨g, 0, none⟩) n c) n xs → o + vs.length ≤ n →
    (w.setCells g o vs).ownsRow base E 1 (.slice (some ⟨g, 0, none⟩) n c) n (xs.take o ++ vs ++ xs.drop (o + vs.length)) ∧ w.grownBy (w.setCells g o vs) (some g) ∧ (w.setCells g o vs).heap.size = w.heap.size
  | [], o, w, xs, h, hl => ⟨by simpa [World.setCells] using h, World.grownBy.refl _ _, rfl⟩
  | v :: r, o, w, xs, h, hl => by
    obtain ⟨h1, h2⟩ := h.stored o v
    have hx := h.1
    simp only [List.length_cons] at hl
    obtain ⟨k1, k2, k3⟩ := own_sets r (o + 1) _ _ h1 (by omega)
    refine ⟨?_, ?_, ?_⟩
    · rw [World.setCells]
      have e : (xs.set o v).take (o + 1) ++ r ++ (xs.set o v).drop (o + 1 + r.length) = xs.take o ++ v :: r ++ xs.drop (o + (v :: r).length) := by
        rw [List.take_set, List.drop_set_of_lt (by omega), List.take_succ_eq_append_getElem (by omega), List.set_append_right _ _ (by simp; omega), List.length_take, Nat.min_eq_left (by omega), Nat.sub_self]
        simp only [List.set_cons_zero, List.length_cons, List.append_assoc, List.cons_append, List.nil_append, List.singleton_append]
        rw [show o + 1 + r.length = o + (r.length + 1) by omega]
      rw [← e]; exact k1
    · rw [World.setCells]
      exact ⟨k2.os.trans h2.os, k2.tape.trans h2.tape, k2.output.trans h2.output, Nat.le_trans h2.size k2.size, fun i hi he => (k2.block i (Nat.lt_of_lt_of_le hi h2.size) he).trans (h2.block i hi he)⟩
    · rw [World.setCells, k3, World.size_setCell]

/-- a function value over these pointers: what it says, in each world of Sw -/
def Says (K : Nat) (u : Value) (Sw : World → Prop) (p : Nat → Bool) (ps : List Nat) : Prop :=
  ∀ x ∈ ps, ∀ W, Sw W → Calls Try.prog K #[pt x, u] W fun e w' => e = .returned (.bool (p x)) ∧ ∃ q, w' = W.drewN q
/-- where the first one is -/
def firstI (p : Nat → Bool) (ps : List Nat) : Int := match ps.findIdx? p with
  | some i => (i : Int)
  | none => -1
theorem firstI_none {p : Nat → Bool} {ps : List Nat} (h : ∀ j (hj : j < ps.length), p ps[j] = false) : firstI p ps = -1 := by
  unfold firstI
  rw [List.findIdx?_eq_none_iff.2 (fun x hx => by
    obtain ⟨j, hj, rfl⟩ := List.getElem_of_mem hx
    exact h j hj)]
theorem firstI_some {p : Nat → Bool} {ps : List Nat} {i : Nat} (hi : i < ps.length) (h1 : p ps[i] = true) (h : ∀ j (hj : j < i), p ps[j] = false) : firstI p ps = i := by
  unfold firstI
  rw [List.findIdx?_eq_some_iff_getElem.2 ⟨hi, h1, fun j hj => by rw [h j hj]; decide⟩]
theorem drewN_add (w : World) (a b : Nat) : (w.drewN a).drewN b = w.drewN (a + b) := by
  unfold World.drewN
  simp [Nat.add_assoc]
set_option maxHeartbeats 1000000 in
theorem idx22_any {w : World} {K : Nat} {u : Value} (eg : ∀ args w, (callFunc K args).run Try.prog w = .ok (.enter K args) w) (p : Nat → Bool) {A : Option Addr} {c : Nat} {ps : List Nat} (ho : w.ownsRow 0 77 1 (.slice A ps.length c) ps.length (pts ps)) {Sw : World → Prop} (hS : ∀ q, Sw (w.drewN q)) (hp : Says K u Sw p ps) :
    Calls Try.prog 47 #[.slice A ps.length c, .func (.func K) #[] #[u]] w fun e w' => e = .returned (.int .i64 (firstI p ps)) ∧ ∃ q, w' = w.drewN q := by
  obtain ⟨A', c', e, hle, hmx, hnl, hat⟩ := own_look ho
  injection e with e1 e2 e3
  subst e1 e3
  unfold maxLen at hmx
  have HA : Hid (∀ i (hi : i < ps.length), ∃ b, A = some ⟨b, 0, none⟩ ∧ ∀ q, (w.drewN q).cell? ⟨b, i, none⟩ = some (pt ps[i])) := Lib.hid (fun i hi => by
    obtain ⟨b, e, _, _, h⟩ := hat i (pt ps[i]) (by rw [pts_get, List.getElem?_eq_getElem hi]; rfl)
    exact ⟨b, e, fun q => h⟩)
  have HC := Lib.hid hp
  have HS := Lib.hid hS
  have HD := Lib.hid (fun a b => drewN_add w a b)
  obtain ⟨n, hn⟩ : ∃ n, Hid (ps.length = n) := ⟨_, rfl⟩
  rw [hn.out] at hle ⊢
  clear ho hat hp hnl hS
  go_enter Try.func47, Try.ntmps47
  go_wp2_with fail
  go_loopw [8] (fun v wr => ∃ (i q : Nat), i ≤ n ∧ v = .int .i64 i ∧ Hid (wr = w.drewN q) ∧ Hid (∀ j, j < i → ∀ (ha : j < ps.length), p ps[j] = false)) (fun v _ => n - (intOf v).toNat)
  case atStart => exact ⟨0, 0, by omega, rfl, Lib.hid rfl, Lib.hid (fun j hj => by omega)⟩
  case round =>
    obtain ⟨i, q, hi, rfl, HW, HI⟩ := hrel
    by_cases hlt : i < n
    · have hia : i < ps.length := by rw [hn.out]; exact hlt
      obtain ⟨B, rfl, hcell⟩ := HA.out i hia
      have hc1 := hcell q
      rw [← HW.out] at hc1
      have C := Lib.hid (HC.out ps[i] (List.getElem_mem hia) (w.drewN q) (HS.out q))
      have HN : Hid (p ps[i] = true → firstI p ps = i) := Lib.hid (fun h => firstI_some hia h (fun j hj => HI.out j hj (by omega)))
      have HT : Hid (p ps[i] = false → ∀ j, j < i + 1 → ∀ (ha : j < ps.length), p ps[j] = false) := Lib.hid (fun h j hj ha => by
        by_cases e : j = i
        · subst e; exact h
        · exact HI.out j (by omega) ha)
      obtain ⟨x, hx⟩ : ∃ x, Hid (ps[i] = x) := ⟨_, Lib.hid rfl⟩
      rw [hx.out] at C hc1 HN HT
      rw [← HW.out] at C
      clear hcell
      go_wp2_with fail
      refine (C.out).mono ?_
      rintro e w1 ⟨rfl, q2, hq2⟩
      have HQ : Hid (w1 = w.drewN (q + q2)) := Lib.hid (by rw [hq2, HW.out, HD.out])
      clear hq2
      cases hd : p x
      · have HS' := Lib.hid (HT.out hd)
        clear HT HN
        go_wp2_with fail
        go_roundw
        case rel => exact ⟨i + 1, q + q2, by omega, by go_num, HQ, HS'⟩
        case measure => simp [intOf]; omega
      · have HN' := Lib.hid (HN.out hd)
        clear HT HN
        go_wp2_with fail
        go_ret
        exact ⟨by rw [HN'.out]; rfl, _, HQ.out⟩
    · have HE : Hid (firstI p ps = -1) := Lib.hid (firstI_none (fun j hj => HI.out j (by have := hn.out; omega) hj))
      go_wp2_with fail
      go_ret
      exact ⟨by rw [HE.out]; rfl, _, HW.out⟩
/-- what the second loop has done: the first i stay, those from j on are as they were -/
structure Dl (w : World) (g c n : Nat) (p : Nat → Bool) (ps : List Nat) (i j : Nat) (wr : World) : Prop where
  row : ∃ cs : List Nat, wr.ownsRow 0 77 1 (.slice (some ⟨g, 0, none⟩) n c) n (pts cs) ∧ cs.take i = (ps.take j).filter (fun x => !p x) ∧ cs.drop j = ps.drop j
  foot : Foot (fun b => b = g) w wr
  ij : i < j
theorem Dl.drewN {w wr : World} {g c n i j : Nat} {p : Nat → Bool} {ps : List Nat} (h : Dl w g c n p ps i j wr) (q : Nat) : Dl w g c n p ps i j (wr.drewN q) := by
  obtain ⟨⟨cs, h1, h2⟩, h3, h4⟩ := h
  exact ⟨⟨cs, own_same h1 (fun _ _ => rfl), h2⟩, h3.drewN q, h4⟩
theorem Dl.skip {w wr : World} {g c n i j : Nat} {p : Nat → Bool} {ps : List Nat} (h : Dl w g c n p ps i j wr) (hj : j < ps.length) (hp : p ps[j] = true) : Dl w g c n p ps i (j + 1) wr := by
  obtain ⟨⟨cs, h1, h2, h3⟩, h4, h5⟩ := h
  refine ⟨⟨cs, h1, ?_, ?_⟩, h4, by omega⟩
  · rw [h2, List.take_succ_eq_append_getElem hj, List.filter_append]
    simp [hp]
  · have := congrArg (List.drop 1) h3
    rwa [List.drop_drop, List.drop_drop] at this
theorem Dl.stay {w wr : World} {g c n i j : Nat} {p : Nat → Bool} {ps : List Nat} (h : Dl w g c n p ps i j wr) (hj : j < ps.length) (hn : ps.length = n) (hp : p ps[j] = false) : Dl w g c n p ps (i + 1) (j + 1) (wr.setCell ⟨g, i, none⟩ (pt ps[j])) := by
  obtain ⟨⟨cs, h1, h2, h3⟩, h4, h5⟩ := h
  have hl : cs.length = n := by have := h1.1; rw [pts_length] at this; omega
  refine ⟨⟨cs.set i ps[j], ?_, ?_, ?_⟩, h4.setCell i _ rfl, by omega⟩
  · have := (h1.stored i (pt ps[j])).1
    rwa [show (pts cs).set i (pt ps[j]) = pts (cs.set i ps[j]) by unfold pts; rw [List.map_set]] at this
  · rw [List.take_succ_eq_append_getElem (by rw [List.length_set]; omega), List.take_set_of_le (Nat.le_refl _), h2, List.take_succ_eq_append_getElem hj, List.filter_append]
    simp [hp]
  · rw [List.drop_set_of_lt (by omega)]
    have := congrArg (List.drop 1) h3
    rwa [List.drop_drop, List.drop_drop] at this
theorem Dl.len {w wr : World} {g c n i j : Nat} {p : Nat → Bool} {ps : List Nat} (h : Dl w g c n p ps i j wr) (hj : j ≤ n) : i = ((ps.take j).filter (fun x => !p x)).length := by
  obtain ⟨⟨cs, h1, h2, h3⟩, h4, h5⟩ := h
  have hl : cs.length = n := by have := h1.1; rw [pts_length] at this; omega
  rw [← h2, List.length_take]
  omega
/-- at the end what is left behind is cleared -/
theorem Dl.done {w wr : World} {g c n i : Nat} {p : Nat → Bool} {ps : List Nat} (h : Dl w g c n p ps i n wr) (hn : ps.length = n) (u : Value) :
    (wr.setCells g i (List.replicate (n - i) u)).ownsRow 0 77 1 (.slice (some ⟨g, 0, none⟩) i c) i (pts (ps.filter (fun x => !p x))) ∧ Foot (fun b => b = g) w (wr.setCells g i (List.replicate (n - i) u)) := by
  obtain ⟨⟨cs, h1, h2, h3⟩, h4, h5⟩ := h
  have hl : cs.length = n := by have := h1.1; rw [pts_length] at this; omega
  obtain ⟨k1, k2, k3⟩ := own_sets (List.replicate (n - i) u) i wr _ h1 (by simp; omega)
  refine ⟨?_, h4.grown k2 (fun k hk _ => by injection hk with hk; exact hk.symm)⟩
  have := own_cut k1 (j := i) (by omega)
  rw [List.append_assoc, List.take_append_of_le_length (by rw [List.length_take, pts_length]; omega), List.take_take, Nat.min_self] at this
  rw [show ps.filter (fun x => !p x) = cs.take i by rw [h2, List.take_of_length_le (by omega)]]
  unfold pts at this ⊢
  rw [List.map_take]
  exact this
theorem Dl.start {w : World} {g c i : Nat} {p : Nat → Bool} {ps : List Nat} (ho : w.ownsRow 0 77 1 (.slice (some ⟨g, 0, none⟩) ps.length c) ps.length (pts ps)) (hi : i < ps.length) (h1 : p ps[i] = true) (h2 : ∀ j (hj : j < i), p ps[j] = false) (q : Nat) : Dl w g c ps.length p ps i (i + 1) (w.drewN q) := by
  refine ⟨⟨ps, own_same ho (fun _ _ => rfl), ?_, rfl⟩, (Foot.refl _ _).drewN q, by omega⟩
  rw [List.take_succ_eq_append_getElem hi, List.filter_append]
  simp only [h1, List.filter_cons, Bool.not_true, Bool.false_eq_true, if_false, List.filter_nil, List.append_nil]
  rw [List.filter_eq_self.2]
  intro x hx
  obtain ⟨j, hj, rfl⟩ := List.getElem_of_mem hx
  rw [List.length_take] at hj
  rw [List.getElem_take, h2 j (by omega)]
  rfl
set_option maxHeartbeats 1000000 in
theorem del22_any {w : World} {K : Nat} {u : Value} (eg : ∀ args w, (callFunc K args).run Try.prog w = .ok (.enter K args) w) (p : Nat → Bool) {A : Option Addr} {c : Nat} {ps : List Nat} (ho : w.ownsRow 0 77 1 (.slice A ps.length c) ps.length (pts ps)) (hp : Says K u (Foot (fun b => (Value.slice A ps.length c).ownBlock = some b) w) p ps) :
    Calls Try.prog 31 #[.slice A ps.length c, .func (.func K) #[] #[u]] w fun e w' => e = .returned (.slice A (ps.filter (fun x => !p x)).length c) ∧ w'.ownsRow 0 77 1 (.slice A (ps.filter (fun x => !p x)).length c) (ps.filter (fun x => !p x)).length (pts (ps.filter (fun x => !p x))) ∧ Foot (fun b => (Value.slice A ps.length c).ownBlock = some b) w w' := by
  have IX := Lib.hid (idx22_any eg p ho (fun q => (Foot.refl _ _).drewN q) hp)
  obtain ⟨A', c', e, hle, hmx, hnl, hat⟩ := own_look ho
  injection e with e1 e2 e3
  subst e1 e3
  unfold maxLen at hmx
  by_cases hall : ∀ x ∈ ps, p x = false
  · have hf : ps.filter (fun x => !p x) = ps := List.filter_eq_self.2 (fun x hx => by rw [hall x hx]; rfl)
    rw [firstI_none (fun j hj => hall _ (List.getElem_mem hj))] at IX
    rw [hf]
    have HO : Hid (∀ q, (w.drewN q).ownsRow 0 77 1 (.slice A ps.length c) ps.length (pts ps) ∧ Foot (fun b => (Value.slice A ps.length c).ownBlock = some b) w (w.drewN q)) := Lib.hid (fun q => ⟨own_same ho (fun _ _ => rfl), (Foot.refl _ _).drewN q⟩)
    obtain ⟨n, hn⟩ : ∃ n, Hid (ps.length = n) := ⟨_, Lib.hid rfl⟩
    rw [hn.out] at IX HO ⊢
    clear ho hp hat hnl hall hf hle hmx
    go_enter Try.func31, Try.ntmps31
    go_wp2_with fail
    refine (IX.out).mono ?_
    rintro e w1 ⟨rfl, q, rfl⟩
    go_wp2_with fail
    go_ret
    exact ⟨rfl, HO.out q⟩
  obtain ⟨i0, hi0⟩ : ∃ i, ps.findIdx? p = some i := by
    cases h : ps.findIdx? p with
    | none =>
      rw [List.findIdx?_eq_none_iff] at h
      exact absurd h hall
    | some i => exact ⟨i, rfl⟩
  rw [List.findIdx?_eq_some_iff_getElem] at hi0
  obtain ⟨hi, h1, h2⟩ := hi0
  have h2' : ∀ j (hj : j < i0), p ps[j] = false := fun j hj => by simpa using h2 j hj
  rw [firstI_some hi h1 h2'] at IX
  obtain ⟨g, rfl, _, hg, _⟩ := hat i0 (pt ps[i0]) (by rw [pts_get, List.getElem?_eq_getElem hi]; rfl)
  have hR : (fun b => (Value.slice (some ⟨g, 0, none⟩) ps.length c).ownBlock = some b) = (fun b => b = g) := funext fun b => propext ⟨fun h => by injection h with h; exact h.symm, fun h => by rw [h]; rfl⟩
  rw [hR] at hp ⊢
  have HS0 := Lib.hid (fun q => Dl.start ho hi h1 h2' q)
  have HC := Lib.hid hp
  have HSK : Hid (∀ (i j x : Nat) (wr : World), Dl w g c ps.length p ps i j wr → ps[j]? = some x → p x = true → Dl w g c ps.length p ps i (j + 1) wr) := Lib.hid (fun i j x wr h hx e => by
    obtain ⟨hj, rfl⟩ := List.getElem?_eq_some_iff.1 hx
    exact h.skip hj e)
  have HST : Hid (∀ (i j x : Nat) (wr : World), Dl w g c ps.length p ps i j wr → ps[j]? = some x → p x = false → Dl w g c ps.length p ps (i + 1) (j + 1) (wr.setCell ⟨g, i, none⟩ (pt x))) := Lib.hid (fun i j x wr h hx e => by
    obtain ⟨hj, rfl⟩ := List.getElem?_eq_some_iff.1 hx
    exact h.stay hj rfl e)
  have HDN := Lib.hid (fun (i : Nat) (wr : World) (h : Dl w g c ps.length p ps i ps.length wr) => h.done rfl (.pointer none))
  have HLN := Lib.hid (fun (i : Nat) (wr : World) (h : Dl w g c ps.length p ps i ps.length wr) => by have := h.len (Nat.le_refl _); rwa [List.take_of_length_le (Nat.le_refl _)] at this)
  obtain ⟨n, hn⟩ : ∃ n, Hid (ps.length = n) := ⟨_, Lib.hid rfl⟩
  rw [hn.out] at IX HS0 hle hi HSK HST HDN HLN ⊢
  have hne : ((i0 : Int) == -1) = false := beq_eq_false_iff_ne.2 (by omega)
  clear ho hp hat hnl hall h2 h2' hR h1
  go_enter Try.func31, Try.ntmps31
  go_wp2_with fail
  refine (IX.out).mono ?_
  rintro e w1 ⟨rfl, q0, hq0⟩
  have HD0 : Hid (Dl w g c n p ps i0 (i0 + 1) w1) := Lib.hid (by rw [hq0]; exact HS0.out q0)
  clear hq0
  go_wp2_with fail
  go_loopw [5, 6, 7] (fun s5 s6 _ wr => ∃ i j : Nat, s5 = .int .i64 i ∧ s6 = .int .i64 j ∧ i < j ∧ j ≤ n ∧ Hid (Dl w g c n p ps i j wr)) (fun _ s6 _ _ => n - (intOf s6).toNat)
  case atStart => exact ⟨i0, i0 + 1, rfl, by go_num, by omega, by omega, HD0⟩
  case round =>
    obtain ⟨i, j, rfl, rfl, hij, hjn, HD⟩ := hrel
    obtain ⟨cs, ho1, _, hdr⟩ := HD.out.row
    by_cases hlt : j < n
    · have hjl : j < ps.length := by rw [hn.out]; exact hlt
      have hcl : cs.length = n := by have := ho1.1; rw [pts_length] at this; omega
      have hcj : wr.cell? ⟨g, j, none⟩ = some (pt ps[j]) := by
        rw [ho1.cellAt j (by omega), pts_get, show cs[j]? = some ps[j] by
          have := congrArg (fun l => l[0]?) hdr
          simpa [hjl] using this]
        rfl
      have C := Lib.hid (HC.out ps[j] (List.getElem_mem hjl) wr HD.out.foot)
      have HK := Lib.hid (fun q => HSK.out i j ps[j] (wr.drewN q) (HD.out.drewN q) (List.getElem?_eq_getElem hjl))
      have HT := Lib.hid (fun q => HST.out i j ps[j] (wr.drewN q) (HD.out.drewN q) (List.getElem?_eq_getElem hjl))
      have HI : Hid (∀ q, ∃ o, (wr.drewN q).cell? ⟨g, i, none⟩ = some o ∧ (wr.drewN q).frozen? ⟨g, i, none⟩ = false) := Lib.hid (fun q => by
        refine ⟨pt (cs[i]'(by omega)), ?_, ?_⟩
        · have e : (wr.drewN q).cell? ⟨g, i, none⟩ = wr.cell? ⟨g, i, none⟩ := rfl
          rw [e, ho1.cellAt i (by omega), pts_get, List.getElem?_eq_getElem (by omega)]
          rfl
        · exact ho1.frozenAt i)
      obtain ⟨x, hx⟩ : ∃ x, Hid (ps[j] = x) := ⟨_, Lib.hid rfl⟩
      rw [hx.out] at C hcj HK HT
      clear hdr ho1 hcl
      go_wp2_with fail
      refine (C.out).mono ?_
      rintro e w2 ⟨rfl, q2, hq2⟩
      cases hd : p x
      · obtain ⟨o, hco, hfo⟩ := HI.out q2
        rw [← hq2] at hco hfo
        have HN : Hid (Dl w g c n p ps (i + 1) (j + 1) (w2.setCell ⟨g, i, none⟩ (pt x))) := Lib.hid (by rw [hq2]; exact HT.out q2 hd)
        clear hq2 hcj
        go_wp2_with fail
        go_roundw
        case rel => exact ⟨i + 1, j + 1, by go_num, by go_num, by omega, by omega, HN⟩
        case measure => simp [intOf]; omega
      · have HN : Hid (Dl w g c n p ps i (j + 1) w2) := Lib.hid (by rw [hq2]; exact HK.out q2 hd)
        clear hq2 hcj
        go_wp2_with fail
        go_roundw
        case rel => exact ⟨i, j + 1, rfl, by go_num, by omega, by omega, HN⟩
        case measure => simp [intOf]; omega
    · obtain rfl : n = j := by omega
      have hci : ¬ c = i := by omega
      have hin : i ≤ n := by omega
      have hcl : cs.length = n := by have := ho1.1; rw [pts_length] at this; omega
      have hcr : ∀ ty, (Builtin.clear_ #[74] ty #[.slice (some ⟨g, i, none⟩) (n - i) (c - i)]).run Try.prog wr = .ok (.tuple #[]) (wr.setCells g i (List.replicate (n - i) (.pointer none))) :=
        fun ty => Lib.run_clear_slice wr _ _ ty _ Try.underlying74 (fun w => by kernel_rfl) rfl rfl g i _ _ (by omega) (fun t ht => by rw [ho1.cellAt (i + t) (by omega), pts_get, List.getElem?_eq_getElem (by omega)]; rfl) (fun t ht => ho1.frozenAt _)
      have HE := Lib.hid (HDN.out i wr HD.out)
      have HL := Lib.hid (HLN.out i wr HD.out)
      clear hdr ho1 hcl
      go_wp2_with fail
      go_ret
      rw [← HL.out]
      exact ⟨rfl, HE.out⟩
/-- a copy of such a row, in memory of the call's own -/
theorem clone22_any {w : World} {A : Option Addr} {c : Nat} {ps : List Nat} (ho : w.ownsRow 0 77 1 (.slice A ps.length c) ps.length (pts ps)) (hps : ps.length ≤ 1000) :
    Calls Try.prog 53 #[.slice A ps.length c] w fun e w' => ∃ v, e = .returned v ∧ w'.ownsRow w.heap.size 77 1 v ps.length (pts ps) ∧ Below w.heap.size w w' := by
  have q22 : ∀ (w : World) (a : Option Addr) (n c n' c' : Nat), (binOp .eql 74 (.slice a n c) (.slice none n' c')).run Try.prog w = .ok (.bool a.isNone) w := fun w a n c n' c' => Lib.run_eql_slice_nil w _ _ a n c n' c' Try.underlying74
  obtain ⟨A', c', e, hle, hmx, hnl, hat⟩ := own_look ho
  injection e with e1 e2 e3
  subst e1 e3
  unfold maxLen at hmx
  cases A with
  | none =>
    have hc := hnl rfl
    subst hc
    have h0 : ps = [] := List.eq_nil_of_length_eq_zero (by omega)
    subst h0
    clear ho hnl hat hle hmx
    go_enter Try.func53, Try.ntmps53
    go_wp2_with fail
    go_ret
    exact ⟨_, rfl, World.ownsRow_nil _ _ 77 1, Below.refl _ _⟩
  | some a =>
    have HS : Hid (Src (w.alloc (.cells #[] 77)) (some a) (pts ps)) := Lib.hid (fun j u hu => by
      obtain ⟨b, e, _, hb, h⟩ := hat j u hu
      refine ⟨b, 0, e, ?_⟩
      rw [Nat.zero_add, World.cell?_of_block (Below.heap_alloc w _ b hb)]
      exact h)
    have Ho0 : Hid ((w.alloc (.cells #[] 77)).ownsRow w.heap.size 77 1 (.slice (some ⟨w.heap.size, 0, none⟩) 0 0) 0 []) := Lib.hid (World.ownsRow_lit w #[] 0 (Nat.le_refl _) (by decide) rfl)
    have H1 := Lib.hid (pts_one ps)
    have HL : Hid ((pts ps).length = ps.length * 1) := Lib.hid (by rw [pts_length]; omega)
    obtain ⟨xs, hxs⟩ : ∃ xs, Hid (pts ps = xs) := ⟨_, Lib.hid rfl⟩
    obtain ⟨n, hn⟩ : ∃ n, Hid (ps.length = n) := ⟨_, Lib.hid rfl⟩
    rw [hn.out, hxs.out] at HL
    rw [hxs.out] at HS H1
    rw [hn.out] at hle hps ⊢
    rw [hxs.out]
    clear ho hnl hat
    go_enter Try.func53, Try.ntmps53
    go_wp2_with (at_builtin; refine wpList_append_cells Try.underlying74 (z := .pointer none) (size := 1) (bytes := 8) (by kernel_rfl) rfl (by decide) (by decide) _ _ rfl rfl w.heap.size _ 0 [] rfl Ho0.out n c xs rfl HL.out (fun h => by cases h) hle HS.out H1.out (by omega) (by simp) ?_; intro v' w' hr hg hv)
    go_ret
    have hr' : w'.ownsRow w.heap.size 77 1 v' n xs := by
      have := hr
      rwa [Nat.zero_add, List.nil_append] at this
    exact ⟨_, rfl, hr', (((Below.refl _ _).alloc (Nat.le_refl _) _)).grown hg (by simp) (fun k hk => (Ho0.out.lt k hk).1)⟩
end Go.Proofs.Ytbhdgfpaoghnbaa
