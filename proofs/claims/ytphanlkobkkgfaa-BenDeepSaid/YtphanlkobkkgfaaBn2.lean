/- Plain mathematics of layer 12: what is written is read, what is read is written; nested lists. No program. -/
import Derived.Test.YtphanlkobkkgfaaBn
namespace Go.Proofs.Ytphanlkobkkgfaa
set_option linter.unusedVariables false
namespace Bn

def Bytes (l : List Nat) : Prop := ∀ x ∈ l, x < 256
theorem nums_is {l : List Nat} (h : Bytes l) : nums (strOf l) = l := (Txt.nums (strOf l)).inj (Txt.of h)
theorem nums_len (s : ByteArray) : (nums s).length = s.size := (Txt.nums s).size.symm
/-- all numbers of a tree are such of 64 bits -/
inductive Ints : Tn → Prop
  | mk {t : Tn} (hn : Nm.In t.n) (hl : ∀ u ∈ t.kids, Ints u) : Ints t

/-! ### numbers -/
theorem put_char (n : Int) : ∀ x ∈ Nm.put n, x = 45 ∨ (48 ≤ x ∧ x ≤ 57) := by
  intro x hx
  unfold Nm.put at hx
  split at hx
  · rcases List.mem_cons.1 hx with rfl | hx
    · exact .inl rfl
    · exact .inr (Nm.dec_digit _ x hx)
  · exact .inr (Nm.dec_digit _ x hx)
theorem find_at {c : Nat} : ∀ {a : List Nat} (r : List Nat), (∀ x ∈ a, x ≠ c) → (a ++ c :: r).findIdx (fun x => decide (x = c)) = a.length
  | [], r, _ => by simp [List.findIdx_cons]
  | x :: a, r, h => by
    have h1 : decide (x = c) = false := decide_eq_false (h x List.mem_cons_self)
    rw [List.cons_append, List.findIdx_cons, h1, find_at r (fun y hy => h y (List.mem_cons_of_mem _ hy))]
    rfl
theorem number_put {c : Nat} {n : Int} (hn : Nm.In n) (hc : c ≠ 45 ∧ ¬ (48 ≤ c ∧ c ≤ 57)) (r : List Nat) : number c (Nm.put n ++ c :: r) = .ok n r := by
  have hf := find_at (c := c) (a := Nm.put n) r (fun x hx e => by
    subst e
    rcases put_char n x hx with h | h
    · exact hc.1 h
    · exact hc.2 h)
  unfold number
  rw [hf, if_pos (by simp), List.take_left, Nm.get_put hn, if_pos rfl]
  have : (Nm.put n ++ c :: r).drop ((Nm.put n).length + 1) = r := by rw [List.drop_append]; simp
  rw [this]
theorem number_sound {c : Nat} {n : Int} {l r : List Nat} (h : number c l = .ok n r) : Nm.In n ∧ l = Nm.put n ++ c :: r := by
  unfold number at h
  split at h
  · rename_i h1
    split at h
    · rename_i h2
      cases h
      have hx : l[l.findIdx (fun x => decide (x = c))] = c := of_decide_eq_true (List.findIdx_getElem (w := h1))
      rcases Nm.get_cases (l.take (l.findIdx (fun x => decide (x = c)))) with ⟨_, a, b⟩ | ⟨a, _⟩ | ⟨a, _⟩
      · refine ⟨a, ?_⟩
        rw [b]
        conv => lhs; rw [← List.take_append_drop (l.findIdx (fun x => decide (x = c))) l, List.drop_eq_getElem_cons h1, hx]
      · rw [h2] at a; cases a
      · rw [h2] at a; cases a
    · cases h
  · cases h
theorem put_head {n : Int} (h : 0 ≤ n) : ∃ c l, Nm.put n = c :: l ∧ digit c = true := by
  rw [Nm.put_pos (by omega)]
  match hd : Nm.dec n.natAbs, Nm.dec_ne n.natAbs with
  | c :: l, _ =>
    refine ⟨c, l, rfl, ?_⟩
    have := Nm.dec_digit n.natAbs c (by rw [hd]; exact List.mem_cons_self)
    unfold digit
    rw [decide_eq_true (show 47 < c by omega), decide_eq_true (show c < 58 by omega)]
    rfl
theorem digit_iff {c : Nat} : digit c = true ↔ 47 < c ∧ c < 58 := by unfold digit; simp
theorem In_size {s : ByteArray} (h : s.size ≤ 1048576) : Nm.In (s.size : Int) := by unfold Nm.In; omega

/-! ### texts -/
theorem text_head (s : ByteArray) : ∃ c l, text s = c :: l ∧ digit c = true := by
  obtain ⟨c, l, e, h⟩ := put_head (show (0 : Int) ≤ (s.size : Int) by omega)
  exact ⟨c, l ++ 58 :: nums s, by unfold text; rw [e]; rfl, h⟩
theorem word_text {s : ByteArray} (h : s.size ≤ 1048576) (r : List Nat) : word (text s ++ r) = .ok s r := by
  unfold word text
  rw [List.append_assoc, List.cons_append, number_put (In_size h) (by omega)]
  simp only []
  rw [if_neg (by omega), if_neg (by rw [List.length_append, nums_len]; omega)]
  rw [show ((s.size : Int)).toNat = (nums s).length by rw [nums_len]; omega, List.take_left, List.drop_left, ← (Txt.nums s).str]
theorem word_sound {l r : List Nat} {s : ByteArray} (hb : Bytes l) (hd : ∃ c m, l = c :: m ∧ digit c = true) (h : word l = .ok s r) : s.size ≤ 1048576 ∧ l = text s ++ r := by
  unfold word at h
  split at h
  · cases h
  · rename_i n r1 h1
    obtain ⟨hin, hl⟩ := number_sound h1
    split at h
    · cases h
    · rename_i h2
      split at h
      · cases h
      · rename_i h3
        cases h
        have hn : 0 ≤ n := by
          rcases Int.lt_or_le n 0 with hneg | hpos
          · obtain ⟨c, m, e, hc⟩ := hd
            rw [hl, Nm.put_neg hneg] at e
            injection e with e _
            rw [digit_iff] at hc
            omega
          · exact hpos
        have hsz : (strOf (r1.take n.toNat)).size = n.toNat := by rw [strOf_size, List.length_take]; omega
        refine ⟨by rw [hsz]; omega, ?_⟩
        unfold text
        rw [hsz, nums_is (fun x hx => hb x (by rw [hl]; exact List.mem_append_right _ (List.mem_cons_of_mem _ (List.mem_of_mem_take hx)))), show ((n.toNat : Nat) : Int) = n by omega, List.append_assoc, List.cons_append, List.take_append_drop]
        exact hl

/-! ### written, then read -/
theorem ben_head {t : Tn} (hk : 1 ≤ t.kind ∧ t.kind ≤ 4) : ∃ c l, ben t = c :: l ∧ c ≠ 101 ∧ ¬ (digit c = false ∧ c ≠ 105 ∧ c ≠ 108 ∧ c ≠ 100) := by
  rw [ben_eq]
  by_cases h1 : t.kind = 1
  · rw [if_pos h1]; exact ⟨105, _, rfl, by omega, by omega⟩
  · rw [if_neg h1]
    by_cases h2 : t.kind = 2
    · rw [if_pos h2]
      obtain ⟨c, l, e, h⟩ := text_head t.s
      refine ⟨c, l, e, ?_, fun h' => by rw [h] at h'; cases h'.1⟩
      rw [digit_iff] at h; omega
    · rw [if_neg h2]
      by_cases h4 : t.kind = 4
      · rw [if_pos h4]; exact ⟨100, _, rfl, by omega, by omega⟩
      · rw [if_neg h4]; exact ⟨108, _, rfl, by omega, by omega⟩
theorem rises_next {a : List ByteArray} {k x : ByteArray} {b : List ByteArray} (h : Tn.rises (a ++ x :: b) = true) (hk : a.getLast? = some k) : Tn.less k x = true := by
  obtain ⟨a', rfl⟩ : ∃ a', a = a' ++ [k] := List.getLast?_eq_some_iff.1 hk
  have := Tn.rises_iff.1 h a'.length (by simp)
  simpa using this
theorem loop_body {v : List Nat → Rs Tn} {d : Bool} : ∀ (kids : List Tn) (keys ks0 : List ByteArray) (ts0 : List Tn) (f : Nat) (r : List Nat),
    (∀ u ∈ kids, 1 ≤ u.kind ∧ u.kind ≤ 4) → (∀ u ∈ kids, ∀ r, v (ben u ++ r) = .ok u r) → (d = true → keys.length = kids.length ∧ Tn.rises (ks0 ++ keys) = true ∧ ∀ k ∈ keys, k.size ≤ 1048576) → (d = false → keys = []) →
    kids.length < f → loop v d f ks0 ts0 (body d keys (kids.map ben) ++ 101 :: r) = .ok (.mk (if d = true then 4 else 3) 0 ⟨#[]⟩ (ks0 ++ keys) (ts0 ++ kids)) r
  | [], keys, ks0, ts0, 0, r, hk, hv, h1, h2, hf => by omega
  | [], keys, ks0, ts0, f + 1, r, hk, hv, h1, h2, hf => by
    have hke : keys = [] := by
      cases d with
      | true => exact List.eq_nil_of_length_eq_zero (h1 rfl).1
      | false => exact h2 rfl
    subst hke
    rw [List.map_nil, loop]
    simp [body]
  | u :: kids, keys, ks0, ts0, 0, r, hk, hv, h1, h2, hf => by omega
  | u :: kids, keys, ks0, ts0, f + 1, r, hk, hv, h1, h2, hf => by
    have hku := hk u List.mem_cons_self
    have hvu := hv u List.mem_cons_self
    have ih := loop_body (v := v) (d := d) kids
    cases d with
    | false =>
      have hke := h2 rfl
      subst hke
      obtain ⟨c, l, e, h101, _⟩ := ben_head hku
      rw [List.map_cons, body, List.append_assoc, loop]
      rw [if_neg (by rw [e]; simpa using h101)]
      have he : entry false ks0 (ben u ++ (body false [] (kids.map ben) ++ 101 :: r)) = .ok ks0 (ben u ++ (body false [] (kids.map ben) ++ 101 :: r)) := by unfold entry; rfl
      rw [he]
      simp only []
      rw [hvu]
      simp only []
      rw [ih [] ks0 (ts0 ++ [u]) f r (fun x hx => hk x (List.mem_cons_of_mem _ hx)) (fun x hx => hv x (List.mem_cons_of_mem _ hx)) (by simp) (fun _ => rfl) (by simpa using hf)]
      simp
    | true =>
      obtain ⟨a1, a2, a3⟩ := h1 rfl
      match keys, a1, a2, a3 with
      | x :: keys, a1, a2, a3 =>
        obtain ⟨c, l, e, hc⟩ := text_head x
        have hcd := digit_iff.1 hc
        rw [List.map_cons, body, if_pos rfl, List.append_assoc, List.append_assoc, loop]
        rw [if_neg (by rw [e]; simp; omega)]
        have he : entry true ks0 (text x ++ (ben u ++ (body true keys (kids.map ben) ++ 101 :: r))) = .ok (ks0 ++ [x]) (ben u ++ (body true keys (kids.map ben) ++ 101 :: r)) := by
          unfold entry
          rw [if_neg (by simp)]
          have hw := word_text (a3 x List.mem_cons_self) (ben u ++ (body true keys (kids.map ben) ++ 101 :: r))
          rw [e, List.cons_append] at hw ⊢
          simp only [hc]
          rw [if_neg (by simp), hw]
          simp only []
          rw [if_neg]
          rintro ⟨k, hk1, hk2⟩
          rw [rises_next a2 hk1] at hk2
          cases hk2
        rw [he]
        simp only []
        rw [hvu]
        simp only []
        rw [ih keys (ks0 ++ [x]) (ts0 ++ [u]) f r (fun y hy => hk y (List.mem_cons_of_mem _ hy)) (fun y hy => hv y (List.mem_cons_of_mem _ hy)) (fun _ => ⟨by simpa using a1, by simpa using a2, fun y hy => a3 y (List.mem_cons_of_mem _ hy)⟩) (by simp) (by simpa using hf)]
        simp
theorem odd_parts {t : Tn} (h : t.odd = false) (hk : 1 ≤ t.kind ∧ t.kind ≤ 4) : (t.kind ≠ 1 → t.n = 0) ∧ (t.kind ≠ 2 → t.s = ⟨#[]⟩) ∧ (t.kind ≠ 4 → t.keys = []) ∧ (t.kind < 3 → t.kids = []) ∧ (t.kind = 4 → t.keys.length = t.kids.length) := by
  unfold Tn.odd at h
  rcases (show t.kind = 1 ∨ t.kind = 2 ∨ t.kind = 3 ∨ t.kind = 4 by omega) with hkd | hkd | hkd | hkd <;> simp [hkd] at h ⊢ <;> simp [h]
/-- more fuel than bytes is enough -/
theorem value_ben : ∀ (k : Nat) (t : Tn), Ints t → k ≤ 8 → t.right (8 - k) = 0 → ∀ r, value k (ben t ++ r) = .ok t r
  | 0, t, hi, hk, hr, r => by
    rw [Tn.right_eq, if_pos (by omega)] at hr
    cases hr
  | k + 1, t, hi, hk, hr, r => by
    rw [Tn.right_eq, if_neg (by omega)] at hr
    have ho : t.own = 0 := by
      by_cases h : t.own = 0
      · exact h
      · rw [if_pos h] at hr; exact hr
    rw [if_neg (by simpa using ho), Tn.rights_zero, show 8 - (k + 1) + 1 = 8 - k by omega] at hr
    obtain ⟨o1, o2, o3, o4⟩ := Tn.own_zero.1 ho
    obtain ⟨q1, q2, q3, q4, q5⟩ := odd_parts o2 o1
    have hin : Nm.In t.n := by cases hi with | mk hn hl => exact hn
    have hil : ∀ u ∈ t.kids, Ints u := by cases hi with | mk hn hl => exact hl
    obtain ⟨c, l, e, h101, hcs⟩ := ben_head o1
    have hlong : t.s.size ≤ 1048576 ∧ ∀ x ∈ t.keys, x.size ≤ 1048576 := by
      unfold Tn.isLong at o3
      rw [Bool.or_eq_false_iff, List.any_eq_false] at o3
      exact ⟨by simpa using o3.1, fun x hx => by simpa using o3.2 x hx⟩
    rcases (show t.kind = 1 ∨ t.kind = 2 ∨ 3 ≤ t.kind by omega) with hkd | hkd | hkd
    · have ht : t = .mk 1 t.n ⟨#[]⟩ [] [] := Tn.ext hkd rfl (q2 (by omega)) (q3 (by omega)) (q4 (by omega))
      rw [ben_eq, if_pos hkd, List.cons_append, value, if_neg (by simp), if_neg (by simp [digit]), if_pos rfl, List.append_assoc, List.singleton_append, number_put hin (by omega)]
      simp only []
      rw [← ht]
    · have ht : t = .mk 2 0 t.s [] [] := Tn.ext hkd (q1 (by omega)) rfl (q3 (by omega)) (q4 (by omega))
      obtain ⟨c', l', e', hc'⟩ := text_head t.s
      have hw := word_text hlong.1 r
      rw [ben_eq, if_neg (by omega), if_pos hkd]
      rw [e', List.cons_append] at hw ⊢
      rw [value, if_neg (fun h => by rw [hc'] at h; cases h.1), if_pos hc', hw]
      simp only []
      rw [← ht]
    · rw [ben_eq, if_neg (by omega), if_neg (by omega), List.cons_append]
      have hlist : ∀ u ∈ t.kids, ∀ r, value k (ben u ++ r) = .ok u r := fun u hu r => value_ben k u (hil u hu) (by omega) (hr u hu) r
      have hkk : ∀ u ∈ t.kids, 1 ≤ u.kind ∧ u.kind ≤ 4 := fun u hu => by
        have h := hr u hu
        rw [Tn.right_eq] at h
        split at h
        · cases h
        · split at h
          · rename_i h2; exact absurd h h2
          · rename_i h2
            exact (Tn.own_zero.1 (by simpa using h2)).1
      have hlen : ∀ d keys, t.kids.length < (body d keys (t.kids.map ben) ++ [101] ++ r).length + 1 := by
        intro d keys
        have : ∀ (l : List Tn) (keys : List ByteArray), (∀ u ∈ l, 1 ≤ u.kind ∧ u.kind ≤ 4) → l.length ≤ (body d keys (l.map ben)).length := by
          intro l
          induction l with
          | nil => intro keys _; simp [body]
          | cons u l ih =>
            intro keys hh
            obtain ⟨c, m, e, _⟩ := ben_head (hh u List.mem_cons_self)
            cases keys with
            | nil =>
              have := ih [] (fun x hx => hh x (List.mem_cons_of_mem _ hx))
              rw [List.map_cons, body, e]
              simp; omega
            | cons x keys =>
              have := ih keys (fun x hx => hh x (List.mem_cons_of_mem _ hx))
              rw [List.map_cons, body, e]
              simp; omega
        have := this t.kids keys hkk
        rw [List.length_append, List.length_append]
        omega
      by_cases h4 : t.kind = 4
      · rw [if_pos h4, decide_eq_true h4, value, if_neg (by simp), if_neg (by simp [digit]), if_neg (by omega)]
        rw [show decide ((100 : Nat) = 100) = true from rfl]
        have := loop_body (v := value k) (d := true) t.kids t.keys [] [] ((body true t.keys (t.kids.map ben) ++ [101] ++ r).length + 1) r hkk hlist (fun _ => ⟨q5 h4, by simpa using o4, hlong.2⟩) (by simp) (hlen _ _)
        rw [List.append_assoc, List.singleton_append] at this ⊢
        rw [this, if_pos rfl]
        congr 1
        exact (Tn.ext h4 (q1 (by omega)) (q2 (by omega)) (by simp [Tn.keys]) (by simp [Tn.kids])).symm
      · have h3 : t.kind = 3 := by omega
        rw [if_neg h4, decide_eq_false h4, value, if_neg (by simp), if_neg (by simp [digit]), if_neg (by omega)]
        rw [show decide ((108 : Nat) = 100) = false from rfl]
        have := loop_body (v := value k) (d := false) t.kids t.keys [] [] ((body false t.keys (t.kids.map ben) ++ [101] ++ r).length + 1) r hkk hlist (by simp) (fun _ => q3 h4) (hlen _ _)
        rw [List.append_assoc, List.singleton_append] at this ⊢
        rw [this, if_neg (by simp)]
        congr 1
        exact (Tn.ext h3 (q1 (by omega)) (q2 (by omega)) (by simp [Tn.keys]) (by simp [Tn.kids])).symm
end Bn
end Go.Proofs.Ytphanlkobkkgfaa
