/- Contract of the reference's Sort. -/
import Derived.Test.YtjkpkailcemjhaaRsort
namespace Go.Proofs.Ytjkpkailcemjhaa
open Go.RowKit
set_option linter.unusedVariables false

theorem own_more {w : World} {base base' t n : Nat} {v : Value} {xs : List Value} (h : w.ownsRow base' t 1 v n xs) (hb : base ≤ base') : w.ownsRow base t 1 v n xs := by
  refine ⟨h.1, ?_⟩
  rcases h.2 with h2 | ⟨g, c, cur, hv, hg, r⟩
  · exact .inl h2
  · exact .inr ⟨g, c, cur, hv, by omega, r⟩
theorem own_view {w : World} {base t n : Nat} {v : Value} {xs : List Value} (h : w.ownsRow base t 1 v n xs) : (v = .slice none 0 0 ∧ n = 0) ∨ ∃ g c, v = .slice (some ⟨g, 0, none⟩) n c ∧ n ≤ c ∧ c ≤ maxLen := by
  rcases h.2 with h2 | ⟨g, c, cur, hv, hg, hh, h1, h2, r⟩
  · exact .inl h2
  · exact .inr ⟨g, c, hv, h1, h2⟩

/-- x is put in at place t -/
def putIn (out : List Nat) (t x : Nat) : List Nat := out.take t ++ [x] ++ out.drop t
/-- what the loop has done when i are put in -/
structure RefPuts (frm : Nat) (l : List Nat) (base : Nat) (w : World) (i : Nat) (out : List Nat) (v : Value) (wr : World) : Prop where
  len : out.length = i
  perm : out.Perm (l.take i)
  asc : Sm.Asc (Rm.dist frm) 0 i out
  own : wr.ownsRow base 22 1 v i (ints .u64 out)
  below : Below base w wr
  size : base ≤ wr.heap.size
/-- place t is not beyond x's place -/
def NotBeyond (frm : Nat) (out : List Nat) (x t : Nat) : Prop := ∀ p, p < t → Rm.dist frm (out.getD p 0) ≤ Rm.dist frm x
theorem putIn_length {out : List Nat} {t x : Nat} (h : t ≤ out.length) : (putIn out t x).length = out.length + 1 := by simp [putIn]; omega
theorem putIn_perm (out : List Nat) (t x : Nat) : (putIn out t x).Perm (out ++ [x]) := by
  unfold putIn
  have h1 : (out.take t ++ [x] ++ out.drop t).Perm (out.take t ++ (out.drop t ++ [x])) := by
    rw [List.append_assoc]
    exact List.Perm.append_left _ List.perm_append_comm
  rw [← List.append_assoc, List.take_append_drop] at h1
  exact h1
theorem putIn_at {out : List Nat} {t x : Nat} (h : t ≤ out.length) (p : Nat) : (putIn out t x).getD p 0 = if p < t then out.getD p 0 else if p = t then x else out.getD (p - 1) 0 := by
  unfold putIn
  simp only [List.getD, List.append_assoc]
  by_cases c1 : p < t
  · rw [if_pos c1, List.getElem?_append_left (by rw [List.length_take]; omega), List.getElem?_take_of_lt c1]
  · rw [if_neg c1, List.getElem?_append_right (by rw [List.length_take]; omega), List.length_take, show min t out.length = t by omega]
    by_cases c2 : p = t
    · rw [if_pos c2, c2]; simp
    · rw [if_neg c2, show p - t = (p - t - 1) + 1 by omega]
      simp only [List.cons_append, List.nil_append, List.getElem?_cons_succ, List.getElem?_drop]
      congr 2
      omega
theorem putIn_asc {frm : Nat} {out : List Nat} {t x i : Nat} (hl : out.length = i) (ht : t ≤ i) (ha : Sm.Asc (Rm.dist frm) 0 i out) (hu : NotBeyond frm out x t) (hs : t = i ∨ Rm.dist frm x < Rm.dist frm (out.getD t 0)) : Sm.Asc (Rm.dist frm) 0 (i + 1) (putIn out t x) := by
  have at_ := fun p => putIn_at (x := x) (show t ≤ out.length by omega) p
  intro p q h1 h2 h3
  rw [at_ p, at_ q]
  by_cases c1 : p < t
  · rw [if_pos c1]
    by_cases c2 : q < t
    · rw [if_pos c2]; exact ha p q h1 h2 (by omega)
    · rw [if_neg c2]
      by_cases c3 : q = t
      · rw [if_pos c3]; exact hu p c1
      · rw [if_neg c3]; exact ha.le h1 (by omega) (by omega)
  · rw [if_neg c1, if_neg (show ¬ q < t by omega)]
    by_cases c3 : p = t
    · rw [if_pos c3, if_neg (by omega)]
      rcases hs with hs | hs
      · omega
      · have := ha.le (show 0 ≤ t by omega) (show t ≤ q - 1 by omega) (show q - 1 < i by omega)
        omega
    · rw [if_neg c3, if_neg (by omega)]; exact ha.le (by omega) (by omega) (by omega)
section
variable {frm : Nat} {l : List Nat} {base : Nat} {w : World} {i : Nat} {out : List Nat} {v v' : Value} {wr w1 : World}
theorem RefPuts.start (frm : Nat) (l : List Nat) (base : Nat) (w : World) (hb : base ≤ w.heap.size) : RefPuts frm l base w 0 [] (.slice none 0 0) w :=
  ⟨rfl, by simp, Sm.Asc.tiny (by omega), World.ownsRow_nil _ _ _ _, Below.refl _ _, hb⟩
theorem RefPuts.next (h : RefPuts frm l base w i out v wr) (hi : i < l.length) {t x : Nat} (hx : l.getD i 0 = x) (ht : t ≤ i) (hu : NotBeyond frm out x t) (hs : t = i ∨ Rm.dist frm x < Rm.dist frm (out.getD t 0))
    (ho : w1.ownsRow base 22 1 v' (i + 1) (ints .u64 (putIn out t x))) (hb : Below base wr w1) : RefPuts frm l base w (i + 1) (putIn out t x) v' w1 := by
  obtain ⟨h1, h2, h3, h4, h5, h6⟩ := h
  refine ⟨by rw [putIn_length (by omega), h1], ?_, putIn_asc h1 ht h3 hu hs, ho, h5.trans hb, Nat.le_trans h6 hb.size⟩
  refine (putIn_perm out t x).trans ?_
  rw [List.take_succ_eq_append_getElem hi]
  have e : l[i] = x := by rw [← hx]; simp [List.getD, List.getElem?_eq_getElem hi]
  rw [e]
  exact h2.append_right _
end

set_option maxRecDepth 100000 in
set_option maxHeartbeats 1600000 in
theorem sortr_any (base B : Nat) (A : Option Addr) (l : List Nat) (n c frm : Nat) (w : World) (hn : l.length = n) (hn1 : n ≤ 1000000000) (hA : Sees .u64 w B A l) (hB : B ≤ base) (hbase : base ≤ w.heap.size) (hu : ∀ x ∈ l, x < 18446744073709551616) (hf : frm < 18446744073709551616) :
    Calls Try.prog 20 #[.int .u64 (frm : Int), .slice A n c] w fun e w' => ∃ v out, e = .returned v ∧ RefPuts frm l base w n out v w' := by
  have Hn := Lib.hid hn
  clear hn
  have HA := Lib.hid hA
  clear hA
  have Hu := Lib.hid hu
  clear hu
  have HS := Lib.hid (RefPuts.start frm l base w hbase)
  go_enter Try.func20, Try.ntmps20
  go_wp2_with fail
  go_loopw [5, 6] (fun v vi wr => ∃ (i : Nat) (out : List Nat), vi = .int .i64 i ∧ i ≤ n ∧ Hid (RefPuts frm l base w i out v wr)) (fun _ vi _ => n - (intOf vi).toNat)
  case atStart => exact ⟨0, [], rfl, by omega, HS⟩
  case round =>
    clear HS
    obtain ⟨i, out, rfl, hi, HP⟩ := hrel
    obtain ⟨wo, rfl⟩ : ∃ wo, wo = wr := ⟨_, rfl⟩
    by_cases hlt : i < n
    · obtain ⟨ba, oa, rfl, hba, hc⟩ := (HA.out.below (HP.out.below.mono hB)).at_ (i := i) (by rw [Hn.out]; exact hlt)
      have hx := getD_u64 Hu.out i
      obtain ⟨x, Hx⟩ : ∃ x, Hid (l.getD i 0 = x) := ⟨_, rfl⟩
      rw [Hx.out] at hc hx
      have Hba : Hid (ba < wo.heap.size) := by have := HP.out.size; exact Lib.hid (by omega)
      have HNX := Lib.hid (fun t v' w1 => HP.out.next (v' := v') (w1 := w1) (t := t) (by rw [Hn.out]; exact hlt) Hx.out)
      have hown := HP.out.own
      have hlen := HP.out.len
      rcases own_view hown with ⟨rfl, h0⟩ | ⟨g, co, rfl, hico, hcm⟩
      · subst h0
        obtain rfl : out = [] := List.eq_nil_of_length_eq_zero hlen
        clear hown hlen
        go_wp2_with fail
        go_loopw [7] (fun vt w2 => vt = .int .i64 0 ∧ Hid (w2 = wo)) (fun vt _ => 0)
        case atStart => exact ⟨rfl, Lib.hid rfl⟩
        case round =>
          obtain ⟨w2, rfl⟩ : ∃ w2, w2 = wr := ⟨_, rfl⟩
          obtain ⟨rfl, HW⟩ := hrel
          have Hw2 : Hid (Below wo.heap.size wo w2) := Lib.hid (by rw [HW.out]; exact Below.refl _ _)
          have Hcx := Lib.hid hc
          go_wp2_with fail
          go_quiet (fail)
          have Hw3 := Lib.hid (below_drewN Hw2.out nq)
          clear Hw2 HW
          generalize w2.drewN nq = w2 at *
          have Hw2 := Hw3
          clear Hw3
          have Hc2 : Hid (w2.cell? ⟨ba, oa, none⟩ = some (.int .u64 (x : Int))) := Lib.hid ((Hw2.out.cell (p := ⟨ba, oa, none⟩) Hba.out).trans Hcx.out)
          have Hba2 : Hid (ba < w2.heap.size) := by have := Hba.out; have := Hw2.out.size; exact Lib.hid (by omega)
          have HN2 := Lib.hid (HNX.out 0)
          have hz2 : base ≤ w2.heap.size := Nat.le_trans HP.out.size Hw2.out.size
          have HPb : Hid (Below base wo w2) := Lib.hid (Hw2.out.mono HP.out.size)
          have Ho0 := Lib.hid (own_empty w2 w2.heap.size 22 (Nat.le_refl _))
          have Hb0 := Lib.hid ((Below.refl w2.heap.size w2).alloc (Nat.le_refl _) (.cells #[] 22))
          have Hput : Hid (ints .u64 (putIn [] 0 x) = [] ++ ints .u64 [] ++ [.int .u64 (x : Int)] ++ ints .u64 []) := Lib.hid rfl
          clear Hcx HNX HP hc
          go_wp2_with (first
            | (at_builtin
               refine wpList_append_row u64T (.tmp 36) (.tmp 39) rfl rfl w2.heap.size _ 0 [] rfl Ho0.out (l := []) 0 0 rfl rfl (fun _ => rfl) (nil_sees .u64 _ _) (by omega) Hb0.out.size ?_
               intro v1 w3 ho1 hg1
               have Hb1 := Lib.hid (Hb0.out.grown hg1 Hb0.out.size (fun k hk => (Ho0.out.lt k hk).1))
               have Ho1 := Lib.hid ho1
               have hc3 : w3.cell? ⟨ba, oa, none⟩ = some (.int .u64 (x : Int)) := (Hb1.out.cell (p := ⟨ba, oa, none⟩) Hba2.out).trans Hc2.out
               clear ho1 hg1)
            | (at_builtin
               refine wpList_append1 u64T (.tmp 41) (.tmp 46) rfl rfl w2.heap.size v1 (0 + 0) ([] ++ ints .u64 []) rfl rfl rfl Ho1.out (by omega) Hb1.out.size ?_
               intro v2 w4 ho2 hg2
               have Hb2 := Lib.hid ((Hb1.out.alloc Hb1.out.size _).grown hg2 (Nat.le_trans Hb1.out.size (by simp)) (fun k hk => (Ho1.out.lt k hk).1))
               have Ho2 := Lib.hid ho2
               clear ho2 hg2)
            | (at_builtin
               refine wpList_append_row u64T (.tmp 48) (.tmp 51) rfl rfl w2.heap.size v2 (0 + 0 + 1) ([] ++ ints .u64 [] ++ [Value.int .u64 (x : Int)]) rfl Ho2.out (l := []) 0 0 rfl rfl (fun _ => rfl) (nil_sees .u64 _ _) (by omega) Hb2.out.size ?_
               intro v3 w5 ho3 hg3
               have Hb3 := Lib.hid (Hb2.out.grown hg3 Hb2.out.size (fun k hk => (Ho2.out.lt k hk).1))
               have Ho3 := Lib.hid ho3
               clear ho3 hg3))
          have HF : Hid (RefPuts frm l base w (0 + 1) (putIn [] 0 x) v3 w5) := by
            have ho := Ho3.out
            rw [← Hput.out] at ho
            exact Lib.hid (HN2.out v3 w5 (Nat.le_refl _) (fun p h => by omega) (.inl rfl) (own_more ho hz2) (HPb.out.trans (Hb3.out.mono hz2)))
          go_roundw
          case rel => exact ⟨1, _, by go_num, hlt, HF⟩
          case measure => go_light; simp [intOf]; omega
      · have Hout := Lib.hid (Sees.of_own (by rw [hlen]; exact hown : wo.ownsRow base 22 1 _ out.length (ints .u64 out)))
        have Hlen := Lib.hid hlen
        have Hus : Hid (∀ j, out.getD j 0 < 18446744073709551616) := Lib.hid (fun j => getD_u64 (fun x hx => Hu.out x (List.mem_of_mem_take (HP.out.perm.mem_iff.1 hx))) j)
        clear hown hlen
        have hcm2 : co ≤ 9223372036854775807 := by unfold maxLen at hcm; omega
        go_wp2_with fail
        go_loopw [7] (fun vt w2 => ∃ (t k : Nat), vt = .int .i64 t ∧ t ≤ i ∧ Hid (NotBeyond frm out x t) ∧ Hid (w2 = wo.drewN k)) (fun vt _ => i - (intOf vt).toNat)
        case atStart => exact ⟨0, 0, rfl, by omega, Lib.hid (fun p h => by omega), Lib.hid rfl⟩
        case round =>
          obtain ⟨w2, rfl⟩ : ∃ w2, w2 = wr := ⟨_, rfl⟩
          obtain ⟨t, k, rfl, ht, HT, HW⟩ := hrel
          have Hw2 : Hid (Below wo.heap.size wo w2) := Lib.hid (by rw [HW.out]; exact below_drewN (Below.refl _ _) k)
          have Hcx := Lib.hid hc
          by_cases hti : t < i
          · obtain ⟨g2, o2, e2, _, hct⟩ := (Hout.out.below Hw2.out).at_ (i := t) (by rw [Hlen.out]; exact hti)
            injection e2 with e2
            injection e2 with e3 e4 _
            subst e3 e4
            rw [Nat.zero_add] at hct
            have hy : out.getD t 0 < 18446744073709551616 := Hus.out t
            obtain ⟨y, Hy⟩ : ∃ y, Hid (out.getD t 0 = y) := ⟨_, rfl⟩
            rw [Hy.out] at hct hy
            have hcx2 : w2.cell? ⟨ba, oa + i, none⟩ = some (.int .u64 (x : Int)) := (Hw2.out.cell (p := ⟨ba, oa + i, none⟩) Hba.out).trans Hcx.out
            have hdx := Rm.dist_lt frm x
            have hdy := Rm.dist_lt frm y
            by_cases hd : Rm.dist frm y ≤ Rm.dist frm x
            · have HT' : Hid (NotBeyond frm out x (t + 1)) := Lib.hid fun p hp => by
                rcases Nat.lt_or_ge p t with h | h
                · exact HT.out p h
                · rw [show p = t by omega, Hy.out]; exact hd
              clear HT
              go_wp2_with fail
              go_quiet (first | with_reducible exact Calls.quiet_of_same (distr_same frm y _ hf hy) | with_reducible exact Calls.quiet_of_same (distr_same frm x _ hf hx))
              go_wp2_with fail
              go_roundw
              case rel => exact ⟨t + 1, k + nq, by go_num, hti, HT', Lib.hid (by rw [HW.out, World.drewN_drewN])⟩
              case measure => go_light; simp [intOf]; omega
            · go_wp2_with fail
              go_quiet (first | with_reducible exact Calls.quiet_of_same (distr_same frm y _ hf hy) | with_reducible exact Calls.quiet_of_same (distr_same frm x _ hf hx))
              have Hw3 := Lib.hid (below_drewN Hw2.out nq)
              clear hct hcx2 Hw2 HW
              generalize w2.drewN nq = w2 at *
              have Hw2 := Hw3
              clear Hw3
              by_cases hct : co = t
              · exact absurd hct (by omega)
              · have hct2 : t < co := by omega
                have Hc2 : Hid (w2.cell? ⟨ba, oa + i, none⟩ = some (.int .u64 (x : Int))) := Lib.hid ((Hw2.out.cell (p := ⟨ba, oa + i, none⟩) Hba.out).trans Hcx.out)
                have Hba2 : Hid (ba < w2.heap.size) := by have := Hba.out; have := Hw2.out.size; exact Lib.hid (by omega)
                have HSee := Lib.hid ((Hout.out.below Hw2.out).more Hw2.out.size)
                have HN2 := Lib.hid (HNX.out t)
                have hz2 : base ≤ w2.heap.size := Nat.le_trans HP.out.size Hw2.out.size
                have HPb : Hid (Below base wo w2) := Lib.hid (Hw2.out.mono HP.out.size)
                have Ho0 := Lib.hid (own_empty w2 w2.heap.size 22 (Nat.le_refl _))
                have Hb0 := Lib.hid ((Below.refl w2.heap.size w2).alloc (Nat.le_refl _) (.cells #[] 22))
                have Htake : Hid ((out.take t).length = t) := Lib.hid (by rw [List.length_take, Hlen.out]; omega)
                have Hdrop : Hid ((out.drop t).length = i - t) := Lib.hid (by rw [List.length_drop, Hlen.out])
                have Hput : Hid (ints .u64 (putIn out t x) = [] ++ ints .u64 (out.take t) ++ [.int .u64 (x : Int)] ++ ints .u64 (out.drop t)) := Lib.hid (by unfold putIn; rw [ints_append, ints_append]; rfl)
                clear Hcx HNX HP Hout hc
                go_wp2_with (first
                  | (at_builtin
                     refine wpList_append_row u64T (.tmp 36) (.tmp 39) rfl rfl w2.heap.size _ 0 [] rfl Ho0.out t co rfl Htake.out (fun h => by cases h) ((HSee.out.take t).below Hb0.out) (by omega) Hb0.out.size ?_
                     intro v1 w3 ho1 hg1
                     have Hb1 := Lib.hid (Hb0.out.grown hg1 Hb0.out.size (fun k hk => (Ho0.out.lt k hk).1))
                     have Ho1 := Lib.hid ho1
                     have hc3 : w3.cell? ⟨ba, oa + i, none⟩ = some (.int .u64 (x : Int)) := (Hb1.out.cell (p := ⟨ba, oa + i, none⟩) Hba2.out).trans Hc2.out
                     clear ho1 hg1)
                  | (at_builtin
                     refine wpList_append1 u64T (.tmp 41) (.tmp 46) rfl rfl w2.heap.size _ (0 + t) ([] ++ ints .u64 (out.take t)) rfl rfl rfl Ho1.out (by omega) Hb1.out.size ?_
                     intro v2 w4 ho2 hg2
                     have Hb2 := Lib.hid ((Hb1.out.alloc Hb1.out.size _).grown hg2 (Nat.le_trans Hb1.out.size (by simp)) (fun k hk => (Ho1.out.lt k hk).1))
                     have Ho2 := Lib.hid ho2
                     clear ho2 hg2)
                  | (at_builtin
                     refine wpList_append_row u64T (.tmp 48) (.tmp 51) rfl rfl w2.heap.size v2 (0 + t + 1) ([] ++ ints .u64 (out.take t) ++ [Value.int .u64 (x : Int)]) rfl Ho2.out (i - t) (co - t) rfl Hdrop.out (fun h => by cases h) ((by have := (HSee.out.drop t).below Hb2.out; rwa [Nat.zero_add] at this)) (by omega) Hb2.out.size ?_
                     intro v3 w5 ho3 hg3
                     have Hb3 := Lib.hid (Hb2.out.grown hg3 Hb2.out.size (fun k hk => (Ho2.out.lt k hk).1))
                     have Ho3 := Lib.hid ho3
                     clear ho3 hg3))
                have HF : Hid (RefPuts frm l base w (i + 1) (putIn out t x) v3 w5) := by
                  have ho := Ho3.out
                  rw [← Hput.out, show 0 + t + 1 + (i - t) = i + 1 by omega] at ho
                  exact Lib.hid (HN2.out v3 w5 ht HT.out (.inr (by rw [Hy.out]; omega)) (own_more ho hz2) (HPb.out.trans (Hb3.out.mono hz2)))
                go_roundw
                case rel => exact ⟨i + 1, _, by go_num, hlt, HF⟩
                case measure => go_light; simp [intOf]; omega
          · have hg : decide ((t : Int) < (i : Int)) = false := decide_eq_false (by omega)
            go_wp2_with fail
            go_quiet (fail)
            have Hw3 := Lib.hid (below_drewN Hw2.out nq)
            clear Hw2 HW
            generalize w2.drewN nq = w2 at *
            have Hw2 := Hw3
            clear Hw3
            by_cases hct : co = t
            · obtain rfl : i = t := by omega
              subst hct
              have Hc2 : Hid (w2.cell? ⟨ba, oa + co, none⟩ = some (.int .u64 (x : Int))) := Lib.hid ((Hw2.out.cell (p := ⟨ba, oa + co, none⟩) Hba.out).trans Hcx.out)
              have Hba2 : Hid (ba < w2.heap.size) := by have := Hba.out; have := Hw2.out.size; exact Lib.hid (by omega)
              have HSee := Lib.hid ((Hout.out.below Hw2.out).more Hw2.out.size)
              have HN2 := Lib.hid (HNX.out co)
              have hz2 : base ≤ w2.heap.size := Nat.le_trans HP.out.size Hw2.out.size
              have HPb : Hid (Below base wo w2) := Lib.hid (Hw2.out.mono HP.out.size)
              have Ho0 := Lib.hid (own_empty w2 w2.heap.size 22 (Nat.le_refl _))
              have Hb0 := Lib.hid ((Below.refl w2.heap.size w2).alloc (Nat.le_refl _) (.cells #[] 22))
              have Htake : Hid ((out.take co).length = co) := Lib.hid (by rw [List.length_take, Hlen.out]; omega)
              have Hput : Hid (ints .u64 (putIn out co x) = [] ++ ints .u64 (out.take co) ++ [.int .u64 (x : Int)] ++ ints .u64 []) := Lib.hid (by unfold putIn; rw [List.drop_of_length_le (by rw [Hlen.out]; omega), ints_append, ints_append]; rfl)
              clear Hcx HNX HP Hout hc
              go_wp2_with (first
                | (at_builtin
                   refine wpList_append_row u64T (.tmp 36) (.tmp 39) rfl rfl w2.heap.size _ 0 [] rfl Ho0.out co co rfl Htake.out (fun h => by cases h) ((HSee.out.take co).below Hb0.out) (by omega) Hb0.out.size ?_
                   intro v1 w3 ho1 hg1
                   have Hb1 := Lib.hid (Hb0.out.grown hg1 Hb0.out.size (fun k hk => (Ho0.out.lt k hk).1))
                   have Ho1 := Lib.hid ho1
                   have hc3 : w3.cell? ⟨ba, oa + co, none⟩ = some (.int .u64 (x : Int)) := (Hb1.out.cell (p := ⟨ba, oa + co, none⟩) Hba2.out).trans Hc2.out
                   clear ho1 hg1)
                | (at_builtin
                   refine wpList_append1 u64T (.tmp 41) (.tmp 46) rfl rfl w2.heap.size v1 (0 + co) ([] ++ ints .u64 (out.take co)) rfl rfl rfl Ho1.out (by omega) Hb1.out.size ?_
                   intro v2 w4 ho2 hg2
                   have Hb2 := Lib.hid ((Hb1.out.alloc Hb1.out.size _).grown hg2 (Nat.le_trans Hb1.out.size (by simp)) (fun k hk => (Ho1.out.lt k hk).1))
                   have Ho2 := Lib.hid ho2
                   clear ho2 hg2)
                | (at_builtin
                   refine wpList_append_row u64T (.tmp 48) (.tmp 51) rfl rfl w2.heap.size v2 (0 + co + 1) ([] ++ ints .u64 (out.take co) ++ [Value.int .u64 (x : Int)]) rfl Ho2.out (l := []) 0 0 rfl rfl (fun _ => rfl) (nil_sees .u64 _ _) (by omega) Hb2.out.size ?_
                   intro v3 w5 ho3 hg3
                   have Hb3 := Lib.hid (Hb2.out.grown hg3 Hb2.out.size (fun k hk => (Ho2.out.lt k hk).1))
                   have Ho3 := Lib.hid ho3
                   clear ho3 hg3))
              have HF : Hid (RefPuts frm l base w (co + 1) (putIn out co x) v3 w5) := by
                have ho := Ho3.out
                rw [← Hput.out, show 0 + co + 1 + 0 = co + 1 by omega] at ho
                exact Lib.hid (HN2.out v3 w5 ht HT.out (.inl rfl) (own_more ho hz2) (HPb.out.trans (Hb3.out.mono hz2)))
              go_roundw
              case rel => exact ⟨co + 1, _, by go_num, hlt, HF⟩
              case measure => go_light; simp [intOf]; omega
            · have hct2 : t < co := by omega
              have Hc2 : Hid (w2.cell? ⟨ba, oa + i, none⟩ = some (.int .u64 (x : Int))) := Lib.hid ((Hw2.out.cell (p := ⟨ba, oa + i, none⟩) Hba.out).trans Hcx.out)
              have Hba2 : Hid (ba < w2.heap.size) := by have := Hba.out; have := Hw2.out.size; exact Lib.hid (by omega)
              have HSee := Lib.hid ((Hout.out.below Hw2.out).more Hw2.out.size)
              have HN2 := Lib.hid (HNX.out t)
              have hz2 : base ≤ w2.heap.size := Nat.le_trans HP.out.size Hw2.out.size
              have HPb : Hid (Below base wo w2) := Lib.hid (Hw2.out.mono HP.out.size)
              have Ho0 := Lib.hid (own_empty w2 w2.heap.size 22 (Nat.le_refl _))
              have Hb0 := Lib.hid ((Below.refl w2.heap.size w2).alloc (Nat.le_refl _) (.cells #[] 22))
              have Htake : Hid ((out.take t).length = t) := Lib.hid (by rw [List.length_take, Hlen.out]; omega)
              have Hdrop : Hid ((out.drop t).length = i - t) := Lib.hid (by rw [List.length_drop, Hlen.out])
              have Hput : Hid (ints .u64 (putIn out t x) = [] ++ ints .u64 (out.take t) ++ [.int .u64 (x : Int)] ++ ints .u64 (out.drop t)) := Lib.hid (by unfold putIn; rw [ints_append, ints_append]; rfl)
              clear Hcx HNX HP Hout hc
              go_wp2_with (first
                | (at_builtin
                   refine wpList_append_row u64T (.tmp 36) (.tmp 39) rfl rfl w2.heap.size _ 0 [] rfl Ho0.out t co rfl Htake.out (fun h => by cases h) ((HSee.out.take t).below Hb0.out) (by omega) Hb0.out.size ?_
                   intro v1 w3 ho1 hg1
                   have Hb1 := Lib.hid (Hb0.out.grown hg1 Hb0.out.size (fun k hk => (Ho0.out.lt k hk).1))
                   have Ho1 := Lib.hid ho1
                   have hc3 : w3.cell? ⟨ba, oa + i, none⟩ = some (.int .u64 (x : Int)) := (Hb1.out.cell (p := ⟨ba, oa + i, none⟩) Hba2.out).trans Hc2.out
                   clear ho1 hg1)
                | (at_builtin
                   refine wpList_append1 u64T (.tmp 41) (.tmp 46) rfl rfl w2.heap.size _ (0 + t) ([] ++ ints .u64 (out.take t)) rfl rfl rfl Ho1.out (by omega) Hb1.out.size ?_
                   intro v2 w4 ho2 hg2
                   have Hb2 := Lib.hid ((Hb1.out.alloc Hb1.out.size _).grown hg2 (Nat.le_trans Hb1.out.size (by simp)) (fun k hk => (Ho1.out.lt k hk).1))
                   have Ho2 := Lib.hid ho2
                   clear ho2 hg2)
                | (at_builtin
                   refine wpList_append_row u64T (.tmp 48) (.tmp 51) rfl rfl w2.heap.size v2 (0 + t + 1) ([] ++ ints .u64 (out.take t) ++ [Value.int .u64 (x : Int)]) rfl Ho2.out (i - t) (co - t) rfl Hdrop.out (fun h => by cases h) ((by have := (HSee.out.drop t).below Hb2.out; rwa [Nat.zero_add] at this)) (by omega) Hb2.out.size ?_
                   intro v3 w5 ho3 hg3
                   have Hb3 := Lib.hid (Hb2.out.grown hg3 Hb2.out.size (fun k hk => (Ho2.out.lt k hk).1))
                   have Ho3 := Lib.hid ho3
                   clear ho3 hg3))
              have HF : Hid (RefPuts frm l base w (i + 1) (putIn out t x) v3 w5) := by
                have ho := Ho3.out
                rw [← Hput.out, show 0 + t + 1 + (i - t) = i + 1 by omega] at ho
                exact Lib.hid (HN2.out v3 w5 ht HT.out (.inl (by omega)) (own_more ho hz2) (HPb.out.trans (Hb3.out.mono hz2)))
              go_roundw
              case rel => exact ⟨i + 1, _, by go_num, hlt, HF⟩
              case measure => go_light; simp [intOf]; omega
    · obtain rfl : i = n := by omega
      go_wp2_with fail
      go_ret
      exact ⟨_, out, rfl, HP.out⟩
end Go.Proofs.Ytjkpkailcemjhaa
