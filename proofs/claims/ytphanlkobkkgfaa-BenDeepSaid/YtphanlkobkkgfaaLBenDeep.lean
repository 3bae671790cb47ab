/- The walk of the law BenDeep. -/
import Derived.Test.YtphanlkobkkgfaaAwake12
import Derived.Test.YtphanlkobkkgfaaMk11
import Derived.Test.YtphanlkobkkgfaaPA
import Derived.Test.YtphanlkobkkgfaaLBenParses
namespace Go.Proofs.Ytphanlkobkkgfaa
open Go.RowKit
set_option linter.unusedVariables false
set_option maxRecDepth 100000
set_option linter.unusedSimpArgs false

/-- what loops have appended that write bytes into a row of the call's own -/
structure Grew (base : Nat) (xs : List Nat) (w : World) (v : Value) (wr : World) : Prop where
  own : wr.ownsRow base 5 1 v xs.length (ints .u8 xs)
  below : Below base w wr
  size : base ≤ wr.heap.size
theorem Grew.snoc {base : Nat} {xs ys : List Nat} {w wr w1 : World} {v v' : Value} {o : Obj} {x : Nat} (h : Grew base xs w v wr) (ho : w1.ownsRow base 5 1 v' (xs.length + 1) (ints .u8 xs ++ [.int .u8 (x : Int)])) (hg : (wr.alloc o).grownBy w1 v.ownBlock) (hy : xs ++ [x] = ys) : Grew base ys w v' w1 := by
  subst hy
  obtain ⟨h1, h2, h3⟩ := h
  refine ⟨?_, (h2.alloc h3 o).grown hg (by simp; omega) (fun k hk => (h1.lt k hk).1), ?_⟩
  · rw [List.length_append, ints_append]; exact ho
  · have := hg.size; simp at this; omega
theorem rep_snoc (j x : Nat) : List.replicate j x ++ [x] = List.replicate (j + 1) x := List.replicate_succ'.symm
theorem rep_byte (m n : Nat) : ∀ x ∈ List.replicate m 108 ++ List.replicate n 101, x < 256 := by
  intro x hx
  rcases List.mem_append.1 hx with h | h
  · have := List.eq_of_mem_replicate h; omega
  · have := List.eq_of_mem_replicate h; omega
theorem rep_parse {m : Nat} (h : 1 ≤ m) : (Bn.parse (List.replicate m 108 ++ List.replicate m 101)).2 = if m ≤ 8 then 0 else 6 := by
  obtain ⟨k, rfl⟩ : ∃ k, m = k + 1 := ⟨m - 1, by omega⟩
  exact Bn.parse_deep k

set_option maxHeartbeats 2000000 in
theorem benDeep_walk (a : Int) (w : World) (wa : (Lit.int .i64 a).wf = true) :
    Calls Try.prog 6 #[.int .i64 a] w fun e w' => e = .returned (.bool true) ∧ Below w.heap.size w w' := by
  obtain ⟨h1, h2⟩ := bounds_i64 wa
  clear wa
  by_cases hr : a < 1
  case pos =>
    go_enter Try.func6, Try.ntmps6
    go_wp2_with fail
    refine (awake12 _).mono ?_
    rintro e w3 ⟨rfl, hb3⟩
    have HB3 := Lib.hid hb3
    clear hb3
    go_wp2_with fail
    go_ret
    exact ⟨rfl, HB3.out⟩
  by_cases hr2 : 300 < a
  case pos =>
    go_enter Try.func6, Try.ntmps6
    go_wp2_with fail
    refine (awake12 _).mono ?_
    rintro e w3 ⟨rfl, hb3⟩
    have HB3 := Lib.hid hb3
    clear hb3
    go_wp2_with fail
    go_ret
    exact ⟨rfl, HB3.out⟩
  obtain ⟨m, rfl⟩ : ∃ m : Nat, a = m := ⟨a.toNat, by omega⟩
  have hm1 : 1 ≤ m := by omega
  have hm2 : m ≤ 300 := by omega
  clear hr hr2 h1 h2
  obtain ⟨B, hB⟩ : ∃ B, Hid (w.heap.size = B) := ⟨_, rfl⟩
  have HS : Hid (Grew w.heap.size (List.replicate 0 108) w (.slice (some ⟨w.heap.size, 0, none⟩) 0 0) (w.alloc (.cells #[] 5))) := Lib.hid ⟨own_lit0 w rfl (Nat.le_refl _), (Below.refl _ w).alloc (Nat.le_refl _) _, by simp⟩
  rw [hB.out] at HS ⊢
  go_enter Try.func6, Try.ntmps6
  go_wp2_with fail
  try rw [hB.out]
  go_loopw [3, 4] (fun v i wr => ∃ (j : Nat), i = .int .i64 j ∧ j ≤ m ∧ Hid (Grew B (List.replicate j 108) w v wr)) (fun _ i _ => m - (intOf i).toNat)
  case atStart => exact ⟨0, rfl, by omega, HS⟩
  case round =>
    obtain ⟨j, rfl, hj, HP⟩ := hrel
    by_cases hlt : j < m
    · go_wp2_with (at_builtin; refine wpList_append1 byteT _ _ rfl rfl B _ (List.replicate j 108).length (ints .u8 (List.replicate j 108)) rfl rfl rfl HP.out.own (by rw [List.length_replicate]; omega) HP.out.size ?_; intro v' w1 ho1 hg1)
      go_roundw
      case rel => exact ⟨j + 1, by go_num, by omega, Lib.hid (HP.out.snoc (x := 108) ho1 hg1 (rep_snoc j 108))⟩
      case measure => simp [intOf]; omega
    · obtain rfl : j = m := by omega
      clear hlt hj
      have HS2 : Hid (Grew B (List.replicate j 108 ++ List.replicate 0 101) w u3 wr) := Lib.hid (by simpa using HP.out)
      clear HP HS
      go_wp2_with fail
      go_loopw [3, 5] (fun v i wx => ∃ (n : Nat), i = .int .i64 n ∧ n ≤ j ∧ Hid (Grew B (List.replicate j 108 ++ List.replicate n 101) w v wx)) (fun _ i _ => j - (intOf i).toNat)
      case atStart => exact ⟨0, rfl, by omega, HS2⟩
      case round =>
        obtain ⟨n, rfl, hn, HP⟩ := hrel
        by_cases hlt : n < j
        · obtain ⟨xs, hxs⟩ : ∃ xs : List Nat, Hid (List.replicate j 108 ++ List.replicate n 101 = xs) := ⟨_, Lib.hid rfl⟩
          have hlen : Hid (xs.length ≤ 600) := Lib.hid (by rw [← hxs.out, List.length_append, List.length_replicate, List.length_replicate]; omega)
          rw [hxs.out] at HP
          go_wp2_with (at_builtin; refine wpList_append1 byteT _ _ rfl rfl B _ xs.length (ints .u8 xs) rfl rfl rfl HP.out.own (by have := hlen.out; omega) HP.out.size ?_; intro v' w1 ho1 hg1)
          go_roundw
          case rel => exact ⟨n + 1, by go_num, by omega, Lib.hid (HP.out.snoc (x := 101) ho1 hg1 (by rw [← hxs.out, List.append_assoc, rep_snoc n 101]))⟩
          case measure => simp [intOf]; omega
        · obtain rfl : n = j := by omega
          clear hlt hn HS2
          have HB1 := Lib.hid HP.out.below
          have C1 := Lib.hid (parse12_any (Pc.of_own HP.out.own) (Nat.le_refl _) (rep_byte n n) (by rw [List.length_append, List.length_replicate, List.length_replicate]; omega))
          have HR := Lib.hid (rep_parse hm1)
          obtain ⟨t, pe, hp⟩ : ∃ t pe, Bn.parse (List.replicate n 108 ++ List.replicate n 101) = (t, pe) := ⟨_, _, rfl⟩
          rw [hp] at HR
          have HP' := Lib.hid hp
          clear hp HP
          have hfin : (n ≤ 8 ∧ pe = 0) ∨ (¬ n ≤ 8 ∧ pe = 6) := by
            have h := HR.out
            by_cases h8 : n ≤ 8
            · rw [if_pos h8] at h; exact .inl ⟨h8, h⟩
            · rw [if_neg h8] at h; exact .inr ⟨h8, h⟩
          clear HR
          rcases hfin with ⟨h8, rfl⟩ | ⟨h8, rfl⟩
          all_goals
            go_wp2_with fail
            refine (C1.out).mono ?_
            rintro e w2 hpost
            obtain ⟨vk, vq, rfl, hx2, hb2⟩ := hpost.simple HP'.out
            clear hpost
            obtain ⟨Ak, ck, Aq, cq, g, u0, u1, rfl, rfl, hg, hal, hW, hst, hU, hc, hz⟩ := var11 hx2
            have HB2 := Lib.hid (HB1.out.trans ((hb2.trans (hc.mono (by have := hb2.size; omega))).mono (by have := HB1.out.size; have := hB.out; omega)))
            have HW := Lib.hid hW
            clear hb2 hx2 hc hW hU
            go_wp2_with (refine wpList_store_whole rfl rfl rfl rfl rfl HW.out (treeI rfl) rfl (by simp [Value.oneCell']) ?_; try rw [hst])
            refine (awake12 _).mono ?_
            rintro e w5 ⟨rfl, hb5⟩
            have HB5 := Lib.hid (HB2.out.trans (hb5.mono (by have := HB2.out.size; have := hB.out; omega)))
            clear hb5
            go_wp2_with fail
            go_ret
            refine ⟨?_, HB5.out⟩
            simp
            omega
end Go.Proofs.Ytphanlkobkkgfaa
