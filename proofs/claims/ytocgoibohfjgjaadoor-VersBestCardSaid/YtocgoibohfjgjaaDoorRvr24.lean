/- Contract of layer 24's reference: Read. -/
import Derived.Test.YtocgoibohfjgjaaDoorRvt24
import Derived.Test.YtocgoibohfjgjaaDoorStrs
import Derived.Test.YtocgoibohfjgjaaDoorPA
namespace Go.Proofs.YtocgoibohfjgjaaDoor
open Go.RowKit
set_option linter.unusedVariables false
set_option maxRecDepth 100000
set_option linter.unusedSimpArgs false

theorem sees_newk {k : IntKind} {w : World} {fr : Nat × Nat} (b : Nat) (l : List Nat) (cs : Array Value) (t : TypeId) (hb : b = w.heap.size) (h : cs.toList = ints k l) : Sees k (w.alloc (.cells cs t fr)) (b + 1) (some ⟨b, 0, none⟩) l := fun hl =>
  ⟨b, 0, rfl, by omega, fun i hi => by
    subst hb
    have hg := ints_get k l i hi
    rw [← h] at hg
    simp only [World.cell?, World.alloc, Array.getElem?_push_size]
    simpa using hg⟩
/-- a row of the call's own as a slice of int -/
theorem own_rowI {w : World} {base : Nat} {t : TypeId} {A : Option Addr} {n c : Nat} {l : List Nat} (h : w.ownsRow base t 1 (.slice A n c) n (ints .i64 l)) (hn : l.length = n) (hb : ∀ x ∈ l, x ≤ 9223372036854775807) : RowI w A n c (l.map fun (x : Nat) => (x : Int)) := by
  obtain ⟨A', c', e, h1, h2, h3, h4⟩ := own_look h
  cases e
  refine ⟨by rw [List.length_map]; exact hn, fun hp => ?_, fun x hx => ?_, h1, h2, h3⟩
  · rw [List.length_map] at hp
    have g0 := ints_get .i64 l 0 hp
    obtain ⟨b, rfl, _, hlt, _⟩ := h4 0 _ g0
    refine ⟨b, 0, rfl, hlt, fun i hi => ?_⟩
    rw [List.length_map] at hi
    obtain ⟨b', e, _, _, hc⟩ := h4 i _ (ints_get .i64 l i hi)
    cases e
    rw [Nat.zero_add, hc]
    simp [List.getD, List.getElem?_eq_getElem hi]
  · obtain ⟨y, hy, rfl⟩ := List.mem_map.1 hx
    have := hb y hy
    omega
namespace Vs
/-- the versions whose text is the word, as numbers -/
def sameK (word : List Nat) : Nat → List Nat
  | 0 => []
  | k + 1 => if Nm.put ((k : Int) + 1) = word then sameK word k ++ [k + 1] else sameK word k
theorem sameK_map (word : List Nat) : ∀ k, (sameK word k).map (fun (x : Nat) => (x : Int)) = same word k
  | 0 => rfl
  | k + 1 => by
    rw [sameK, same, ← sameK_map word k]
    split <;> simp
theorem sameK_le (word : List Nat) : ∀ k, ∀ x ∈ sameK word k, x ≤ k
  | 0, x, h => by cases h
  | k + 1, x, h => by
    rw [sameK] at h
    split at h
    · rcases List.mem_append.1 h with h | h
      · have := sameK_le word k x h; omega
      · simp at h; omega
    · have := sameK_le word k x h; omega
theorem sameK_len (word : List Nat) : ∀ k, (sameK word k).length ≤ k
  | 0 => Nat.le_refl _
  | k + 1 => by
    have := sameK_len word k
    rw [sameK]
    split
    · rw [List.length_append]; simp; omega
    · omega
theorem sameK_in {word : List Nat} {k : Nat} (h : Nm.put ((k : Int) + 1) = word) : sameK word (k + 1) = sameK word k ++ [k + 1] := by rw [sameK, if_pos h]
theorem sameK_not {word : List Nat} {k : Nat} (h : ¬ Nm.put ((k : Int) + 1) = word) : sameK word (k + 1) = sameK word k := by rw [sameK, if_neg h]
/-- what the loop of Read holds when it stands at byte i -/
structure Rds (S : List Nat) (i : Nat) (L : List Nat) (wd : List Nat) : Prop where
  at_ : i ≤ S.length → (L.map fun (x : Nat) => (x : Int)) ++ words (S.drop i) wd = words S []
  end_ : i = S.length + 1 → (L.map fun (x : Nat) => (x : Int)) = words S []
  small : ∀ x ∈ L, x ≤ 16
  len : L.length ≤ 16 * i
  word : wd.length ≤ i
  byte : ∀ c ∈ wd, c < 256
theorem Rds.start (S : List Nat) : Rds S 0 [] [] := ⟨(fun _ => by simp), (fun h => by omega), (fun x h => by cases h), by simp, by simp, (fun c h => by cases h)⟩
theorem Rds.more {S : List Nat} {i : Nat} {L wd : List Nat} (h : Rds S i L wd) (hi : i < S.length) (hb : ∀ c ∈ S, c < 256) (hc : ¬ S[i] = 44) : Rds S (i + 1) L (wd ++ (S.drop i).take 1) := by
  obtain ⟨h1, h2, h3, h4, h5, h6⟩ := h
  have e : S.drop i = S[i] :: S.drop (i + 1) := List.drop_eq_getElem_cons hi
  refine ⟨fun hle => ?_, fun hh => by omega, h3, by omega, ?_, fun c hcm => ?_⟩
  · have := h1 (by omega)
    rw [e, words, if_neg hc] at this
    rw [show (S.drop i).take 1 = [S[i]] by rw [e]; rfl]
    exact this
  · rw [List.length_append, List.length_take]; omega
  · rcases List.mem_append.1 hcm with hcm | hcm
    · exact h6 c hcm
    · exact hb c (List.mem_of_mem_drop (List.mem_of_mem_take hcm))
theorem Rds.flush {S : List Nat} {i : Nat} {L wd : List Nat} (h : Rds S i L wd) (hle : i ≤ S.length) (hc : i = S.length ∨ ∃ hi : i < S.length, S[i] = 44) : Rds S (i + 1) (L ++ sameK wd 16) [] := by
  obtain ⟨h1, h2, h3, h4, h5, h6⟩ := h
  have h7 := sameK_len wd 16
  have hm : ((L ++ sameK wd 16).map fun (x : Nat) => (x : Int)) = (L.map fun (x : Nat) => (x : Int)) ++ same wd 16 := by rw [List.map_append, sameK_map]
  refine ⟨fun hle2 => ?_, fun hh => ?_, fun x hx => ?_, by rw [List.length_append]; omega, by simp, (fun c h => by cases h)⟩
  · rcases hc with hc | ⟨hi, hc⟩
    · omega
    · have := h1 hle
      rw [List.drop_eq_getElem_cons hi, words, if_pos hc, ← List.append_assoc] at this
      rw [hm]; exact this
  · have hl : i = S.length := by omega
    have := h1 hle
    rw [hl, List.drop_length, words] at this
    rw [hm]; exact this
  · rcases List.mem_append.1 hx with hx | hx
    · exact h3 x hx
    · exact sameK_le wd 16 x hx
theorem read_of {S : List Nat} : read S = if text (set (words S [])) = S then (set (words S []), 0) else (0, 3) := rfl
end Vs
set_option maxHeartbeats 4000000 in
theorem rread24_any {w : World} {s : ByteArray} {S : List Nat} (T : Txt s S) (hl : S.length ≤ 1000000000) :
    Calls Tryd.prog 17 #[.string s] w fun e w' => e = .returned (.tuple #[.int .u16 (((Vs.read S).1 : Nat) : Int), .int .i64 (((Vs.read S).2 : Nat) : Int)]) ∧ Below w.heap.size w w' := by
  have hsz := T.size
  have hat : ∀ (i : Nat) (h : i < s.size), (s[i]'h).toNat = S.getD i 0 := fun i h => T.at_ i h
  have HT := Lib.hid T
  have HByte := Lib.hid T.byte
  obtain ⟨n, hn⟩ : ∃ n, Hid (S.length = n) := ⟨_, Lib.hid rfl⟩
  rw [hn.out] at hsz hl
  have HPu := Lib.hid (fun W (k : Nat) (hk : k < 16) => rput_any' ((k : Int) + 1) (by omega) (by omega) W)
  clear T
  go_enter Tryd.func17, Tryd.ntmps17
  go_wp2_with fail
  go_loopw [4, 5, 6] (fun v y x wr => ∃ (i : Nat) (L wd : List Nat) (σ : ByteArray), i ≤ n + 1 ∧ x = .int .i64 (i : Int) ∧ y = .string σ ∧ Hid (Txt σ wd) ∧ Hid (Vs.Rds S i L wd) ∧ Hid (wr.ownsRow w.heap.size 3 1 v L.length (ints .i64 L)) ∧ Hid (Below w.heap.size w wr)) (fun _ _ x _ => n + 1 - (intOf x).toNat)
  case atStart => exact ⟨0, [], [], _, by omega, rfl, rfl, Lib.hid (Txt.lit []), Lib.hid (Vs.Rds.start S), Lib.hid (World.ownsRow_nil _ _ 3 1), Lib.hid (Below.refl _ _)⟩
  case round =>
    obtain ⟨i, L, wd, σ, hi, rfl, rfl, HW, HR, HO, HB⟩ := hrel
    obtain ⟨A, c, rfl, hLc, _, _⟩ := own_look HO.out
    have hwl := HR.out.word
    have hLl := HR.out.len
    have hσ := HW.out.size
    have hσi : σ.size ≤ i := by omega
    have hL16 : L.length ≤ 16 * n + 16 := by omega
    by_cases hle : i ≤ n
    · by_cases hin : i < n
      · have hat1 := fun (h : i < s.size) => hat i h
        have hiS : i < S.length := by rw [hn.out]; exact hin
        have hg : S.getD i 0 = S[i] := by simp [List.getD, List.getElem?_eq_getElem hiS]
        have hb256 : S[i] < 256 := HByte.out _ (List.getElem_mem hiS)
        obtain ⟨q, hq⟩ : ∃ q, Hid (S.getD i 0 = q) := ⟨_, Lib.hid rfl⟩
        rw [hq.out] at hat1
        have HqS : Hid (S[i] = q) := Lib.hid (by rw [← hg]; exact hq.out)
        by_cases hc : q = 44
        · have HCnd : Hid (i = S.length ∨ ∃ hi : i < S.length, S[i] = 44) := Lib.hid (.inr ⟨hiS, by rw [HqS.out]; exact hc⟩)
          have hcd : ((q : Int) != 44) = false := by simp; omega
          clear hat hg hb256 hc HqS hiS
          obtain ⟨wo, rfl⟩ : ∃ W, W = wr := ⟨_, rfl⟩
          go_wp2_with fail
          go_loopw [4, 7] (fun v x wx => ∃ (k : Nat), k ≤ 16 ∧ x = .int .i64 ((k : Int) + 1) ∧ Hid (wx.ownsRow w.heap.size 3 1 v (L ++ Vs.sameK wd k).length (ints .i64 (L ++ Vs.sameK wd k))) ∧ Hid (Below w.heap.size w wx)) (fun _ x _ => 17 - (intOf x).toNat)
          case atStart => exact ⟨0, by omega, rfl, Lib.hid (by rw [show L ++ Vs.sameK wd 0 = L by simp [Vs.sameK]]; exact HO.out), HB⟩
          case round =>
            obtain ⟨k, hk, rfl, HOk, HBk⟩ := hrel
            have hkl := Vs.sameK_len wd k
            obtain ⟨Ak, ck, rfl, hLk, _, _⟩ := own_look HOk.out
            obtain ⟨M, hM⟩ : ∃ M, Hid (L ++ Vs.sameK wd k = M) := ⟨_, Lib.hid rfl⟩
            have hMl : M.length ≤ 16 * n + 32 := by rw [← hM.out, List.length_append]; omega
            rw [hM.out] at HOk
            obtain ⟨m, hm⟩ : ∃ m, Hid (M.length = m) := ⟨_, Lib.hid rfl⟩
            rw [hm.out] at hMl HOk
            rw [hM.out, hm.out] at hLk ⊢
            by_cases hk16 : k < 16
            · have hk1 : (k : Int) + 1 < 17 := by omega
              have CP := Lib.hid (HPu.out wr k hk16)
              have HPt : Hid (Txt (strOf (Nm.put ((k : Int) + 1))) (Nm.put ((k : Int) + 1))) := Lib.hid (Txt.of (Nm.put_byte _))
              have heq := HPt.out.eql HW.out
              have HIn := Lib.hid (Vs.sameK_in (word := wd) (k := k))
              have HNo := Lib.hid (Vs.sameK_not (word := wd) (k := k))
              obtain ⟨z, hz⟩ : ∃ z, Hid (decide (Nm.put ((k : Int) + 1) = wd) = z) := ⟨_, Lib.hid rfl⟩
              rw [hz.out] at heq
              obtain ⟨u, hu⟩ : ∃ u, Hid (strOf (Nm.put ((k : Int) + 1)) = u) := ⟨_, Lib.hid rfl⟩
              rw [hu.out] at CP heq
              cases z
              · have HE := Lib.hid (HNo.out (of_decide_eq_false hz.out))
                go_wp2_with fail
                refine (CP.out).mono ?_
                rintro e w1 ⟨rfl, hb⟩
                have HO1 := Lib.hid (own_below HOk.out (hb.mono (Nat.le_refl _)))
                have HB1 := Lib.hid (HBk.out.trans (hb.mono HBk.out.size))
                clear hb
                go_wp2_with fail
                go_roundw
                case rel => exact ⟨k + 1, by omega, by go_num, Lib.hid (by rw [HE.out, hM.out, hm.out]; exact HO1.out), HB1⟩
                case measure => simp [intOf]; omega
              · have HE := Lib.hid (HIn.out (of_decide_eq_true hz.out))
                go_wp2_with fail
                refine (CP.out).mono ?_
                rintro e w1 ⟨rfl, hb⟩
                have HB1 := Lib.hid (HBk.out.trans (hb.mono HBk.out.size))
                have hz1 : w.heap.size ≤ w1.heap.size := HB1.out.size
                have HO1 : Hid ((w1.alloc (.cells #[.int .i64 ((k : Int) + 1)] 3)).ownsRow w.heap.size 3 1 (.slice Ak m ck) m (ints .i64 M)) := Lib.hid (own_below HOk.out (hb.alloc hb.size _))
                have HS1 : Hid (Sees .i64 (w1.alloc (.cells #[.int .i64 ((k : Int) + 1)] 3)) (w1.heap.size + 1) (some ⟨w1.heap.size, 0, none⟩) [k + 1]) := Lib.hid (sees_newk _ _ _ _ rfl (by simp [ints]))
                have HBa : Hid (Below w.heap.size w (w1.alloc (.cells #[.int .i64 ((k : Int) + 1)] 3))) := Lib.hid (HB1.out.alloc hz1 _)
                clear hb
                go_wp2_with (at_builtin; refine wpList_append_row intT _ _ rfl rfl w.heap.size _ m _ rfl HO1.out 1 1 rfl rfl (fun h => by cases h) HS1.out (by omega) (by simp; omega) ?_; intro v4 w4 ho4 hg4)
                refine ⟨⟨k + 1, by omega, by simp, ?_, ?_⟩, by simp [intOf]; omega⟩
                · rw [← ints_append] at ho4
                  rw [HE.out, ← List.append_assoc, hM.out, List.length_append, hm.out]
                  exact Lib.hid ho4
                · exact Lib.hid (HBa.out.grown hg4 (by simp; omega) (fun z hz => (HO1.out.lt z hz).1))
            · obtain rfl : k = 16 := by omega
              have HRn := Lib.hid (HR.out.flush (by rw [hn.out]; omega) HCnd.out)
              go_wp2_with fail
              go_roundw
              case rel => exact ⟨i + 1, L ++ Vs.sameK wd 16, [], _, by omega, by go_num, rfl, Lib.hid (Txt.lit []), HRn, Lib.hid (by rw [hM.out, hm.out]; exact HOk.out), HBk⟩
              case measure => simp [intOf]; omega
        · have hcd : ((q : Int) != 44) = true := by simp; omega
          have HRn := Lib.hid (HR.out.more hiS HByte.out (by rw [HqS.out]; exact hc))
          have HWn := Lib.hid (HW.out.join (HT.out.cut i (i + 1)))
          rw [show i + 1 - i = 1 by omega] at HWn
          have hxs : (s.extract i (i + 1)).size = 1 := by rw [ByteArray.size_extract]; omega
          clear hat hg hb256 hc HqS hiS
          go_wp2_with fail
          go_roundw
          case rel => exact ⟨i + 1, L, _, _, by omega, by go_num, rfl, HWn, HRn, HO, HB⟩
          case measure => simp [intOf]; omega
      · have HCnd : Hid (i = S.length ∨ ∃ hi : i < S.length, S[i] = 44) := Lib.hid (.inl (by rw [hn.out]; omega))
        clear hat
        obtain ⟨wo, rfl⟩ : ∃ W, W = wr := ⟨_, rfl⟩
        go_wp2_with fail
        go_loopw [4, 7] (fun v x wx => ∃ (k : Nat), k ≤ 16 ∧ x = .int .i64 ((k : Int) + 1) ∧ Hid (wx.ownsRow w.heap.size 3 1 v (L ++ Vs.sameK wd k).length (ints .i64 (L ++ Vs.sameK wd k))) ∧ Hid (Below w.heap.size w wx)) (fun _ x _ => 17 - (intOf x).toNat)
        case atStart => exact ⟨0, by omega, rfl, Lib.hid (by rw [show L ++ Vs.sameK wd 0 = L by simp [Vs.sameK]]; exact HO.out), HB⟩
        case round =>
          obtain ⟨k, hk, rfl, HOk, HBk⟩ := hrel
          have hkl := Vs.sameK_len wd k
          obtain ⟨Ak, ck, rfl, hLk, _, _⟩ := own_look HOk.out
          obtain ⟨M, hM⟩ : ∃ M, Hid (L ++ Vs.sameK wd k = M) := ⟨_, Lib.hid rfl⟩
          have hMl : M.length ≤ 16 * n + 32 := by rw [← hM.out, List.length_append]; omega
          rw [hM.out] at HOk
          obtain ⟨m, hm⟩ : ∃ m, Hid (M.length = m) := ⟨_, Lib.hid rfl⟩
          rw [hm.out] at hMl HOk
          rw [hM.out, hm.out] at hLk ⊢
          by_cases hk16 : k < 16
          · have hk1 : (k : Int) + 1 < 17 := by omega
            have CP := Lib.hid (HPu.out wr k hk16)
            have HPt : Hid (Txt (strOf (Nm.put ((k : Int) + 1))) (Nm.put ((k : Int) + 1))) := Lib.hid (Txt.of (Nm.put_byte _))
            have heq := HPt.out.eql HW.out
            have HIn := Lib.hid (Vs.sameK_in (word := wd) (k := k))
            have HNo := Lib.hid (Vs.sameK_not (word := wd) (k := k))
            obtain ⟨z, hz⟩ : ∃ z, Hid (decide (Nm.put ((k : Int) + 1) = wd) = z) := ⟨_, Lib.hid rfl⟩
            rw [hz.out] at heq
            obtain ⟨u, hu⟩ : ∃ u, Hid (strOf (Nm.put ((k : Int) + 1)) = u) := ⟨_, Lib.hid rfl⟩
            rw [hu.out] at CP heq
            cases z
            · have HE := Lib.hid (HNo.out (of_decide_eq_false hz.out))
              go_wp2_with fail
              refine (CP.out).mono ?_
              rintro e w1 ⟨rfl, hb⟩
              have HO1 := Lib.hid (own_below HOk.out (hb.mono (Nat.le_refl _)))
              have HB1 := Lib.hid (HBk.out.trans (hb.mono HBk.out.size))
              clear hb
              go_wp2_with fail
              go_roundw
              case rel => exact ⟨k + 1, by omega, by go_num, Lib.hid (by rw [HE.out, hM.out, hm.out]; exact HO1.out), HB1⟩
              case measure => simp [intOf]; omega
            · have HE := Lib.hid (HIn.out (of_decide_eq_true hz.out))
              go_wp2_with fail
              refine (CP.out).mono ?_
              rintro e w1 ⟨rfl, hb⟩
              have HB1 := Lib.hid (HBk.out.trans (hb.mono HBk.out.size))
              have hz1 : w.heap.size ≤ w1.heap.size := HB1.out.size
              have HO1 : Hid ((w1.alloc (.cells #[.int .i64 ((k : Int) + 1)] 3)).ownsRow w.heap.size 3 1 (.slice Ak m ck) m (ints .i64 M)) := Lib.hid (own_below HOk.out (hb.alloc hb.size _))
              have HS1 : Hid (Sees .i64 (w1.alloc (.cells #[.int .i64 ((k : Int) + 1)] 3)) (w1.heap.size + 1) (some ⟨w1.heap.size, 0, none⟩) [k + 1]) := Lib.hid (sees_newk _ _ _ _ rfl (by simp [ints]))
              have HBa : Hid (Below w.heap.size w (w1.alloc (.cells #[.int .i64 ((k : Int) + 1)] 3))) := Lib.hid (HB1.out.alloc hz1 _)
              clear hb
              go_wp2_with (at_builtin; refine wpList_append_row intT _ _ rfl rfl w.heap.size _ m _ rfl HO1.out 1 1 rfl rfl (fun h => by cases h) HS1.out (by omega) (by simp; omega) ?_; intro v4 w4 ho4 hg4)
              refine ⟨⟨k + 1, by omega, by simp, ?_, ?_⟩, by simp [intOf]; omega⟩
              · rw [← ints_append] at ho4
                rw [HE.out, ← List.append_assoc, hM.out, List.length_append, hm.out]
                exact Lib.hid ho4
              · exact Lib.hid (HBa.out.grown hg4 (by simp; omega) (fun z hz => (HO1.out.lt z hz).1))
          · obtain rfl : k = 16 := by omega
            have HRn := Lib.hid (HR.out.flush (by rw [hn.out]; omega) HCnd.out)
            go_wp2_with fail
            go_roundw
            case rel => exact ⟨i + 1, L ++ Vs.sameK wd 16, [], _, by omega, by go_num, rfl, Lib.hid (Txt.lit []), HRn, Lib.hid (by rw [hM.out, hm.out]; exact HOk.out), HBk⟩
            case measure => simp [intOf]; omega
    · have HE := Lib.hid (HR.out.end_ (by rw [hn.out]; omega))
      have HSm := Lib.hid (fun x hx => Nat.le_trans (HR.out.small x hx) (show 16 ≤ 9223372036854775807 by omega))
      have HRd : Hid (Vs.read S = if Vs.text (Vs.set (Vs.words S [])) = S then (Vs.set (Vs.words S []), 0) else (0, 3)) := Lib.hid rfl
      have HTt := Lib.hid (Txt.of (Vs.text_byte (Vs.set (Vs.words S []))))
      have heq := HTt.out.eql HT.out
      have hts := Vs.set_lt (Vs.words S [])
      obtain ⟨z, hz⟩ : ∃ z, Hid (decide (Vs.text (Vs.set (Vs.words S [])) = S) = z) := ⟨_, Lib.hid rfl⟩
      rw [hz.out] at heq
      have CS := Lib.hid (fun W (h : Below wr.heap.size wr W) => rset24_any (own_rowI (own_below HO.out h) rfl HSm.out))
      rw [HE.out] at CS
      obtain ⟨t, ht⟩ : ∃ t, Hid (Vs.set (Vs.words S []) = t) := ⟨_, Lib.hid rfl⟩
      rw [ht.out] at CS HRd HTt heq hts hz
      have CT := Lib.hid (fun W => rtext24_any (w := W) hts)
      obtain ⟨m, hm⟩ : ∃ m, Hid (L.length = m) := ⟨_, Lib.hid rfl⟩
      obtain ⟨u, hu⟩ : ∃ u, Hid (strOf (Vs.text t) = u) := ⟨_, Lib.hid rfl⟩
      rw [hu.out] at CT heq
      rw [hm.out] at CS ⊢
      clear hat
      cases z
      · have HF : Hid (Vs.read S = (0, 3)) := Lib.hid (by rw [HRd.out, if_neg (of_decide_eq_false hz.out)])
        go_wp2_with fail
        refine (CS.out _ (Below.refl _ _)).mono ?_
        rintro e w1 ⟨rfl, rfl⟩
        go_wp2_with fail
        refine (CT.out _).mono ?_
        rintro e w2 ⟨rfl, hb⟩
        have HB2 := Lib.hid (HB.out.trans (hb.mono HB.out.size))
        clear hb
        go_wp2_with fail
        go_ret2
        exact ⟨by rw [HF.out]; rfl, HB2.out⟩
      · have HF : Hid (Vs.read S = (t, 0)) := Lib.hid (by rw [HRd.out, if_pos (of_decide_eq_true hz.out)])
        go_wp2_with fail
        refine (CS.out _ (Below.refl _ _)).mono ?_
        rintro e w1 ⟨rfl, rfl⟩
        go_wp2_with fail
        refine (CT.out _).mono ?_
        rintro e w2 ⟨rfl, hb⟩
        have HB2 := Lib.hid (HB.out.trans (hb.mono HB.out.size))
        have C2 := Lib.hid (CS.out w2 hb)
        clear hb
        go_wp2_with fail
        refine (C2.out).mono ?_
        rintro e w3 ⟨rfl, rfl⟩
        go_wp2_with fail
        go_ret2
        exact ⟨by rw [HF.out]; rfl, HB2.out⟩
end Go.Proofs.YtocgoibohfjgjaaDoor
