/- Contract of the reference's value of layer 12, out of that of its list. -/
import Derived.Test.YtphanlkobkkgfaaTp12
import Derived.Test.YtphanlkobkkgfaaRnum12
import Derived.Deep.CutRange
namespace Go.Proofs.Ytphanlkobkkgfaa
open Go.RowKit
set_option linter.unusedVariables false
set_option maxRecDepth 100000
set_option linter.unusedSimpArgs false

namespace Bn
theorem value_end : ∀ k, value k [] = .bad 2
  | 0 => by rw [value]
  | k + 1 => by rw [value]
theorem value_form {c : Nat} {l : List Nat} (h : digit c = false ∧ c ≠ 105 ∧ c ≠ 108 ∧ c ≠ 100) : ∀ k, value k (c :: l) = .bad 3
  | 0 => by rw [value, if_pos h]
  | k + 1 => by rw [value, if_pos h]
theorem value_deep {c : Nat} {l : List Nat} (h : ¬ (digit c = false ∧ c ≠ 105 ∧ c ≠ 108 ∧ c ≠ 100)) : value 0 (c :: l) = .bad 6 := by rw [value, if_neg h]
theorem value_word {k c : Nat} {l : List Nat} (h : digit c = true) : value (k + 1) (c :: l) = match word (c :: l) with | .bad e => .bad e | .ok s r => .ok (.mk 2 0 s [] []) r := by
  rw [value, if_neg (by simp [h]), if_pos h]
  cases word (c :: l) <;> rfl
theorem value_int {k c : Nat} {l : List Nat} (h : c = 105) : value (k + 1) (c :: l) = match number 101 l with | .bad e => .bad e | .ok n r => .ok (.mk 1 n ⟨#[]⟩ [] []) r := by
  subst h
  rw [value, if_neg (by simp), if_neg (by simp [digit]), if_pos rfl]
  cases number 101 l <;> rfl
theorem value_list {k c : Nat} {l : List Nat} (h : c = 108 ∨ c = 100) : value (k + 1) (c :: l) = loop (value k) (decide (c = 100)) (l.length + 1) [] [] l := by
  rcases h with rfl | rfl
  · rw [value, if_neg (by simp), if_neg (by simp [digit]), if_neg (by simp)]
  · rw [value, if_neg (by simp), if_neg (by simp [digit]), if_neg (by simp)]
/-- what value and list answer -/
def ValR (l : List Nat) (at_ lo : Nat) (R : Rs Tn) (v : Value) (w' : World) : Prop :=
  (∃ e : Nat, R = .bad e ∧ v = .tuple #[.agg #[.int .i64 0, .int .i64 0, .string ⟨#[]⟩, .slice none 0 0, .slice none 0 0], .int .i64 0, .int .i64 (e : Int)]) ∨ (∃ (t : Tn) (r : List Nat) (k : Nat) (vk vq : Value), R = .ok t r ∧ v = .tuple #[tval t vk vq, .int .i64 (k : Int), .int .i64 0] ∧ l.drop k = r ∧ k ≤ l.length ∧ at_ < k ∧ Tp w' (fun b => lo ≤ b) t vk vq)
end Bn
theorem results_tree3 {fn : Func} {p u u2 : Tmp} {x y : Value} {tmps : Array Value} {w : World} {g : Nat} {cs : Array Value} (h : fn.results = #[.cell p 25, .tmp u, .tmp u2])
    (hp : tmps.getD p undef = .pointer (some ⟨g, 0, none⟩)) (hx : tmps.getD u undef = x) (hy : tmps.getD u2 undef = y) (hg : Whole w g 25 cs) (hc : cs.size = 5) :
    (results fn tmps).run Try.prog w = .ok (.tuple #[.agg cs, x, y]) w := by
  subst hx hy
  have hp' : tmps[p]?.getD undef = .pointer (some ⟨g, 0, none⟩) := by simpa using hp
  simp [results, h, hp', asAddr, run_loadVar_row w g 25 25 cs (0, 0) _ hg Try.underlying25 rfl (treeI hc)]

set_option maxHeartbeats 4000000 in
theorem rvalue12 {s : ByteArray} {l : List Nat} (T : Txt s l) (hl : l.length ≤ 1000000000) (k m : Nat) (hm : m + k = 8)
    (HL : ∀ k', k = k' + 1 → ∀ (a : Nat) (d : Bool) (w : World), a ≤ l.length → Calls Try.prog 42 #[.string s, .int .i64 (a : Int), .int .i64 (m : Int), .bool d] w fun e w' => ∃ v, e = .returned v ∧ Bn.ValR l a w.heap.size (Bn.loop (Bn.value k') d ((l.drop a).length + 1) [] [] (l.drop a)) v w' ∧ Below w.heap.size w w')
    (a : Nat) (ha : a ≤ l.length) (w : World) : Calls Try.prog 21 #[.string s, .int .i64 (a : Int), .int .i64 (m : Int)] w fun e w' => ∃ v, e = .returned v ∧ Bn.ValR l a w.heap.size (Bn.value k (l.drop a)) v w' ∧ Below w.heap.size w w' := by
  obtain ⟨g, w1, hg, hal1, hG1, hb1, hs1⟩ := var_tree w
  obtain ⟨h, w2, hh, hal2, hH2, hb2, hs2⟩ := var_tree w1
  have hgh : g < h := by omega
  have hG2 := hG1.below hb2 (by omega)
  obtain ⟨w3, hst⟩ : ∃ w3, w2.setRow h #[.int .i64 0, .int .i64 0, .string ⟨#[]⟩, .slice none 0 0, .slice none 0 0] = w3 := ⟨_, rfl⟩
  have hH3 : Whole w3 h 25 #[.int .i64 0, .int .i64 0, .string ⟨#[]⟩, .slice none 0 0, .slice none 0 0] := by rw [← hst]; exact hH2.row _
  have hG3 : Whole w3 g 25 #[.int .i64 0, .int .i64 0, .string ⟨#[]⟩, .slice none 0 0, .slice none 0 0] := by rw [← hst]; exact hG2.rowOther (by omega) _
  have HB3 : Hid (Below w.heap.size w w3) := Lib.hid (by rw [← hst]; exact below_row (hb1.trans (hb2.mono (by omega)) |>.mono (by omega)) (by omega) _)
  have hs3 : w.heap.size ≤ w3.heap.size := HB3.out.size
  have c0 := hH3.at_ 0
  have c1 := hH3.at_ 1
  have c2 := hH3.at_ 2
  have c3 := hH3.at_ 3
  have c4 := hH3.at_ 4
  simp at c0 c1 c2 c3 c4
  have HH2 := Lib.hid hH2
  have HG3 := Lib.hid hG3
  have HGH : Hid (w.heap.size ≤ g ∧ g < w3.heap.size) := Lib.hid ⟨by omega, hG3.lt⟩
  rw [hg] at HB3 HGH hs3 ⊢
  clear hG1 hG2 hG3 hb1 hb2 hH2 hs1 hs2 hH3
  have hsz := T.size
  have HT := Lib.hid T
  have HLh := Lib.hid HL
  obtain ⟨n, hn⟩ : ∃ n, Hid (l.length = n) := ⟨_, rfl⟩
  have hnl := hn.out
  rw [hn.out] at hl ha hsz
  by_cases hlt : a < n
  case neg =>
    obtain rfl : a = n := by omega
    have HV : Hid (Bn.value k (l.drop a) = .bad 2) := Lib.hid (by rw [List.drop_eq_nil_of_le (by omega)]; exact Bn.value_end k)
    rw [HV.out]
    clear HL T hnl
    go_enter Try.func21, Try.ntmps21
    go_wp2_with (first | (refine wpList_store_whole rfl rfl rfl rfl rfl HH2.out (treeI rfl) rfl (by simp [Value.oneCell']) ?_; rw [hst]) | (refine wpList_store_whole rfl rfl rfl rfl rfl HG3.out (treeI rfl) rfl (by simp [Value.oneCell']) ?_))
    refine bodyPost_ret (v := .tuple #[.agg #[.int .i64 0, .int .i64 0, .string ⟨#[]⟩, .slice none 0 0, .slice none 0 0], .int .i64 0, .int .i64 2]) ?_ rfl ⟨_, rfl, .inl ⟨2, rfl, rfl⟩, below_row HB3.out HGH.out.1 _⟩
    exact results_tree3 rfl rfl rfl rfl (HG3.out.row _) rfl
  have hcons := Bn.drop_head (l := l) (a := a) (by omega)
  obtain ⟨c, hc⟩ : ∃ c, Hid (l.getD a 0 = c) := ⟨_, rfl⟩
  rw [hc.out] at hcons
  have hc256 : c < 256 := by rw [← hc.out]; exact getD_lt T.byte a
  have hat : ∀ (h : a < s.size), (s[a]'h).toNat = c := fun h => by rw [← hc.out]; exact T.at_ a h
  have HC := Lib.hid hcons
  have CD := Lib.hid (fun w => rdigit12_any c hc256 w)
  clear hnl hcons
  obtain ⟨y, hy⟩ : ∃ y, Hid (Bn.digit c = y) := ⟨_, rfl⟩
  rw [hy.out] at CD
  have CD3 := Lib.hid (CD.out w3)
  cases y with
  | false =>
    by_cases h1 : c = 105 ∨ c = 108 ∨ c = 100
    case neg =>
      have q1 : ((c : Int) != 105) = true := by simp; omega
      have q2 : ((c : Int) != 108) = true := by simp; omega
      have q3 : ((c : Int) != 100) = true := by simp; omega
      have HV : Hid (Bn.value k (l.drop a) = .bad 3) := Lib.hid (by rw [HC.out]; exact Bn.value_form ⟨hy.out, by omega, by omega, by omega⟩ k)
      rw [HV.out]
      clear HL T
      go_enter Try.func21, Try.ntmps21
      go_wp2_with (first | (refine wpList_store_whole rfl rfl rfl rfl rfl HH2.out (treeI rfl) rfl (by simp [Value.oneCell']) ?_; rw [hst]) | (refine wpList_store_whole rfl rfl rfl rfl rfl HG3.out (treeI rfl) rfl (by simp [Value.oneCell']) ?_))
      refine (CD3.out).mono ?_
      rintro e w3 ⟨rfl, rfl⟩
      go_wp2_with (refine wpList_store_whole rfl rfl rfl rfl rfl HG3.out (treeI rfl) rfl (by simp [Value.oneCell']) ?_)
      refine bodyPost_ret (v := .tuple #[.agg #[.int .i64 0, .int .i64 0, .string ⟨#[]⟩, .slice none 0 0, .slice none 0 0], .int .i64 0, .int .i64 3]) ?_ rfl ⟨_, rfl, .inl ⟨3, rfl, rfl⟩, below_row HB3.out HGH.out.1 _⟩
      exact results_tree3 rfl rfl rfl rfl (HG3.out.row _) rfl
    have HC1 := Lib.hid h1
    have HD : Hid (¬ (Bn.digit c = false ∧ c ≠ 105 ∧ c ≠ 108 ∧ c ≠ 100)) := Lib.hid (by omega)
    match k, hm, HLh with
    | 0, hm, HLh =>
      obtain rfl : m = 8 := by omega
      have HV : Hid (Bn.value 0 (l.drop a) = .bad 6) := Lib.hid (by rw [HC.out]; exact Bn.value_deep HD.out)
      rw [HV.out]
      clear HL T HLh
      rcases h1 with rfl | rfl | rfl
      all_goals (
        go_enter Try.func21, Try.ntmps21
        go_wp2_with (first | (refine wpList_store_whole rfl rfl rfl rfl rfl HH2.out (treeI rfl) rfl (by simp [Value.oneCell']) ?_; rw [hst]) | (refine wpList_store_whole rfl rfl rfl rfl rfl HG3.out (treeI rfl) rfl (by simp [Value.oneCell']) ?_))
        refine (CD3.out).mono ?_
        rintro e w3 ⟨rfl, rfl⟩
        go_wp2_with (refine wpList_store_whole rfl rfl rfl rfl rfl HG3.out (treeI rfl) rfl (by simp [Value.oneCell']) ?_)
        refine bodyPost_ret (v := .tuple #[.agg #[.int .i64 0, .int .i64 0, .string ⟨#[]⟩, .slice none 0 0, .slice none 0 0], .int .i64 0, .int .i64 6]) ?_ rfl ⟨_, rfl, .inl ⟨6, rfl, rfl⟩, below_row HB3.out HGH.out.1 _⟩
        exact results_tree3 rfl rfl rfl rfl (HG3.out.row _) rfl)
    | k' + 1, hm, HLh =>
      have hm7 : m ≤ 7 := by omega
      obtain ⟨a1, ha1⟩ : ∃ x, Hid (a + 1 = x) := ⟨_, rfl⟩
      have hw1 : IntKind.i64.wrap ((a : Int) + 1) = (a1 : Int) := by rw [← ha1.out, IntKind.wrap_i64]; omega
      have hw2 : (a : Int) + 1 = (a1 : Int) := by rw [← ha1.out]; omega
      have ha1n : a1 ≤ n := by rw [← ha1.out]; omega
      rw [ha1.out] at HC
      by_cases h2 : c = 105
      · subst h2
        have HV : Hid (Bn.value (k' + 1) (l.drop a) = match Bn.number 101 (l.drop a1) with | .bad e => .bad e | .ok n r => .ok (.mk 1 n ⟨#[]⟩ [] []) r) := Lib.hid (by rw [HC.out]; exact Bn.value_int rfl)
        have CN := Lib.hid (rnumber12_any HT.out (by rw [hn.out]; exact hl) a1 101 (by omega) (by rw [hn.out]; exact ha1n) w3)
        rw [HV.out]
        have HNB := Lib.hid (fun e h => Bn.number_bad (c := 101) (e := e) (l := l.drop a1) h)
        obtain ⟨R, hR⟩ : ∃ R, Hid (Bn.number 101 (l.drop a1) = R) := ⟨_, rfl⟩
        rw [hR.out] at CN HNB ⊢
        clear HL T HLh HD h1 HV
        go_enter Try.func21, Try.ntmps21
        go_wp2_with (first | (refine wpList_store_whole rfl rfl rfl rfl rfl HH2.out (treeI rfl) rfl (by simp [Value.oneCell']) ?_; rw [hst]) | (refine wpList_store_whole rfl rfl rfl rfl rfl HG3.out (treeI rfl) rfl (by simp [Value.oneCell']) ?_))
        refine (CD3.out).mono ?_
        rintro e w3 ⟨rfl, rfl⟩
        go_wp2_with fail
        refine (CD3.out).mono ?_
        rintro e w3 ⟨rfl, rfl⟩
        go_wp2_with fail
        refine (CN.out).mono ?_
        rintro e w4 ⟨v, rfl, hv, hb4⟩
        have HG4 := Lib.hid (HG3.out.below hb4 HGH.out.2)
        have HB4 := Lib.hid (HB3.out.trans (hb4.mono hs3))
        have HH3' : Hid (∀ i, w4.cell? ⟨h, i, none⟩ = w3.cell? ⟨h, i, none⟩) := Lib.hid (fun i => hb4.cell (p := ⟨h, i, none⟩) (lt_of_cell c0))
        have d0 := (HH3'.out 0).trans c0
        have d1 := (HH3'.out 1).trans c1
        have d2 := (HH3'.out 2).trans c2
        have d3 := (HH3'.out 3).trans c3
        have d4 := (HH3'.out 4).trans c4
        clear hb4 c0 c1 c2 c3 c4
        rcases hv with ⟨e, rfl, rfl⟩ | ⟨x, r, kk, rfl, rfl, hk1, hk2, hk3, hin⟩
        · have he := HNB.out e rfl
          have q1 : ((e : Int) != 0) = true := by simp; omega
          have q2 : ((e : Int) == 0) = false := by simp; omega
          have he9 : e ≤ 3 := by omega
          clear he
          go_wp2_with (refine wpList_store_whole rfl rfl rfl rfl rfl HG4.out (treeI rfl) rfl (by simp [Value.oneCell']) ?_)
          refine bodyPost_ret (v := .tuple #[.agg #[.int .i64 0, .int .i64 0, .string ⟨#[]⟩, .slice none 0 0, .slice none 0 0], .int .i64 0, .int .i64 (e : Int)]) ?_ rfl ⟨_, rfl, .inl ⟨e, rfl, rfl⟩, below_row HB4.out HGH.out.1 _⟩
          exact results_tree3 rfl rfl rfl rfl (HG4.out.row _) rfl
        · have HIn := Lib.hid hin
          have HK1 := Lib.hid hk1
          have HK2 := Lib.hid hk2
          clear hk1 hk2 hin
          go_wp2_with (refine wpList_store_whole rfl rfl rfl rfl rfl HG4.out (treeI rfl) rfl (by simp [Value.oneCell']) ?_)
          refine bodyPost_ret (v := .tuple #[.agg #[.int .i64 1, .int .i64 x, .string ⟨#[]⟩, .slice none 0 0, .slice none 0 0], .int .i64 (kk : Int), .int .i64 0]) ?_ rfl ⟨_, rfl, .inr ⟨.mk 1 x ⟨#[]⟩ [] [], r, kk, _, _, rfl, rfl, HK1.out, HK2.out, by omega, Tp.leaf _ _ (by omega) (by have := HIn.out; unfold Nm.In at this; omega) (by show (0 : Nat) ≤ maxLen; omega)⟩, below_row HB4.out HGH.out.1 _⟩
          exact results_tree3 rfl rfl rfl rfl (HG4.out.row _) rfl
      · have h3 : c = 108 ∨ c = 100 := by omega
        have HV : Hid (Bn.value (k' + 1) (l.drop a) = Bn.loop (Bn.value k') (decide (c = 100)) ((l.drop a1).length + 1) [] [] (l.drop a1)) := Lib.hid (by rw [HC.out]; exact Bn.value_list h3)
        rw [HV.out]
        have CL := Lib.hid (HLh.out k' rfl a1 (decide (c = 100)) w3 (by rw [hn.out]; exact ha1n))
        obtain ⟨R, hR⟩ : ∃ R, Hid (Bn.loop (Bn.value k') (decide (c = 100)) ((l.drop a1).length + 1) [] [] (l.drop a1) = R) := ⟨_, rfl⟩
        rw [hR.out] at CL ⊢
        have q105 : ((c : Int) != 105) = true := by simp; omega
        have q105' : ((c : Int) == 105) = false := by simp; omega
        clear HL T HLh HD h1 HV
        rcases h3 with rfl | rfl
        all_goals (
          first | rw [show decide ((108 : Nat) = 100) = false from rfl] at CL | rw [show decide ((100 : Nat) = 100) = true from rfl] at CL
          go_enter Try.func21, Try.ntmps21
          go_wp2_with (first | (refine wpList_store_whole rfl rfl rfl rfl rfl HH2.out (treeI rfl) rfl (by simp [Value.oneCell']) ?_; rw [hst]) | (refine wpList_store_whole rfl rfl rfl rfl rfl HG3.out (treeI rfl) rfl (by simp [Value.oneCell']) ?_))
          refine (CD3.out).mono ?_
          rintro e w3 ⟨rfl, rfl⟩
          go_wp2_with fail
          refine (CD3.out).mono ?_
          rintro e w3 ⟨rfl, rfl⟩
          go_wp2_with fail
          refine (CL.out).mono ?_
          rintro e w4 ⟨v, rfl, hv, hb4⟩
          have HG4 := Lib.hid (HG3.out.below hb4 HGH.out.2)
          have HB4 := Lib.hid (HB3.out.trans (hb4.mono hs3))
          clear hb4 c0 c1 c2 c3 c4
          rcases hv with ⟨e, rfl, rfl⟩ | ⟨x, r, kk, _, _, rfl, rfl, hk1, hk2, hk3, hx⟩
          · go_wp2_with (refine wpList_store_whole rfl rfl rfl rfl rfl HG4.out (treeI rfl) rfl (by simp [Value.oneCell']) ?_)
            refine bodyPost_ret (v := .tuple #[.agg #[.int .i64 0, .int .i64 0, .string ⟨#[]⟩, .slice none 0 0, .slice none 0 0], .int .i64 0, .int .i64 (e : Int)]) ?_ rfl ⟨_, rfl, .inl ⟨e, rfl, rfl⟩, below_row HB4.out HGH.out.1 _⟩
            exact results_tree3 rfl rfl rfl rfl (HG4.out.row _) rfl
          · have HK1 := Lib.hid hk1
            have HK2 := Lib.hid hk2
            have HX := Lib.hid hx
            obtain ⟨Ak, ck, rfl, _⟩ := hx.tv.keys
            obtain ⟨Aq, cq, rfl, _⟩ := hx.tv.kids
            unfold tval
            clear hk1 hk2 hx
            go_wp2_with (refine wpList_store_whole rfl rfl rfl rfl rfl HG4.out (treeI rfl) rfl (by simp [Value.oneCell']) ?_)
            refine bodyPost_ret (v := .tuple #[tval x (.slice Ak x.keys.length ck) (.slice Aq x.kids.length cq), .int .i64 (kk : Int), .int .i64 0]) ?_ rfl ⟨_, rfl, .inr ⟨x, r, kk, _, _, rfl, rfl, HK1.out, HK2.out, by have := ha1.out; omega, HX.out.keep (fun b p q => ⟨by have := HGH.out.1; omega, setRow_other _ _ _ _ (by have := HGH.out.2; omega)⟩)⟩, below_row HB4.out HGH.out.1 _⟩
            exact results_tree3 rfl rfl rfl rfl (HG4.out.row _) rfl)
  | true =>
    have HD : Hid (¬ (Bn.digit c = false ∧ c ≠ 105 ∧ c ≠ 108 ∧ c ≠ 100)) := Lib.hid (by rw [hy.out]; simp)
    match k, hm, HLh with
    | 0, hm, HLh =>
      obtain rfl : m = 8 := by omega
      have HV : Hid (Bn.value 0 (l.drop a) = .bad 6) := Lib.hid (by rw [HC.out]; exact Bn.value_deep HD.out)
      rw [HV.out]
      clear HL T HLh
      go_enter Try.func21, Try.ntmps21
      go_wp2_with (first | (refine wpList_store_whole rfl rfl rfl rfl rfl HH2.out (treeI rfl) rfl (by simp [Value.oneCell']) ?_; rw [hst]) | (refine wpList_store_whole rfl rfl rfl rfl rfl HG3.out (treeI rfl) rfl (by simp [Value.oneCell']) ?_))
      refine (CD3.out).mono ?_
      rintro e w3 ⟨rfl, rfl⟩
      go_wp2_with (refine wpList_store_whole rfl rfl rfl rfl rfl HG3.out (treeI rfl) rfl (by simp [Value.oneCell']) ?_)
      refine bodyPost_ret (v := .tuple #[.agg #[.int .i64 0, .int .i64 0, .string ⟨#[]⟩, .slice none 0 0, .slice none 0 0], .int .i64 0, .int .i64 6]) ?_ rfl ⟨_, rfl, .inl ⟨6, rfl, rfl⟩, below_row HB3.out HGH.out.1 _⟩
      exact results_tree3 rfl rfl rfl rfl (HG3.out.row _) rfl
    | k' + 1, hm, HLh =>
      have hm7 : m ≤ 7 := by omega
      have HV : Hid (Bn.value (k' + 1) (l.drop a) = match Bn.word (l.drop a) with | .bad e => .bad e | .ok s r => .ok (.mk 2 0 s [] []) r) := Lib.hid (by rw [HC.out]; exact Bn.value_word hy.out)
      have CW := Lib.hid (rword12_any HT.out (by rw [hn.out]; exact hl) a (by rw [hn.out]; exact hlt) (by rw [hc.out]; exact hy.out) w3)
      rw [HV.out]
      have HNB := Lib.hid (fun e h => Bn.word_bad (e := e) (l := l.drop a) h)
      obtain ⟨R, hR⟩ : ∃ R, Hid (Bn.word (l.drop a) = R) := ⟨_, rfl⟩
      rw [hR.out] at CW HNB ⊢
      clear HL T HLh HD HV
      go_enter Try.func21, Try.ntmps21
      go_wp2_with (first | (refine wpList_store_whole rfl rfl rfl rfl rfl HH2.out (treeI rfl) rfl (by simp [Value.oneCell']) ?_; rw [hst]) | (refine wpList_store_whole rfl rfl rfl rfl rfl HG3.out (treeI rfl) rfl (by simp [Value.oneCell']) ?_))
      refine (CD3.out).mono ?_
      rintro e w3 ⟨rfl, rfl⟩
      go_wp2_with fail
      refine (CD3.out).mono ?_
      rintro e w3 ⟨rfl, rfl⟩
      go_wp2_with fail
      refine (CW.out).mono ?_
      rintro e w4 ⟨v, rfl, hv, hb4⟩
      have HG4 := Lib.hid (HG3.out.below hb4 HGH.out.2)
      have HB4 := Lib.hid (HB3.out.trans (hb4.mono hs3))
      have HH3' : Hid (∀ i, w4.cell? ⟨h, i, none⟩ = w3.cell? ⟨h, i, none⟩) := Lib.hid (fun i => hb4.cell (p := ⟨h, i, none⟩) (lt_of_cell c0))
      have d0 := (HH3'.out 0).trans c0
      have d1 := (HH3'.out 1).trans c1
      have d2 := (HH3'.out 2).trans c2
      have d3 := (HH3'.out 3).trans c3
      have d4 := (HH3'.out 4).trans c4
      clear hb4 c0 c1 c2 c3 c4
      rcases hv with ⟨e, rfl, rfl⟩ | ⟨x, r, kk, rfl, rfl, hk1, hk2, hk3, hxs⟩
      · have he := HNB.out e rfl
        have q1 : ((e : Int) != 0) = true := by simp; omega
        have q2 : ((e : Int) == 0) = false := by simp; omega
        have he9 : e ≤ 5 := by omega
        clear he
        go_wp2_with (refine wpList_store_whole rfl rfl rfl rfl rfl HG4.out (treeI rfl) rfl (by simp [Value.oneCell']) ?_)
        refine bodyPost_ret (v := .tuple #[.agg #[.int .i64 0, .int .i64 0, .string ⟨#[]⟩, .slice none 0 0, .slice none 0 0], .int .i64 0, .int .i64 (e : Int)]) ?_ rfl ⟨_, rfl, .inl ⟨e, rfl, rfl⟩, below_row HB4.out HGH.out.1 _⟩
        exact results_tree3 rfl rfl rfl rfl (HG4.out.row _) rfl
      · have HXS := Lib.hid hxs
        have HK1 := Lib.hid hk1
        have HK2 := Lib.hid hk2
        clear hk1 hk2
        go_wp2_with (refine wpList_store_whole rfl rfl rfl rfl rfl HG4.out (treeI rfl) rfl (by simp [Value.oneCell']) ?_)
        refine bodyPost_ret (v := .tuple #[.agg #[.int .i64 2, .int .i64 0, .string x, .slice none 0 0, .slice none 0 0], .int .i64 (kk : Int), .int .i64 0]) ?_ rfl ⟨_, rfl, .inr ⟨.mk 2 0 x [] [], r, kk, _, _, rfl, rfl, HK1.out, HK2.out, by omega, Tp.leaf _ _ (by omega) (by omega) (by have := HXS.out; unfold maxLen; omega)⟩, below_row HB4.out HGH.out.1 _⟩
        exact results_tree3 rfl rfl rfl rfl (HG4.out.row _) rfl
end Go.Proofs.Ytphanlkobkkgfaa
