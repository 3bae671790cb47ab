/- Contracts of layer 15's reference: Put, Next, All, Same. -/
import Derived.Test.YtocnfibpkpplgaaFr
import Derived.Test.YtocnfibpkpplgaaBl
import Derived.Test.YtocnfibpkpplgaaPC
import Derived.Test.YtocnfibpkpplgaaPA
import Derived.BigQuiet
import Derived.Deep.QuietTactic
namespace Go.Proofs.Ytocnfibpkpplgaa
open Go.RowKit
set_option linter.unusedVariables false
set_option maxRecDepth 100000
set_option linter.unusedSimpArgs false

set_option maxHeartbeats 400000 in
theorem rput15_any {w : World} {B : Nat} {v : Value} {l : List Nat} (h : Piece w B v l) (hB : B ≤ w.heap.size) (hl : l.length ≤ 1000000000) :
    Calls Try.prog 9 #[v] w (Made .u8 5 w.heap.size (Fr.put l) w) := by
  obtain ⟨A, c, rfl, hs, hn, hle, hm⟩ := h
  unfold maxLen at hm
  have HS := Lib.hid hs
  obtain ⟨n, hn'⟩ : ∃ n, Hid (l.length = n) := ⟨_, Lib.hid rfl⟩
  have P := Lib.hid (putr_any ((l.length : Nat) : Int) w (by omega) (by omega))
  rw [Int.toNat_natCast] at P
  rw [hn'.out] at P hle hl ⊢
  clear hs
  go_enter Try.func9, Try.ntmps9
  go_wp2_with fail
  refine (P.out).mono ?_
  rintro e w1 ⟨v1, rfl, ho, hb⟩
  have hp := Um.enc_le 9 n
  have hlen : (Um.put n).length ≤ 10 := hp
  have hs1 := HS.out.below (hb.mono hB)
  have hsz := hb.size
  go_wp2_with (at_builtin; refine wpList_append_row byteT _ _ rfl rfl w.heap.size _ (Um.put n).length _ rfl ho n c rfl hn'.out hn hs1 (by omega) hsz ?_; intro v2 w2 ho2 hg2)
  go_ret
  refine ⟨v2, rfl, ?_, hb.grown hg2 hsz (fun k hk => (ho.lt k hk).1)⟩
  rw [← ints_append] at ho2
  have e : Fr.put l = Um.put n ++ l := by unfold Fr.put; rw [hn'.out]
  rw [e, List.length_append, hn'.out]
  exact ho2
/-- what Next answers: the body in new memory, the frame's size, the error -/
def NextPost (r : List Nat × Nat × Nat) (w : World) (e : Ending) (w' : World) : Prop :=
  ∃ u, e = .returned (.tuple #[u, .int .i64 (r.2.1 : Int), .int .i64 (r.2.2 : Int)]) ∧ w'.ownsRow w.heap.size 5 1 u r.1.length (ints .u8 r.1) ∧ Below w.heap.size w w'
theorem NextPost.bad {w w' : World} {x : Nat} (hb : Below w.heap.size w w') : NextPost ([], 0, x) w (.returned (.tuple #[.slice none 0 0, .int .i64 0, .int .i64 (x : Int)])) w' := ⟨_, rfl, World.ownsRow_nil _ _ 5 1, hb⟩
set_option maxHeartbeats 1000000 in
theorem rnext15_any {w : World} {B : Nat} {v : Value} {l : List Nat} (h : Piece w B v l) (hB : B ≤ w.heap.size) (hb : ∀ x ∈ l, x < 256) (hl : l.length ≤ 1000000000) (most : Int) (h1 : -9223372036854775808 ≤ most) (h2 : most ≤ 9223372036854775807) :
    Calls Try.prog 10 #[v, .int .i64 most] w (NextPost (Fr.next l most) w) := by
  obtain ⟨A, c, rfl, hs, hn, hle, hm⟩ := h
  unfold maxLen at hm
  have HS := Lib.hid hs
  have HN := Lib.hid hn
  have HNe := Lib.hid (fun h => Fr.next_err (l := l) (most := most) h)
  have HNl := Lib.hid (fun h k => Fr.next_long (l := l) (most := most) h k)
  have HNs := Lib.hid (fun h k s => Fr.next_short (l := l) (most := most) h k s)
  have HNg := Lib.hid (fun h k s => Fr.next_good (l := l) (most := most) h k s)
  have hu := Um.get_used l
  have hq := Um.get_num l
  have HP := Lib.hid (fun h => Um.get_pos (l := l) h)
  obtain ⟨n, hn'⟩ : ∃ n, Hid (l.length = n) := ⟨_, Lib.hid rfl⟩
  rw [hn'.out] at hle hl hu HNs HNg ⊢
  have G := Lib.hid (getr_any B A l n c w hn'.out (by omega) hs hb)
  obtain ⟨q, u, x, Hg⟩ : ∃ q u x, Hid (Um.get l = (q, u, x)) := ⟨_, _, _, rfl⟩
  rw [Hg.out] at G HNe HNl HNs HNg hu hq HP
  simp only at hu hq
  clear hs hb hn
  by_cases hx : x = 0
  · subst hx
    have hp := HP.out rfl
    simp only at hp
    by_cases hneg : most < 0
    · have hd : (decide (most < 0)) = true := by simpa using hneg
      rw [HNl.out rfl (by simp only; omega)]
      go_enter Try.func10, Try.ntmps10
      go_wp2_with fail
      refine (G.out).mono ?_
      rintro e w1 ⟨rfl, rfl⟩
      go_wp2_with fail
      go_ret3
      exact NextPost.bad (Below.refl _ _)
    · obtain ⟨k, rfl⟩ : ∃ k : Nat, most = (k : Int) := ⟨most.toNat, by omega⟩
      have hwk : IntKind.u64.wrap (k : Int) = (k : Int) := by rw [IntKind.wrap_u64]; omega
      by_cases hlong : k < q
      · rw [HNl.out rfl (by simp only; omega)]
        go_enter Try.func10, Try.ntmps10
        go_wp2_with fail
        refine (G.out).mono ?_
        rintro e w1 ⟨rfl, rfl⟩
        go_wp2_with fail
        go_ret3
        exact NextPost.bad (Below.refl _ _)
      · by_cases hshort : n - u < q
        · rw [HNs.out rfl (by simp only; omega) hshort]
          have hws : IntKind.u64.wrap ((n : Int) - (u : Int)) = ((n - u : Nat) : Int) := by rw [IntKind.wrap_u64]; omega
          go_enter Try.func10, Try.ntmps10
          go_wp2_with fail
          refine (G.out).mono ?_
          rintro e w1 ⟨rfl, rfl⟩
          go_wp2_with fail
          go_ret3
          exact NextPost.bad (Below.refl _ _)
        · rw [HNg.out rfl (by simp only; omega) hshort]
          have hws : IntKind.u64.wrap ((n : Int) - (u : Int)) = ((n - u : Nat) : Int) := by rw [IntKind.wrap_u64]; omega
          have hwq : IntKind.i64.wrap (q : Int) = (q : Int) := by rw [IntKind.wrap_i64]; omega
          have huq : Hid (u + q - u = q) := Lib.hid (by omega)
          have hAk : (if c = u then A else A.map (fun x => x.add u)) = cutAt A c u := rfl
          have hsee : Hid (Sees .u8 w B (cutAt A c u) ((l.drop u).take q)) := Lib.hid ((HS.out.cut (by rw [hn'.out]; omega) (by rw [hn'.out]; omega)).take q)
          have hlen : Hid (((l.drop u).take q).length = q) := Lib.hid (by rw [List.length_take, List.length_drop, hn'.out]; omega)
          have ho0 : Hid ((w.alloc (.cells #[] 5)).ownsRow w.heap.size 5 1 (.slice (some ⟨w.heap.size, 0, none⟩) 0 0) 0 []) := Lib.hid (World.ownsRow_lit w #[] 0 (Nat.le_refl _) (by decide) rfl)
          have hb0 : Hid (Below w.heap.size w (w.alloc (.cells #[] 5))) := Lib.hid ((Below.refl _ _).alloc (Nat.le_refl _) _)
          have hcn : Hid (cutAt A c u = none → c - u = 0) := Lib.hid (cutAt_null HN.out)
          go_enter Try.func10, Try.ntmps10
          go_wp2_with fail
          refine (G.out).mono ?_
          rintro e w1 ⟨rfl, rfl⟩
          go_wp2_with (at_builtin; refine wpList_append_row byteT _ _ rfl rfl w.heap.size _ 0 [] rfl ho0.out (u + q - u) (c - u) rfl (hlen.out.trans huq.out.symm) hcn.out (hsee.out.below (hb0.out.mono hB)) (by omega) (by simp) ?_; intro v2 w2 ho2 hg2)
          go_ret3
          rw [Nat.zero_add, List.nil_append, huq.out] at ho2
          exact ⟨v2, rfl, by rw [hlen.out]; exact ho2, hb0.out.grown hg2 (by simp) (fun k hk => (ho0.out.lt k hk).1)⟩
  · have hne : ((x : Int) != 0) = true := by simp; omega
    rw [HNe.out (by simpa using hx)]
    go_enter Try.func10, Try.ntmps10
    go_wp2_with fail
    refine (G.out).mono ?_
    rintro e w1 ⟨rfl, rfl⟩
    go_wp2_with fail
    go_ret3
    exact NextPost.bad (Below.refl _ _)
/-- what All answers: the bodies in new memory, the bytes, the error -/
def FallPost (r : List (List Nat) × Nat × Nat) (w : World) (e : Ending) (w' : World) : Prop :=
  ∃ v, e = .returned (.tuple #[v, .int .i64 (r.2.1 : Int), .int .i64 (r.2.2 : Int)]) ∧ Bo w' w.heap.size v r.1 ∧ Below w.heap.size w w'
/-- what the loop of All has done when it stands at byte k -/
structure Falls (base : Nat) (l : List Nat) (n : Nat) (most : Int) (w : World) (L : List (Value × List Nat)) (k f : Nat) (v : Value) (wr : World) : Prop where
  same : Fr.all n l most 0 [] = Fr.all f (l.drop k) most k (L.map (·.2))
  fuel : (l.drop k).length ≤ f
  few : L.length ≤ k
  le : k ≤ l.length
  at_ : BoAt wr base v L
  below : Below base w wr
  size : base ≤ wr.heap.size
theorem Falls.start {l : List Nat} {n : Nat} {most : Int} {w : World} (hn : l.length = n) : Falls w.heap.size l n most w [] 0 n (.slice none 0 0) w :=
  ⟨by simp, by simp [hn], Nat.le_refl _, Nat.zero_le _, BoAt.nil _ _, Below.refl _ _, Nat.le_refl _⟩
theorem Falls.next {base : Nat} {l : List Nat} {n : Nat} {most : Int} {w wr w1 w2 : World} {L : List (Value × List Nat)} {k f : Nat} {v v' u : Value} {b : List Nat} {s : Nat} (h : Falls base l n most w L k f v wr) (hn : l.length = n) (hk : k < n)
    (he : Fr.next (l.drop k) most = (b, s, 0)) (ho1 : w1.ownsRow wr.heap.size 5 1 u b.length (ints .u8 b)) (hb1 : Below wr.heap.size wr w1)
    (ho : w2.ownsRow base 22 1 v' (L.length + 1) (L.map (·.1) ++ [u])) (hg : (w1.alloc (.cells #[u] 22)).grownBy w2 v.ownBlock) (hv : v'.ownBlock = v.ownBlock ∨ v'.ownBlock = some (w1.alloc (.cells #[u] 22)).heap.size) :
    Falls base l n most w (L ++ [(u, b)]) (k + s) (f - 1) v' w2 := by
  obtain ⟨h1, h2, h3, h4, h5, h6, h7⟩ := h
  have hp : 0 < (l.drop k).length := by rw [List.length_drop]; omega
  obtain ⟨g, rfl⟩ : ∃ g, f = g + 1 := ⟨f - 1, by omega⟩
  have hin := Fr.next_in (l := l.drop k) (most := most) (by rw [he])
  rw [he] at hin
  simp only [List.length_drop] at hin
  obtain ⟨e1, e2⟩ := Fr.all_good g (most := most) k (L.map (·.2)) hp h2 (by rw [he])
  rw [he, List.drop_drop] at e1 e2
  simp only at e1 e2
  have hba : Below wr.heap.size wr (w1.alloc (.cells #[u] 22)) := hb1.alloc hb1.size _
  refine ⟨by rw [h1, e1, Nat.add_sub_cancel]; simp, by rw [Nat.add_sub_cancel]; exact e2, by simp; omega, by omega, ?_, ?_, ?_⟩
  · exact h5.snoc hba ((Bq.own ho1).keep (fun b hP hlt => ⟨((Below.refl _ _).alloc (Nat.le_refl _) _ : Below w1.heap.size w1 (w1.alloc (.cells #[u] 22))).block b hlt, hP⟩)) h7 ho hg hv
  · exact (h6.trans (hba.mono h7)).grown hg (by simp; have := hb1.size; omega) (fun q hq => (h5.own.lt q hq).1)
  · have := hg.size; simp at this; have := hb1.size; omega
theorem Falls.fail {base : Nat} {l : List Nat} {n : Nat} {most : Int} {w wr w1 : World} {L : List (Value × List Nat)} {k f : Nat} {v : Value} {x : Nat} (h : Falls base l n most w L k f v wr) (hbase : base = w.heap.size) (hn : l.length = n) (hk : k < n)
    (he : (Fr.next (l.drop k) most).2.2 = x) (hx : ¬ x = 0) (hb1 : Below wr.heap.size wr w1) : FallPost (Fr.all n l most 0 []) w (.returned (.tuple #[v, .int .i64 (k : Int), .int .i64 (x : Int)])) w1 := by
  subst hbase
  have hp : 0 < (l.drop k).length := by rw [List.length_drop]; omega
  rw [h.same, Fr.all_bad f k _ hp h.fuel (by rw [he]; exact hx), he]
  exact ⟨_, rfl, ⟨L, rfl, h.at_.below hb1⟩, h.below.trans (hb1.mono h.size)⟩
theorem Falls.done {base : Nat} {l : List Nat} {n : Nat} {most : Int} {w wr : World} {L : List (Value × List Nat)} {k f : Nat} {v : Value} (h : Falls base l n most w L k f v wr) (hbase : base = w.heap.size) (hn : l.length = n) (hk : ¬ k < n) :
    FallPost (Fr.all n l most 0 []) w (.returned (.tuple #[v, .int .i64 (k : Int), .int .i64 0])) wr := by
  subst hbase
  rw [h.same, Fr.all_end f most k _ (by rw [List.length_drop]; omega)]
  exact ⟨_, rfl, ⟨L, rfl, h.at_⟩, h.below⟩
set_option maxHeartbeats 1000000 in
theorem rall15_any {w : World} {B : Nat} {v : Value} {l : List Nat} (h : Piece w B v l) (hB : B ≤ w.heap.size) (hb : ∀ x ∈ l, x < 256) (hl : l.length ≤ 1000000000) (most : Int) (h1 : -9223372036854775808 ≤ most) (h2 : most ≤ 9223372036854775807) :
    Calls Try.prog 12 #[v, .int .i64 most] w (FallPost (Fr.all l.length l most 0 []) w) := by
  obtain ⟨A, c, rfl, hs, hn, hle, hm⟩ := h
  have HPi : Hid (∀ (W : World) (k : Nat), Below w.heap.size w W → k ≤ l.length → Piece W B (.slice (cutAt A c k) (l.length - k) (c - k)) (l.drop k)) := Lib.hid (fun W k hW hk =>
    ⟨cutAt A c k, c - k, by rw [List.length_drop], (hs.below (hW.mono hB)).cut hk hle, cutAt_null hn, by rw [List.length_drop]; omega, by omega⟩)
  unfold maxLen at hm
  obtain ⟨base, hbase⟩ : ∃ base, Hid (base = w.heap.size) := ⟨_, Lib.hid rfl⟩
  have HF := Lib.hid (Falls.start (l := l) (n := l.length) (most := most) (w := w) rfl)
  rw [← hbase.out] at HF HPi
  have HByte := Lib.hid (fun k x (hx : x ∈ l.drop k) => hb x (List.mem_of_mem_drop hx))
  have CN := Lib.hid (fun (W : World) (k : Nat) (hW : Below base w W) (hk : k ≤ l.length) (hz : base ≤ W.heap.size) => rnext15_any (most := most) (HPi.out W k hW hk) (by have := hbase.out; omega) (HByte.out k) (by rw [List.length_drop]; omega) h1 h2)
  obtain ⟨n, hn'⟩ : ∃ n, Hid (l.length = n) := ⟨_, Lib.hid rfl⟩
  rw [hn'.out] at HF hle hl CN ⊢
  clear hs hn hb HPi h1 h2
  go_enter Try.func12, Try.ntmps12
  go_wp2_with fail
  go_loopw [7, 8] (fun v i wr => ∃ (L : List (Value × List Nat)) (k f : Nat), i = .int .i64 k ∧ k ≤ n ∧ Hid (Falls base l n most w L k f v wr)) (fun _ i _ => n - (intOf i).toNat)
  case atStart => exact ⟨[], 0, n, rfl, by omega, HF⟩
  case round =>
    obtain ⟨L, k, f, rfl, hk, HP⟩ := hrel
    by_cases hlt : k < n
    · have C1 := Lib.hid (CN.out wr k HP.out.below hk HP.out.size)
      rw [show cutAt A c k = A.map (fun x => x.add k) from if_neg (by omega)] at C1
      obtain ⟨Av, cv, rfl, _, _, _⟩ := HP.out.at_.size
      have hbz := HP.out.size
      have hfew := HP.out.few
      have HX := Lib.hid (fun (x : Nat) (w1 : World) h1 h2 h3 => HP.out.fail (x := x) (w1 := w1) hbase.out hn'.out hlt h1 h2 h3)
      have HN := Lib.hid (fun (w1 w2 : World) (v' u : Value) (b : List Nat) (s : Nat) h1 h2 h3 h4 h5 h6 => HP.out.next (w1 := w1) (w2 := w2) (v' := v') (u := u) (b := b) (s := s) hn'.out hlt h1 h2 h3 h4 h5 h6)
      have hin := Fr.next_in (l := l.drop k) (most := most)
      rw [List.length_drop, hn'.out] at hin
      obtain ⟨b, s, x, hX⟩ : ∃ b s x, Hid (Fr.next (l.drop k) most = (b, s, x)) := ⟨_, _, _, Lib.hid rfl⟩
      rw [hX.out] at C1 HX HN hin
      simp only at HX hin
      by_cases hx : x = 0
      · subst hx
        have hin' := hin rfl
        clear hin
        go_wp2_with fail
        refine (C1.out).mono ?_
        rintro e w1 ⟨u, rfl, ho, hb1⟩
        obtain ⟨Au, cu, rfl, _⟩ := own_look ho
        have HO := Lib.hid ho
        have HB1 := Lib.hid hb1
        have hz1 := hb1.size
        have ho2 : Hid ((w1.alloc (.cells #[.slice Au b.length cu] 22)).ownsRow base 22 1 (.slice Av L.length cv) L.length (L.map (·.1))) := Lib.hid (own_below HP.out.at_.own (hb1.alloc hz1 _))
        clear ho hb1
        go_wp2_with (at_builtin; refine wpList_append_cells rowsT rowsI rfl (by decide) (by decide) _ _ rfl rfl base (.slice Av L.length cv) L.length (List.map (fun x : Value × List Nat => x.1) L) rfl ho2.out 1 1 [.slice Au b.length cu] rfl rfl (fun h => by cases h) (by decide) (src_one _ _ _) (one_slice _ _ _) (by omega) (by simp; omega) ?_; intro v' w2 hr hg hv)
        go_roundw
        case rel => exact ⟨L ++ [(.slice Au b.length cu, b)], k + s, f - 1, by go_num, by omega, Lib.hid (HN.out w1 w2 v' _ b s rfl HO.out HB1.out hr hg hv)⟩
        case measure => simp [intOf]; omega
      · have hne : ((x : Int) != 0) = true := by simp; omega
        clear hin
        go_wp2_with fail
        refine (C1.out).mono ?_
        rintro e w1 ⟨u, rfl, ho, hb1⟩
        have HB1 := Lib.hid hb1
        clear ho hb1
        go_wp2_with fail
        go_ret3
        exact HX.out x w1 rfl hx HB1.out
    · obtain ⟨Av, cv, rfl, _, _, _⟩ := HP.out.at_.size
      go_wp2_with fail
      go_ret3
      exact HP.out.done hbase.out hn'.out hlt
end Go.Proofs.Ytocnfibpkpplgaa
