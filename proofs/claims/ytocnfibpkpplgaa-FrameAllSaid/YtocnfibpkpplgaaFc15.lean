/- Contracts of package frame: Put, Next, All. -/
import Derived.Test.YtocnfibpkpplgaaRfr15
import Derived.Test.YtocnfibpkpplgaaRsa15
import Derived.Test.YtocnfibpkpplgaaGrow8
import Derived.Test.YtocnfibpkpplgaaPC
namespace Go.Proofs.Ytocnfibpkpplgaa
open Go.RowKit
set_option linter.unusedVariables false
set_option maxRecDepth 100000
set_option linter.unusedSimpArgs false

/-- a row with room, seen longer -/
theorem own_wider {w : World} {base g n c k : Nat} {E : TypeId} {xs : List Value} (h : w.ownsRow base E 1 (.slice (some ⟨g, 0, none⟩) n c) n xs) (hk : n + k ≤ c) : ∃ zs, zs.length = k ∧ w.ownsRow base E 1 (.slice (some ⟨g, 0, none⟩) (n + k) c) (n + k) (xs ++ zs) := by
  obtain ⟨h1, h2⟩ := h
  rcases h2 with ⟨hv, _⟩ | ⟨g', cap', cur, hv, hg, hh, hn, hm, hs, ht⟩
  · cases hv
  · cases hv
    have e1 : cur.toList.length = c := by rw [Array.length_toList, hs, Nat.mul_one]
    refine ⟨(cur.toList.drop n).take k, by rw [List.length_take, List.length_drop, e1]; omega, by rw [List.length_append, List.length_take, List.length_drop, e1, h1]; omega, .inr ⟨g, c, cur, rfl, hg, hh, hk, hm, hs, ?_⟩⟩
    rw [Nat.mul_one] at ht ⊢
    rw [← ht, List.take_add]
/-- stops the walk -/
def Held (p : Prop) : Prop := p
theorem held_in {p : Prop} (h : Held p) : p := h
theorem held_out {p : Prop} (h : p) : Held p := h
/-- what Put's three steps make -/
theorem splice_mid {α : Type} (xs zs body len : List α) (h : len.length = zs.length) : splice (xs ++ zs ++ body) xs.length len = xs ++ (len ++ body) := by
  unfold splice
  rw [List.append_assoc, List.take_left, show xs ++ (zs ++ body) = (xs ++ zs) ++ body from (List.append_assoc _ _ _).symm, List.drop_left' (by rw [List.length_append, h])]
theorem below_cells8 {B g : Nat} {w : World} (hg : B ≤ g) : ∀ (cs : List Value) (o : Nat) {w' : World}, Below B w w' → Below B w (w'.setCells g o cs)
  | [], o, w', h => h
  | v :: r, o, w', h => below_cells8 hg r (o + 1) (h.setCell hg v)
set_option maxHeartbeats 2000000 in
theorem cput15_any (base : Nat) (v : Value) (xs : List Nat) {w : World} {B : Nat} {u : Value} {l : List Nat} (ho : w.ownsRow base 5 1 v xs.length (ints .u8 xs)) (hb : base ≤ w.heap.size) (hx : xs.length ≤ 1000000000) (h : Piece w B u l) (hB : B ≤ base) (hl : l.length ≤ 1000000000) :
    Calls Try.prog 8 #[v, u] w fun e w' => ∃ v', e = .returned v' ∧ w'.ownsRow base 5 1 v' (xs ++ Fr.put l).length (ints .u8 (xs ++ Fr.put l)) ∧ Below base w w' := by
  obtain ⟨A, c, rfl, hs, hnl, hle, hm⟩ := h
  unfold maxLen at hm
  have HS := Lib.hid hs
  have HNL := Lib.hid hnl
  have HO := Lib.hid ho
  have hp := Um.enc_le 9 l.length
  have hpp : 0 < (Um.put l.length).length := by unfold Um.put; exact Um.enc_pos 9 l.length
  have hpl : (Um.put l.length).length ≤ 10 := hp
  have HE : Hid (Fr.put l = Um.put l.length ++ l) := Lib.hid rfl
  have P1 := Lib.hid (put_any w.heap.size (.slice none 0 0) [] ((l.length : Nat) : Int) w (by omega) (by omega) (World.ownsRow_nil w _ 5 1) (Nat.le_refl _) (by simp))
  rw [Int.toNat_natCast, List.nil_append] at P1
  obtain ⟨A0, c0, rfl, hc0, hc1, hz8⟩ := own_look ho
  clear hz8
  unfold maxLen at hc1
  obtain ⟨pl, hpl'⟩ : ∃ pl, Hid (Um.put l.length = pl) := ⟨_, Lib.hid rfl⟩
  rw [hpl'.out] at hpp hpl P1 HE
  obtain ⟨m, hm'⟩ : ∃ m, Hid (l.length = m) := ⟨_, Lib.hid rfl⟩
  obtain ⟨n, hn'⟩ : ∃ n, Hid (xs.length = n) := ⟨_, Lib.hid rfl⟩
  obtain ⟨k, hk'⟩ : ∃ k, Hid (pl.length = k) := ⟨_, Lib.hid rfl⟩
  rw [hm'.out] at P1 hle hl ⊢
  rw [hn'.out] at HO hx hc0 ⊢
  rw [hk'.out] at hpp hpl
  have hwm : IntKind.u64.wrap (m : Int) = (m : Int) := by rw [IntKind.wrap_u64]; omega
  have hwk : IntKind.i64.wrap ((k : Int) + (m : Int)) = ((k + m : Nat) : Int) := by rw [IntKind.wrap_i64]; omega
  have hwn : IntKind.i64.wrap ((n : Int) + (k : Int)) = ((n + k : Nat) : Int) := by rw [IntKind.wrap_i64]; omega
  clear hs hnl ho hp
  go_enter Try.func8, Try.ntmps8
  go_wp2_with fail
  refine (P1.out).mono ?_
  rintro e w1 ⟨v1, rfl, ho1, hb1⟩
  rw [hk'.out] at ho1
  obtain ⟨A1, c1, rfl, hc2, hc3, hn1, hz9⟩ := own_look ho1
  clear hz9 hn1
  unfold maxLen at hc3
  have HO1 := Lib.hid ho1
  have HB1 := Lib.hid hb1
  have hz1 := hb1.size
  have HOx : Hid (w1.ownsRow base 5 1 (.slice A0 n c0) n (ints .u8 xs)) := Lib.hid (own_below HO.out hb1)
  have G := Lib.hid (grow8_any (k := k + m) HOx.out (by omega) (by omega) (by omega) (by omega))
  clear ho1 hb1
  go_wp2_with fail
  refine (G.out).mono ?_
  rintro e w2 ⟨g, c2, rfl, hfit, ho2, hb2, hgb⟩
  have HGB := Lib.hid hgb
  have hz2 := hb2.size
  have HB2 := Lib.hid hb2
  have HO12 : Hid (w2.ownsRow w.heap.size 5 1 (.slice A1 k c1) k (ints .u8 pl)) := Lib.hid (own_below HO1.out hb2)
  obtain ⟨zs, hzs, how⟩ := own_wider (k := k) ho2 (by omega)
  have HZ := Lib.hid hzs
  have HOW := Lib.hid how
  clear ho2 hb2 hzs how hgb
  have hcm : Hid (m ≤ c) := Lib.hid hle
  have HSRC : Hid (Src w2 A (ints .u8 l)) := Lib.hid (fun j x hx => by
    have hj : j < l.length := by
      rcases Nat.lt_or_ge j l.length with h | h
      · exact h
      · rw [List.getElem?_eq_none (by rw [ints_length]; exact h)] at hx; cases hx
    rw [ints_get .u8 l j hj] at hx
    injection hx with hx
    subst hx
    obtain ⟨b, off, e, hbB, hcell⟩ := HS.out.at_ hj
    exact ⟨b, off, e, by rw [HB2.out.cell (p := ⟨b, off + j, none⟩) (by show b < w1.heap.size; omega), HB1.out.cell (p := ⟨b, off + j, none⟩) (by show b < w.heap.size; omega)]; exact hcell⟩)
  go_wp2_with (at_builtin; refine wpList_append_cells Try.underlying22 byte_info rfl (by decide) (by decide) _ _ rfl rfl base (.slice (some ⟨g, 0, none⟩) (n + k) c2) (n + k) (ints .u8 xs ++ zs) rfl HOW.out m c (ints .u8 l) rfl (by rw [ints_length, hm'.out, Nat.mul_one]) HNL.out hcm.out HSRC.out (ints_one .u8 l) (by omega) (by omega) ?_; intro v3 w3 hr hg hv; refine held_in ?_)
  obtain ⟨r, hrr⟩ : ∃ r, Hid (n + k + m = r) := ⟨_, Lib.hid rfl⟩
  have hrn : n + k + m = r := hrr.out
  rw [hrr.out] at hr
  obtain ⟨g3, c3, he, hg3b, hg3l⟩ := World.ownsRow.form hr (by omega)
  obtain ⟨A3, c3', rfl, hle3, hmax3, hx1, hx2⟩ := own_look hr
  injection he with e1 e2 e3
  subst e3
  clear e2
  have HA3 := Lib.hid e1
  rw [e1] at hr
  have HR := Lib.hid hr
  have HG3 := Lib.hid hg
  unfold maxLen at hmax3
  have hcn : ¬ c3' = n := by omega
  have hnr : n ≤ r := by omega
  clear hr hg hv e1 hx1 hx2
  have hnk : r - n = k + m := by omega
  have hmin : Nat.min k (k + m) = k := Nat.min_eq_left (by omega)
  obtain ⟨w4, hw4⟩ : ∃ w4, Hid (w3.setCells g3 n (ints .u8 pl) = w4) := ⟨_, Lib.hid rfl⟩
  have hrowl : (ints .u8 xs ++ zs ++ ints .u8 l).length = r := by rw [List.length_append, List.length_append, ints_length, ints_length, hn'.out, HZ.out, hm'.out]; exact hrn
  have HSRC2 : Hid (∀ j u, (ints .u8 pl)[j]? = some u → ∃ b, A1 = some ⟨b, 0, none⟩ ∧ w3.cell? ⟨b, j, none⟩ = some u) := Lib.hid (by
    obtain ⟨A', c', e, _, _, _, h4⟩ := own_look HO1.out
    injection e with e1 e2 e3
    subst e1
    intro j u hu
    obtain ⟨b, eb, hb1, hb2, hc⟩ := h4 j u hu
    refine ⟨b, eb, HG3.out.cell (a := ⟨b, j, none⟩) ((HB2.out.cell (p := ⟨b, j, none⟩) hb2).trans hc) (fun e => ?_)⟩
    have e : b = g := by simpa [Value.ownBlock] using e
    subst e
    rcases HGB.out with h | h
    · have := (HO.out.lt b h).2; omega
    · omega)
  have HB3 : Hid (Below base w w3) := Lib.hid (((HB1.out.mono hb).trans (HB2.out.mono (by omega))).grown HG3.out (by omega) (fun q hq => (HOW.out.lt q hq).1))
  have HB4 : Hid (Below base w w4) := Lib.hid (by rw [← hw4.out]; exact below_cells8 hg3b _ _ HB3.out)
  have HO4 : Hid (w4.ownsRow base 5 1 (.slice (some ⟨g3, 0, none⟩) (r) c3') (r) (ints .u8 (xs ++ Fr.put l))) := Lib.hid (by
    have h := own_splice (ints .u8 pl) n HR.out (by rw [hrowl, ints_length, hk'.out]; omega)
    rw [hw4.out] at h
    have e : splice (ints .u8 xs ++ zs ++ ints .u8 l) n (ints .u8 pl) = ints .u8 (xs ++ Fr.put l) := by
      have := splice_mid (ints .u8 xs) zs (ints .u8 l) (ints .u8 pl) (by rw [ints_length, hk'.out, HZ.out])
      rw [ints_length, hn'.out] at this
      rw [this, HE.out, ints_append, ints_append]
    rw [e] at h
    exact h)
  have HCP : Hid (∀ ty dc, (Builtin.copy_ #[22, 22] ty #[.slice (Option.map (fun x => x.add n) A3) (r - n) dc, .slice A1 k c1]).run Try.prog w3 = .ok (goInt k) w4) := Lib.hid (fun ty dc => by
    obtain ⟨b, eb, _⟩ := HSRC2.out 0 _ (ints_get .u8 pl 0 (by rw [hk'.out]; omega))
    rw [hnk, ← hw4.out, eb, HA3.out, Option.map_some, Addr.add_mid, Nat.zero_add]
    have h := run_copy_sz (P := Try.prog) (ty := ty) (sT := 22) (dT := 22) Try.underlying22 (by kernel_rfl) HR.out n (k + m) dc ⟨b, 0, none⟩ k c1 (ints .u8 pl) (by rw [ints_length, hk'.out, hmin, Nat.mul_one]) (fun j u hu => by
      obtain ⟨b', eb', hc⟩ := HSRC2.out j u hu
      rw [eb] at eb'
      injection eb' with eb'
      injection eb' with eb'
      subst eb'
      rw [Addr.add_mid, Nat.zero_add]
      exact hc) (by rw [hrowl, ints_length, hk'.out]; omega) (ints_one .u8 pl)
    rw [hmin] at h
    exact h)
  have hlen : Hid ((xs ++ Fr.put l).length = r) := Lib.hid (by rw [HE.out, List.length_append, List.length_append, hn'.out, hk'.out, hm'.out]; omega)
  clear hrowl hnk hmin hrn
  refine held_out ?_
  go_wp2_with fail
  rw [HCP.out]
  go_wp2_with fail
  go_ret
  exact ⟨_, rfl, by rw [hlen.out, HA3.out]; exact HO4.out, HB4.out⟩
set_option maxHeartbeats 1000000 in
theorem cnext15_any {w : World} {B : Nat} {v : Value} {l : List Nat} (h : Piece w B v l) (hB : B ≤ w.heap.size) (hb : ∀ x ∈ l, x < 256) (hl : l.length ≤ 1000000000) (most : Int) (h1 : -9223372036854775808 ≤ most) (h2 : most ≤ 9223372036854775807) :
    Calls Try.prog 7 #[v, .int .i64 most] w (NextPost (Fr.next l most) w) := by
  obtain ⟨A, c, rfl, hs, hn, hle, hm⟩ := h
  unfold maxLen at hm
  have HS := Lib.hid hs
  have HN := Lib.hid hn
  have HNe := Lib.hid (fun h => Fr.next_err (l := l) (most := most) h)
  have HNl := Lib.hid (fun h k => Fr.next_long (l := l) (most := most) h k)
  have HNs := Lib.hid (fun h k s => Fr.next_short (l := l) (most := most) h k s)
  have HNg := Lib.hid (fun h k s => Fr.next_good (l := l) (most := most) h k s)
  have hu := Um.get_used l
  have hq := Um.get_num l
  have HP := Lib.hid (fun h => Um.get_pos (l := l) h)
  obtain ⟨n, hn'⟩ : ∃ n, Hid (l.length = n) := ⟨_, Lib.hid rfl⟩
  rw [hn'.out] at hle hl hu HNs HNg ⊢
  have G := Lib.hid (get_any B A l n c w hn'.out (by omega) hs hb)
  obtain ⟨q, u, x, Hg⟩ : ∃ q u x, Hid (Um.get l = (q, u, x)) := ⟨_, _, _, rfl⟩
  rw [Hg.out] at G HNe HNl HNs HNg hu hq HP
  simp only at hu hq
  clear hs hb hn
  by_cases hx : x = 0
  · subst hx
    have hp := HP.out rfl
    simp only at hp
    by_cases hneg : most < 0
    · have hd : (decide (most < 0)) = true := by simpa using hneg
      rw [HNl.out rfl (by simp only; omega)]
      go_enter Try.func7, Try.ntmps7
      go_wp2_with fail
      refine (G.out).mono ?_
      rintro e w1 ⟨rfl, rfl⟩
      go_wp2_with fail
      go_ret3
      exact NextPost.bad (Below.refl _ _)
    · obtain ⟨k, rfl⟩ : ∃ k : Nat, most = (k : Int) := ⟨most.toNat, by omega⟩
      have hwk : IntKind.u64.wrap (k : Int) = (k : Int) := by rw [IntKind.wrap_u64]; omega
      by_cases hlong : k < q
      · rw [HNl.out rfl (by simp only; omega)]
        go_enter Try.func7, Try.ntmps7
        go_wp2_with fail
        refine (G.out).mono ?_
        rintro e w1 ⟨rfl, rfl⟩
        go_wp2_with fail
        go_ret3
        exact NextPost.bad (Below.refl _ _)
      · by_cases hshort : n - u < q
        · rw [HNs.out rfl (by simp only; omega) hshort]
          have hws : IntKind.u64.wrap ((n : Int) - (u : Int)) = ((n - u : Nat) : Int) := by rw [IntKind.wrap_u64]; omega
          go_enter Try.func7, Try.ntmps7
          go_wp2_with fail
          refine (G.out).mono ?_
          rintro e w1 ⟨rfl, rfl⟩
          go_wp2_with fail
          go_ret3
          exact NextPost.bad (Below.refl _ _)
        · rw [HNg.out rfl (by simp only; omega) hshort]
          have hws : IntKind.u64.wrap ((n : Int) - (u : Int)) = ((n - u : Nat) : Int) := by rw [IntKind.wrap_u64]; omega
          have hwq : IntKind.i64.wrap (q : Int) = (q : Int) := by rw [IntKind.wrap_i64]; omega
          have huq : Hid (u + q - u = q) := Lib.hid (by omega)
          have hAk : (if c = u then A else A.map (fun x => x.add u)) = cutAt A c u := rfl
          have hsee : Hid (Sees .u8 w B (cutAt A c u) ((l.drop u).take q)) := Lib.hid ((HS.out.cut (by rw [hn'.out]; omega) (by rw [hn'.out]; omega)).take q)
          have hlen : Hid (((l.drop u).take q).length = q) := Lib.hid (by rw [List.length_take, List.length_drop, hn'.out]; omega)
          have hcn : Hid (cutAt A c u = none → c - u = 0) := Lib.hid (cutAt_null HN.out)
          have C1 := Lib.hid (bclone_any (w := w) (B := B) (v := .slice (cutAt A c u) q (c - u)) (p := (l.drop u).take q) ⟨_, _, by rw [hlen.out], hsee.out, hcn.out, by rw [hlen.out]; omega, by unfold maxLen; omega⟩ (by rw [hlen.out]; omega))
          have hwe : IntKind.i64.wrap ((u : Int) + (q : Int)) = ((u + q : Nat) : Int) := by rw [IntKind.wrap_i64]; omega
          have hsub : u + q - u = q := by omega
          clear hsee hcn
          go_enter Try.func7, Try.ntmps7
          go_wp2_with fail
          refine (G.out).mono ?_
          rintro e w1 ⟨rfl, rfl⟩
          go_wp2_with fail
          refine (C1.out).mono ?_
          rintro e w1 ⟨v1, rfl, ho1, hb1⟩
          go_wp2_with fail
          go_ret3
          exact ⟨v1, rfl, ho1, hb1⟩
  · have hne : ((x : Int) != 0) = true := by simp; omega
    rw [HNe.out (by simpa using hx)]
    go_enter Try.func7, Try.ntmps7
    go_wp2_with fail
    refine (G.out).mono ?_
    rintro e w1 ⟨rfl, rfl⟩
    go_wp2_with fail
    go_ret3
    exact NextPost.bad (Below.refl _ _)
set_option maxHeartbeats 1000000 in
theorem call15_any {w : World} {B : Nat} {v : Value} {l : List Nat} (h : Piece w B v l) (hB : B ≤ w.heap.size) (hb : ∀ x ∈ l, x < 256) (hl : l.length ≤ 1000000000) (most : Int) (h1 : -9223372036854775808 ≤ most) (h2 : most ≤ 9223372036854775807) :
    Calls Try.prog 11 #[v, .int .i64 most] w (FallPost (Fr.all l.length l most 0 []) w) := by
  obtain ⟨A, c, rfl, hs, hn, hle, hm⟩ := h
  have HPi : Hid (∀ (W : World) (k : Nat), Below w.heap.size w W → k ≤ l.length → Piece W B (.slice (cutAt A c k) (l.length - k) (c - k)) (l.drop k)) := Lib.hid (fun W k hW hk =>
    ⟨cutAt A c k, c - k, by rw [List.length_drop], (hs.below (hW.mono hB)).cut hk hle, cutAt_null hn, by rw [List.length_drop]; omega, by omega⟩)
  unfold maxLen at hm
  obtain ⟨base, hbase⟩ : ∃ base, Hid (base = w.heap.size) := ⟨_, Lib.hid rfl⟩
  have HF := Lib.hid (Falls.start (l := l) (n := l.length) (most := most) (w := w) rfl)
  rw [← hbase.out] at HF HPi
  have HByte := Lib.hid (fun k x (hx : x ∈ l.drop k) => hb x (List.mem_of_mem_drop hx))
  have CN := Lib.hid (fun (W : World) (k : Nat) (hW : Below base w W) (hk : k ≤ l.length) (hz : base ≤ W.heap.size) => cnext15_any (most := most) (HPi.out W k hW hk) (by have := hbase.out; omega) (HByte.out k) (by rw [List.length_drop]; omega) h1 h2)
  obtain ⟨n, hn'⟩ : ∃ n, Hid (l.length = n) := ⟨_, Lib.hid rfl⟩
  rw [hn'.out] at HF hle hl CN ⊢
  clear hs hn hb HPi h1 h2
  go_enter Try.func11, Try.ntmps11
  go_wp2_with fail
  go_loopw [7, 8] (fun v i wr => ∃ (L : List (Value × List Nat)) (k f : Nat), i = .int .i64 k ∧ k ≤ n ∧ Hid (Falls base l n most w L k f v wr)) (fun _ i _ => n - (intOf i).toNat)
  case atStart => exact ⟨[], 0, n, rfl, by omega, HF⟩
  case round =>
    obtain ⟨L, k, f, rfl, hk, HP⟩ := hrel
    by_cases hlt : k < n
    · have C1 := Lib.hid (CN.out wr k HP.out.below hk HP.out.size)
      rw [show cutAt A c k = A.map (fun x => x.add k) from if_neg (by omega)] at C1
      obtain ⟨Av, cv, rfl, _, _, _⟩ := HP.out.at_.size
      have hbz := HP.out.size
      have hfew := HP.out.few
      have HX := Lib.hid (fun (x : Nat) (w1 : World) h1 h2 h3 => HP.out.fail (x := x) (w1 := w1) hbase.out hn'.out hlt h1 h2 h3)
      have HN := Lib.hid (fun (w1 w2 : World) (v' u : Value) (b : List Nat) (s : Nat) h1 h2 h3 h4 h5 h6 => HP.out.next (w1 := w1) (w2 := w2) (v' := v') (u := u) (b := b) (s := s) hn'.out hlt h1 h2 h3 h4 h5 h6)
      have hin := Fr.next_in (l := l.drop k) (most := most)
      rw [List.length_drop, hn'.out] at hin
      obtain ⟨b, s, x, hX⟩ : ∃ b s x, Hid (Fr.next (l.drop k) most = (b, s, x)) := ⟨_, _, _, Lib.hid rfl⟩
      rw [hX.out] at C1 HX HN hin
      simp only at HX hin
      by_cases hx : x = 0
      · subst hx
        have hin' := hin rfl
        clear hin
        go_wp2_with fail
        refine (C1.out).mono ?_
        rintro e w1 ⟨u, rfl, ho, hb1⟩
        obtain ⟨Au, cu, rfl, _⟩ := own_look ho
        have HO := Lib.hid ho
        have HB1 := Lib.hid hb1
        have hz1 := hb1.size
        have ho2 : Hid ((w1.alloc (.cells #[.slice Au b.length cu] 22)).ownsRow base 22 1 (.slice Av L.length cv) L.length (L.map (·.1))) := Lib.hid (own_below HP.out.at_.own (hb1.alloc hz1 _))
        clear ho hb1
        go_wp2_with (at_builtin; refine wpList_append_cells rowsT rowsI rfl (by decide) (by decide) _ _ rfl rfl base (.slice Av L.length cv) L.length (List.map (fun x : Value × List Nat => x.1) L) rfl ho2.out 1 1 [.slice Au b.length cu] rfl rfl (fun h => by cases h) (by decide) (src_one _ _ _) (one_slice _ _ _) (by omega) (by simp; omega) ?_; intro v' w2 hr hg hv)
        go_roundw
        case rel => exact ⟨L ++ [(.slice Au b.length cu, b)], k + s, f - 1, by go_num, by omega, Lib.hid (HN.out w1 w2 v' _ b s rfl HO.out HB1.out hr hg hv)⟩
        case measure => simp [intOf]; omega
      · have hne : ((x : Int) != 0) = true := by simp; omega
        clear hin
        go_wp2_with fail
        refine (C1.out).mono ?_
        rintro e w1 ⟨u, rfl, ho, hb1⟩
        have HB1 := Lib.hid hb1
        clear ho hb1
        go_wp2_with fail
        go_ret3
        exact HX.out x w1 rfl hx HB1.out
    · obtain ⟨Av, cv, rfl, _, _, _⟩ := HP.out.at_.size
      go_wp2_with fail
      go_ret3
      exact HP.out.done hbase.out hn'.out hlt
end Go.Proofs.Ytocnfibpkpplgaa
