/- Contracts of the reference of layer 7: Bytes, Hex, byteOf, Unbytes, Unhex. -/
import Derived.Test.YtjjciefkmkffnaaRef7
import Derived.Test.YtjjciefkmkffnaaNumby
namespace Go.Proofs.Ytjjciefkmkffnaa
open Go.RowKit
set_option linter.unusedVariables false

set_option maxRecDepth 100000 in
set_option maxHeartbeats 800000 in
theorem nrbytes_any (B : Nat) (A : Option Addr) (l : List Nat) (n c : Nat) (w : World) (hn : l.length = n) (hn2 : n ≤ 1000000000) (hB : B ≤ w.heap.size) (hs : Sees .u8 w B A l) (hb : ∀ x ∈ l, x < 256) :
    Calls Try.prog 12 #[.slice A n c] w fun e w' => e = .returned (.string (strOf (Nm.bytes l))) ∧ Below w.heap.size w w' := by
  by_cases h0 : n = 0
  · subst h0
    have hl : l = [] := List.eq_nil_of_length_eq_zero hn
    subst hl
    go_enter Try.func12, Try.ntmps12
    go_wp2_with fail
    go_ret
    exact ⟨rfl, Below.refl _ _⟩
  · have h0' : ((n : Int) == 0) = false := by simp; omega
    have hne : Hid (Nm.bytes l = Nm.flat l) := Nm.bytes_ne (by rintro rfl; simp at hn; omega)
    have Hs := Lib.hid hs
    clear hs
    go_enter Try.func12, Try.ntmps12
    go_wp2_with fail
    go_loopw [3, 4] (fun v i wr => ∃ (o : ByteArray) (j : Nat), v = .string o ∧ i = .int .i64 j ∧ j ≤ n ∧ o.size = 2 * j ∧ Hid (o = strOf (Nm.flat (l.take j))) ∧ Hid (Below w.heap.size w wr)) (fun _ i _ => n - (intOf i).toNat)
    case atStart => exact ⟨⟨#[]⟩, 0, rfl, rfl, by omega, rfl, Lib.hid rfl, Lib.hid (Below.refl _ _)⟩
    case round =>
      obtain ⟨o, j, rfl, rfl, hj, hos, HO, HW⟩ := hrel
      by_cases hlt : j < n
      · obtain ⟨b, off, rfl, hbB, hcell⟩ := (Hs.out.keep (w' := wr) (fun p hp => HW.out.cell (by omega))).at_ (i := j) (by omega)
        obtain ⟨x, Hx⟩ : ∃ x, Hid (l.getD j 0 = x) := ⟨_, rfl⟩
        rw [Hx.out] at hcell
        have hx := getD_lt hb j
        rw [Hx.out] at hx
        have C := Lib.hid (fun W => two_any x hx W)
        have s2 : (strOf (Nm.pair x)).size = 2 := by rw [strOf_size]; rfl
        have Hj : Hid (o ++ strOf (Nm.pair x) = strOf (Nm.flat (l.take (j + 1)))) := Lib.hid (by rw [HO.out, strOf_append, take_next (by omega), Nm.flat_snoc, Hx.out])
        obtain ⟨a, Ha⟩ : ∃ a, Hid (strOf (Nm.pair x) = a) := ⟨_, rfl⟩
        rw [Ha.out] at C s2 Hj
        have hsum : (o ++ a).size = 2 * (j + 1) := by rw [ByteArray.size_append]; omega
        have Hsum := Lib.hid hsum
        clear hsum
        go_wp2_with fail
        refine (C.out _).mono ?_
        rintro e w1 ⟨rfl, hb⟩
        have HB1 := Lib.hid (HW.out.trans (hb.mono HW.out.size))
        clear hb
        go_wp2_with fail
        go_roundw
        case rel => exact ⟨_, j + 1, rfl, by go_num, by omega, Hsum.out, Hj, HB1⟩
        case measure => simp [intOf]; omega
      · have hjn : j = l.length := by omega
        have HO' := HO.out
        rw [hjn, List.take_length] at HO'
        have HO2 := Lib.hid HO'
        clear HO' HO
        go_wp2_with fail
        go_ret
        exact ⟨by rw [hne.out, ← HO2.out]; rfl, HW.out⟩

set_option maxRecDepth 100000 in
set_option maxHeartbeats 800000 in
theorem nrhex_any (u : Nat) (hu : u < 18446744073709551616) (w : World) :
    Calls Try.prog 10 #[.int .u64 (u : Int)] w fun e w' => e = .returned (.string (strOf (Nm.hex u))) ∧ Below w.heap.size w w' := by
  go_enter Try.func10, Try.ntmps10
  go_wp2_with fail
  go_loopw [0, 3, 4] (fun z v i wr => ∃ (y : Nat) (o : ByteArray) (j k : Nat) (acc : List Nat), z = .int .u64 y ∧ v = .string o ∧ i = .int .i64 j ∧ j + k = 8 ∧ y < 18446744073709551616 ∧ o.size = 2 * j ∧ Hid (o = strOf acc) ∧ Hid (Nm.hex u = Nm.hx (2 * k) y ++ acc) ∧ Hid (Below w.heap.size w wr)) (fun _ _ i _ => 8 - (intOf i).toNat)
  case atStart => exact ⟨u, ⟨#[]⟩, 0, 8, [], rfl, rfl, rfl, by omega, hu, rfl, Lib.hid rfl, Lib.hid (by rw [List.append_nil]; rfl), Lib.hid (Below.refl _ _)⟩
  case round =>
    obtain ⟨y, o, j, k, acc, rfl, rfl, rfl, hjk, hy, hos, HO, HD, HW⟩ := hrel
    by_cases hlt : j < 8
    · obtain ⟨k', rfl⟩ : ∃ k', k = k' + 1 := ⟨k - 1, by omega⟩
      obtain ⟨x, Hx⟩ : ∃ x, Hid (y % 256 = x) := ⟨_, rfl⟩
      have hx : (y : Int) % 256 = (x : Int) := by have := Hx.out; omega
      have hx' : (y : Int).tmod 256 = (x : Int) := by rw [Int.tmod_eq_emod_of_nonneg (by omega)]; exact hx
      have hxl : x < 256 := by have := Hx.out; omega
      have hxu : IntKind.u8.wrap (x : Int) = (x : Int) := by rw [IntKind.wrap_u8]; omega
      obtain ⟨z, Hz⟩ : ∃ z, Hid (y / 256 = z) := ⟨_, rfl⟩
      have hz : (y : Int) / 256 = (z : Int) := by have := Hz.out; omega
      have hzl : z < 18446744073709551616 := by have := Hz.out; omega
      have C := Lib.hid (fun W => two_any x hxl W)
      have s2 : (strOf (Nm.pair x)).size = 2 := by rw [strOf_size]; rfl
      have Hj : Hid (strOf (Nm.pair x) ++ o = strOf (Nm.pair x ++ acc)) := Lib.hid (by rw [HO.out, strOf_append])
      have HD' : Hid (Nm.hex u = Nm.hx (2 * k') z ++ (Nm.pair x ++ acc)) := Lib.hid (by rw [HD.out, show 2 * (k' + 1) = 2 * k' + 2 by omega, Nm.hx_two, Hx.out, Hz.out, List.append_assoc])
      obtain ⟨a, Ha⟩ : ∃ a, Hid (strOf (Nm.pair x) = a) := ⟨_, rfl⟩
      rw [Ha.out] at C s2 Hj
      have hsum : (a ++ o).size = 2 * (j + 1) := by rw [ByteArray.size_append]; omega
      have Hsum := Lib.hid hsum
      clear hsum
      go_wp2_with fail
      refine (C.out _).mono ?_
      rintro e w1 ⟨rfl, hb⟩
      have HB1 := Lib.hid (HW.out.trans (hb.mono HW.out.size))
      clear hb
      go_wp2_with fail
      go_roundw
      case rel => exact ⟨z, _, j + 1, k', _, rfl, rfl, by go_num, by omega, hzl, Hsum.out, Hj, HD', HB1⟩
      case measure => simp [intOf]; omega
    · have hk0 : k = 0 := by omega
      subst hk0
      have HD' : Hid (Nm.hex u = acc) := Lib.hid (by rw [HD.out]; rfl)
      clear HD
      go_wp2_with fail
      go_ret
      exact ⟨by rw [HD'.out, ← HO.out]; rfl, HW.out⟩

/-- which byte's digits l are, if any -/
def IsByte (l : List Nat) (r : Int) : Prop := (∃ c : Nat, c < 256 ∧ Nm.pair c = l ∧ r = (c : Int)) ∨ ((∀ c, c < 256 → Nm.pair c ≠ l) ∧ r = -1)

set_option maxRecDepth 100000 in
set_option maxHeartbeats 800000 in
theorem byteOf_any {s : ByteArray} {l : List Nat} (T : Txt s l) (w : World) :
    Calls Try.prog 21 #[.string s] w fun e w' => ∃ r, e = .returned (.int .i64 r) ∧ IsByte l r ∧ Below w.heap.size w w' := by
  go_enter Try.func21, Try.ntmps21
  go_wp2_with fail
  go_loopw [3] (fun v wr => ∃ j : Nat, v = .int .i64 j ∧ j ≤ 256 ∧ Hid (∀ c, c < j → Nm.pair c ≠ l) ∧ Hid (Below w.heap.size w wr)) (fun v _ => 256 - (intOf v).toNat)
  case atStart => exact ⟨0, rfl, by omega, Lib.hid (fun c h => by omega), Lib.hid (Below.refl _ _)⟩
  case round =>
    obtain ⟨j, rfl, hj, HN, HW⟩ := hrel
    by_cases hlt : j < 256
    · have C := Lib.hid (fun W => two_any j hlt W)
      have hju : IntKind.u8.wrap (j : Int) = (j : Int) := by rw [IntKind.wrap_u8]; omega
      have heq := (Txt.of (Nm.pair_byte hlt)).eql T
      by_cases hp : Nm.pair j = l
      · rw [decide_eq_true hp] at heq
        have HI : Hid (IsByte l (j : Int)) := Lib.hid (.inl ⟨j, hlt, hp, rfl⟩)
        clear hp
        go_wp2_with fail
        refine (C.out _).mono ?_
        rintro e w1 ⟨rfl, hb⟩
        have HB1 := Lib.hid (HW.out.trans (hb.mono HW.out.size))
        clear hb
        go_wp2_with fail
        go_ret
        exact ⟨_, rfl, HI.out, HB1.out⟩
      · rw [decide_eq_false hp] at heq
        have HN' : Hid (∀ c, c < j + 1 → Nm.pair c ≠ l) := Lib.hid (fun c hc => by
          by_cases e : c = j
          · rw [e]; exact hp
          · exact HN.out c (by omega))
        clear hp
        go_wp2_with fail
        refine (C.out _).mono ?_
        rintro e w1 ⟨rfl, hb⟩
        have HB1 := Lib.hid (HW.out.trans (hb.mono HW.out.size))
        clear hb
        go_wp2_with fail
        go_roundw
        case rel => exact ⟨j + 1, by go_num, by omega, HN', HB1⟩
        case measure => simp [intOf]; omega
    · have HI : Hid (IsByte l (-1)) := Lib.hid (.inr ⟨fun c hc => HN.out c (by omega), rfl⟩)
      clear HN
      go_wp2_with fail
      go_ret
      exact ⟨_, rfl, HI.out, HW.out⟩

/-- what the reference's Unbytes has done behind 2 * b.length bytes -/
structure Rub (l : List Nat) (w : World) (b : List Nat) (v : Value) (wr : World) : Prop where
  own : wr.ownsRow w.heap.size 5 1 v b.length (ints .u8 b)
  below : Below w.heap.size w wr
  size : w.heap.size ≤ wr.heap.size
  byte : ∀ x ∈ b, x < 256
  same : Nm.flat b = l.take (2 * b.length)
section
variable {l : List Nat} {w : World} {b : List Nat} {v v' : Value} {wr w0 w1 : World} {o : Obj}
theorem Rub.start (l : List Nat) (w : World) : Rub l w [] (.slice none 0 0) w := ⟨World.ownsRow_nil _ _ _ _, Below.refl _ _, Nat.le_refl _, by simp, rfl⟩
theorem Rub.call (h : Rub l w b v wr) (hb : Below wr.heap.size wr w0) : Rub l w b v w0 :=
  ⟨own_below h.own hb, h.below.trans (hb.mono h.size), Nat.le_trans h.size hb.size, h.byte, h.same⟩
theorem Rub.next (h : Rub l w b v wr) {x : Nat} {y : Int} (hy : y = (x : Int)) (hx : x < 256) (hp : Nm.pair x = (l.drop (2 * b.length)).take 2) (hl : 2 * b.length + 2 ≤ l.length)
    (ho : w1.ownsRow w.heap.size 5 1 v' (b.length + 1) (ints .u8 b ++ [.int .u8 y])) (hg : (wr.alloc o).grownBy w1 v.ownBlock) : Rub l w (b ++ [x]) v' w1 := by
  obtain ⟨h1, h2, h3, h4, h5⟩ := h
  subst hy
  refine ⟨by rw [ints_append, List.length_append]; exact ho, (h2.alloc h3 o).grown hg (by simp; omega) (fun k hk => (h1.lt k hk).1), by have := hg.size; simp at this; omega, ?_, ?_⟩
  · intro y hy
    rcases List.mem_append.1 hy with hy | hy
    · exact h4 y hy
    · simp at hy; omega
  · rw [Nm.flat_snoc, h5, hp, List.length_append, List.length_singleton, show 2 * (b.length + 1) = 2 * b.length + 2 by omega, List.take_add]
end
theorem own_sees {k : IntKind} {w : World} {base : Nat} {e : TypeId} {v : Value} {l : List Nat} (h : w.ownsRow base e 1 v l.length (ints k l)) : ∃ A c, v = .slice A l.length c ∧ Sees k w w.heap.size A l ∧ (A = none → c = 0) := by
  obtain ⟨A, c, rfl⟩ := own_shape h
  exact ⟨A, c, rfl, Sees.of_own h, own_nil h⟩

set_option maxRecDepth 100000 in
set_option maxHeartbeats 1600000 in
theorem nrunbytes_any {s : ByteArray} {l : List Nat} (T : Txt s l) (hl : l.length ≤ 1000000000) (w : World) :
    Calls Try.prog 18 #[.string s] w (Unby l w) := by
  have hsz := T.size
  by_cases h45 : l = [45]
  · subst h45
    have he : (s.toList == [45]) = true := (T.eql_lit [45]).trans (decide_eq_true rfl)
    have HU := Lib.hid Nm.unbytes_dash
    go_enter Try.func18, Try.ntmps18
    go_wp2_with fail
    go_ret2
    exact ⟨none, 0, by rw [HU.out]; rfl, by rw [HU.out]; exact fun h => absurd h (by simp), fun _ => rfl, Below.refl _ _⟩
  have he : (s.toList == [45]) = false := (T.eql_lit [45]).trans (decide_eq_false h45)
  go_enter Try.func18, Try.ntmps18
  go_wp2_with fail
  go_loopw [4, 5] (fun v i wr => ∃ (b : List Nat) (j : Nat), i = .int .i64 j ∧ Hid (j = 2 * b.length) ∧ j ≤ l.length ∧ Hid (Rub l w b v wr)) (fun _ i _ => l.length - (intOf i).toNat)
  case atStart => exact ⟨[], 0, rfl, Lib.hid rfl, by omega, Lib.hid (Rub.start l w)⟩
  case round =>
    obtain ⟨b, j, rfl, HJ, hj, HR⟩ := hrel
    by_cases hlt : j < l.length
    · have Hbad := Lib.hid (fun h => Nm.unbytes_bad HR.out.byte HR.out.same (by rw [← HJ.out]; exact hlt) h45 h)
      rw [← HJ.out] at Hbad
      by_cases h2 : j + 1 < l.length
      · have T2 : Txt (s.extract j (j + 2)) ((l.drop j).take 2) := by
          have := T.cut j (j + 2)
          rw [Nat.add_sub_cancel_left] at this
          exact this
        have C := Lib.hid (fun W => byteOf_any T2 W)
        have Hnext := Lib.hid (fun (W : World) (h : Below wr.heap.size wr W) (v' : Value) (w1 : World) (o : Obj) (x : Nat) (y : Int) (hy : y = (x : Int)) (hx : x < 256) (hp : Nm.pair x = (l.drop j).take 2) => (HR.out.call h).next (v' := v') (w1 := w1) (o := o) hy hx (by rw [← HJ.out]; exact hp) (by rw [← HJ.out]; omega))
        go_wp2_with fail
        refine (C.out _).mono ?_
        rintro e w1 ⟨r, rfl, hr, hb⟩
        have HR1 := Lib.hid (HR.out.call hb)
        have Hnx := Lib.hid (Hnext.out w1 hb)
        clear hb
        rcases hr with ⟨x, hx, hp, rfl⟩ | ⟨hno, rfl⟩
        · have hxu : IntKind.u8.wrap (x : Int) = (x : Int) := by rw [IntKind.wrap_u8]; omega
          have Hp := Lib.hid hp
          have ho1 := HR1.out.own
          have hz1 := HR1.out.size
          clear hp
          go_wp2_with (at_builtin; refine wpList_append1 byteT _ _ rfl rfl w.heap.size _ b.length (ints .u8 b) rfl rfl rfl ho1 (by have := HJ.out; omega) hz1 ?_; intro v' w2 ho2 hg2)
          go_roundw
          case rel => exact ⟨b ++ [x], j + 2, by go_num, Lib.hid (by rw [List.length_append, List.length_singleton, HJ.out]; omega), by omega, Lib.hid (Hnx.out v' w2 _ x _ rfl hx Hp.out ho2 hg2)⟩
          case measure => simp [intOf]; omega
        · have HU := Lib.hid (Hbad.out hno)
          clear hno
          go_wp2_with fail
          go_ret2
          exact ⟨none, 0, by rw [HU.out]; rfl, by rw [HU.out]; exact fun h => absurd h (by simp), fun _ => rfl, HR1.out.below⟩
      · have HU := Lib.hid (Hbad.out (fun c hc e => by
          have := congrArg List.length e
          rw [Nm.pair_length, List.length_take, List.length_drop] at this
          omega))
        go_wp2_with fail
        go_ret2
        exact ⟨none, 0, by rw [HU.out]; rfl, by rw [HU.out]; exact fun h => absurd h (by simp), fun _ => rfl, HR.out.below⟩
    · have hjl : 2 * b.length = l.length := by have := HJ.out; omega
      have Hsame : Hid (Nm.flat b = l) := Lib.hid (by rw [HR.out.same, hjl, List.take_length])
      obtain ⟨A, c, rfl, hsee, hnil⟩ := own_sees HR.out.own
      by_cases hb0 : b.length = 0
      · have hl0 : l = [] := List.eq_nil_of_length_eq_zero (by omega)
        have HU : Hid (Nm.unbytes l = ([], 3)) := Lib.hid (by rw [hl0]; exact Nm.unbytes_empty)
        have hb0' : ((b.length : Int) == 0) = true := by rw [hb0]; rfl
        clear hsee hnil
        go_wp2_with fail
        go_ret2
        exact ⟨none, 0, by rw [HU.out]; rfl, by rw [HU.out]; exact fun h => absurd h (by simp), fun _ => rfl, HR.out.below⟩
      · have HU := Lib.hid (Nm.unbytes_flat HR.out.byte (by rintro rfl; simp at hb0) Hsame.out)
        have hb0' : ((b.length : Int) == 0) = false := by simp; exact fun h => hb0 (by rw [h]; rfl)
        have Hsee := Lib.hid hsee
        have Hnil := Lib.hid hnil
        clear hsee hnil
        go_wp2_with fail
        go_ret2
        exact ⟨A, c, by rw [HU.out]; rfl, by rw [HU.out]; exact Hsee.out, Hnil.out, HR.out.below⟩

set_option maxRecDepth 100000 in
set_option maxHeartbeats 1600000 in
theorem nrunhex_any {s : ByteArray} {l : List Nat} (T : Txt s l) (hl : l.length ≤ 1000000000) (w : World) :
    Calls Try.prog 16 #[.string s] w fun e w' => e = .returned (.tuple #[.int .u64 ((Nm.unhex l).1 : Int), .int .i64 ((Nm.unhex l).2 : Int)]) ∧ Below w.heap.size w w' := by
  have C := Lib.hid (nrunbytes_any T hl w)
  have href := Nm.unhex_ref l
  have hcas := Nm.unbytes_cases l
  have hlen := Nm.unbytes_length l
  unfold Unby at C
  obtain ⟨b, er, Hbe⟩ : ∃ b er, Hid (Nm.unbytes l = (b, er)) := ⟨_, _, rfl⟩
  rw [Hbe.out] at C href hcas hlen
  dsimp only at C href hcas hlen
  have hbad : ∀ (_ : ¬ (er = 0 ∧ b.length = 8)), Hid (Nm.unhex l = (0, 3)) := fun h => by show _ = _; rw [href, if_neg h]
  have hgood : ∀ (_ : er = 0 ∧ b.length = 8), Hid (Nm.unhex l = (Nm.joined b, 0)) := fun h => by show _ = _; rw [href, if_pos h]
  have Hbad := Lib.hid hbad
  have Hgood := Lib.hid hgood
  clear hbad hgood href
  rcases hcas with ⟨rfl, hby, _⟩ | ⟨rfl, rfl⟩
  · obtain ⟨m, Hm⟩ : ∃ m, Hid (b.length = m) := ⟨_, rfl⟩
    rw [Hm.out] at C hlen Hbad Hgood
    by_cases h8 : m = 8
    · subst h8
      have HX := Lib.hid (Hgood.out ⟨rfl, rfl⟩).out
      have Hjl := Lib.hid (fun j => Nm.joined_lt (b := b.take j) (fun x hx => hby x (List.mem_of_mem_take hx)))
      have Hby := Lib.hid hby
      clear hby Hgood Hbad
      go_enter Try.func16, Try.ntmps16
      go_wp2_with fail
      refine C.out.mono ?_
      rintro e w1 ⟨A, c, rfl, hsee, hnil, hb⟩
      have HB := Lib.hid hb
      have HS := Lib.hid hsee
      clear hb hsee hnil
      go_wp2_with fail
      go_loop [6, 7] (fun v i => ∃ (u j : Nat), v = .int .u64 u ∧ i = .int .i64 j ∧ j ≤ 8 ∧ u < 18446744073709551616 ∧ Hid (u = Nm.joined (b.take j))) (fun _ i => 8 - (intOf i).toNat)
      case atStart => exact ⟨0, 0, rfl, rfl, by omega, by omega, Lib.hid rfl⟩
      case round =>
        obtain ⟨u, j, rfl, rfl, hj, hu, HJ⟩ := hrel
        by_cases hlt : j < 8
        · obtain ⟨g, off, rfl, hg, hcell⟩ := HS.out.at_ (i := j) (by rw [Hm.out]; exact hlt)
          obtain ⟨x, Hx⟩ : ∃ x, Hid (b.getD j 0 = x) := ⟨_, rfl⟩
          rw [Hx.out] at hcell
          have hx := getD_lt Hby.out j
          rw [Hx.out] at hx
          have hnext := Nm.joined_next (b := b) (j := j) (by rw [Hm.out]; exact hlt)
          have hjl := Hjl.out (j + 1)
          rw [hnext, List.length_take, Hm.out, ← HJ.out, Hx.out, show min (j + 1) 8 = j + 1 by omega] at hjl
          have h256 : 256 ^ (j + 1) ≤ (256 : Nat) ^ 8 := Nat.pow_le_pow_right (by omega) (by omega)
          have e256 : (256 : Nat) ^ 8 = 18446744073709551616 := by decide
          have hul : u * 256 + x < 18446744073709551616 := by omega
          have HJ' : Hid (u * 256 + x = Nm.joined (b.take (j + 1))) := Lib.hid (by rw [hnext, ← HJ.out, Hx.out])
          clear hnext hjl h256 e256
          obtain ⟨y, Hy⟩ : ∃ y, Hid (u * 256 + x = y) := ⟨_, rfl⟩
          have hy : (u : Int) * 256 + (x : Int) = (y : Int) := by have := Hy.out; omega
          rw [Hy.out] at HJ' hul
          have hu2 : u * 256 < 18446744073709551616 := by have := Hy.out; omega
          go_wp2_with fail
          go_round
          case rel => exact ⟨y, j + 1, by go_num, by go_num, by omega, hul, HJ'⟩
          case measure => simp [intOf]; omega
        · have hj8 : j = b.length := by rw [Hm.out]; omega
          have HJ2 : Hid (u = Nm.joined b) := Lib.hid (by rw [HJ.out, hj8, List.take_length])
          clear HJ
          go_wp2_with fail
          go_ret2
          exact ⟨by rw [HX.out, HJ2.out]; rfl, HB.out⟩
    · have HX := Lib.hid (Hbad.out (fun h => h8 h.2)).out
      have h8' : ((m : Int) == 8) = false := by simp; omega
      clear Hgood Hbad
      go_enter Try.func16, Try.ntmps16
      go_wp2_with fail
      refine C.out.mono ?_
      rintro e w1 ⟨A, c, rfl, hsee, hnil, hb⟩
      have HB := Lib.hid hb
      clear hb hsee hnil
      go_wp2_with fail
      go_ret2
      exact ⟨by rw [HX.out]; rfl, HB.out⟩
  · have HX := Lib.hid (Hbad.out (fun h => by cases h.1)).out
    clear Hgood Hbad
    go_enter Try.func16, Try.ntmps16
    go_wp2_with fail
    refine C.out.mono ?_
    rintro e w1 ⟨A, c, rfl, hsee, hnil, hb⟩
    have HB := Lib.hid hb
    clear hb hsee hnil
    go_wp2_with fail
    go_ret2
    exact ⟨by rw [HX.out]; rfl, HB.out⟩
end Go.Proofs.Ytjjciefkmkffnaa
