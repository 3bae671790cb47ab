/- Contract of the reference's all of layer 10, and of its Text. -/
import Derived.Test.YtjkjhnpemhlbpaaDoorTput
import Derived.Test.YtjkjhnpemhlbpaaDoorBoxc
namespace Go.Proofs.YtjkjhnpemhlbpaaDoor
open Go.RowKit
set_option linter.unusedVariables false
set_option maxRecDepth 100000
open Gm

/-- what the loop of all has done when j numbers are written -/
structure RAll (l : List Nat) (w : World) (j : Nat) (v : Value) (wr : World) : Prop where
  own : wr.ownsRow w.heap.size 5 1 v ((l.take j).flatMap Um.put).length (ints .u8 ((l.take j).flatMap Um.put))
  below : Below w.heap.size w wr
  few : ((l.take j).flatMap Um.put).length ≤ 80
theorem rall_any (l : List Nat) (w : World) {b : Nat} (n c : Nat) (hI : Ints .u64 w b 23 l) (hl : ∀ x ∈ l, x < 18446744073709551616) (hn : l.length = n) (hn8 : n ≤ 8) :
    Calls Tryd.prog 59 #[.slice (some ⟨b, 0, none⟩) n c] w (Made .u8 5 w.heap.size (l.flatMap Um.put) w) := by
  have few : ∀ j, ((l.take j).flatMap Um.put).length ≤ 80 := fun j => by
    have := flatput_le (l.take j)
    rw [List.length_take] at this
    omega
  have HS : Hid (RAll l w 0 (.slice none 0 0) w) := Lib.hid ⟨World.ownsRow_nil _ _ _ _, Below.refl _ _, few 0⟩
  have HFew := Lib.hid few
  have HI := Lib.hid hI
  have HL := Lib.hid hl
  have Hn := Lib.hid hn
  obtain ⟨base, hbase⟩ : ∃ base, Hid (w.heap.size = base) := ⟨_, rfl⟩
  rw [hbase.out]
  clear hI hl hn few
  go_enter Tryd.func59, Tryd.ntmps59
  go_wp2_with fail
  go_loopw [3, 4] (fun vb vi wr => ∃ (j : Nat), j ≤ n ∧ vi = .int .i64 j ∧ Hid (RAll l w j vb wr)) (fun _ vi _ => n - (intOf vi).toNat)
  case atStart => exact ⟨0, by omega, rfl, HS⟩
  case round =>
    obtain ⟨j, hj, rfl, HP⟩ := hrel
    by_cases hlt : j < n
    · have hia : j < l.length := by rw [Hn.out]; exact hlt
      have hcell := Ints.elem (show Ints .u64 wr b 23 l from Ints.below HI.out HP.out.below (Ints.lt HI.out)) j hia
      have hx64 := HL.out _ (List.getElem_mem hia)
      have HN := Lib.hid (flat_next Um.put l hia)
      obtain ⟨x, Hx⟩ : ∃ x, Hid (l[j] = x) := ⟨l[j], Lib.hid rfl⟩
      rw [Hx.out] at hcell hx64
      have HN2 := Lib.hid (HN.out _ Hx.out)
      have P := putr_any (x : Int) wr (by omega) (by omega)
      rw [Int.toNat_natCast] at P
      have HPC := Lib.hid P
      obtain ⟨k, Hk⟩ : ∃ k, Hid ((Um.put x).length = k) := ⟨_, rfl⟩
      have hk10 : k ≤ 10 := by rw [← Hk.out]; exact Um.put_le x
      obtain ⟨p, Hp⟩ : ∃ p, Hid (((l.take j).flatMap Um.put).length = p) := ⟨_, rfl⟩
      have hp80 : p ≤ 80 := by rw [← Hp.out]; exact HP.out.few
      clear HN P
      go_wp2_with fail
      refine (HPC.out).mono ?_
      rintro e w1 ⟨v1, rfl, ho1, hb1⟩
      rw [Hk.out] at ho1
      obtain ⟨A, c, rfl⟩ := own_shape ho1
      have HSee := Lib.hid (Sees.of_own (l := Um.put x) (by rw [Hk.out]; exact ho1))
      have HNil := Lib.hid (own_nil ho1)
      have HOw := Lib.hid (own_below HP.out.own hb1)
      rw [Hp.out] at HOw
      have HB := Lib.hid (HP.out.below.trans (hb1.mono HP.out.below.size))
      have hz : w.heap.size ≤ w1.heap.size := HB.out.size
      clear ho1 hb1
      go_wp2_with (at_builtin; refine wpList_append_rowk byteT _ _ rfl rfl w.heap.size _ p _ rfl HOw.out k c rfl Hk.out HNil.out HSee.out (by omega) hz ?_; intro v2 w2 ho2 hk2)
      have HP2 : Hid (RAll l w (j + 1) v2 w2) := Lib.hid ⟨by rw [HN2.out, List.length_append, ints_append, Hp.out, Hk.out]; exact ho2, HB.out.trans (hk2.below (own_lt HOw.out) hz), HFew.out _⟩
      clear ho2 hk2
      go_roundw
      case rel => exact ⟨j + 1, by omega, by go_num, HP2⟩
      case measure => simp [intOf]; omega
    · have hjn : j = n := by omega
      go_wp2_with fail
      go_ret
      have h := HP.out.own
      have hb := HP.out.below
      rw [hjn, ← Hn.out, List.take_length] at h
      rw [hbase.out] at h hb
      exact ⟨_, rfl, h, hb⟩
/-- the same, behind the making of the numbers' block -/
theorem rall_call (l : List Nat) (w : World) {cs : Array Value} (hcs : cs = (ints .u64 l).toArray) (n : Nat) (hn : l.length = n) (hn8 : n ≤ 8) (hl : ∀ x ∈ l, x < 18446744073709551616) :
    Calls Tryd.prog 59 #[.slice (some ⟨w.heap.size, 0, none⟩) n n] (w.alloc (.cells cs 23)) (Made .u8 5 w.heap.size (l.flatMap Um.put) w) := by
  subst hcs
  have c := rall_any l (w.alloc (.cells (ints .u64 l).toArray 23)) (b := w.heap.size) n n (Whole.made _ _ _) hl hn hn8
  exact c.mono fun e w' ⟨v', h1, h2, h3⟩ => ⟨v', h1, own_lower h2 (by simp), ((Below.refl _ w).alloc (Nat.le_refl _) _).trans (h3.mono (by simp))⟩
theorem rtexts_any (s : ByteArray) (hs : s.size ≤ 1000000000) (w : World) :
    Calls Tryd.prog 60 #[.string s] w (Made .u8 5 w.heap.size (Tg.txtB s) w) := by
  have c := textr_any (Txt.nums s) (by rw [Fm.nums_length]; exact hs) w
  rw [Fm.nums_length] at c
  exact c
end Go.Proofs.YtjkjhnpemhlbpaaDoor
