/- Contracts of the reader's methods number, text, key of layer 12. -/
import Derived.Test.YtphanlkobkkgfaaRb12
namespace Go.Proofs.Ytphanlkobkkgfaa
open Go.RowKit
set_option linter.unusedVariables false
set_option maxRecDepth 100000
set_option linter.unusedSimpArgs false

namespace Bn
/-- what number answers -/
def NumV (g : Nat) (R : Rs Int) (v : Value) (w' : World) : Prop :=
  (∃ e : Nat, R = .bad e ∧ v = .iface 29 (.int .i64 (e : Int))) ∨ (∃ (n : Int) (r : List Nat), R = .ok n r ∧ v = .iface 2 (.int .i64 n) ∧ Nm.In n ∧ Rb w' g r)
/-- what text and key answer -/
def WordV (g : Nat) (R : Rs ByteArray) (v : Value) (w' : World) : Prop :=
  (∃ e : Nat, R = .bad e ∧ v = .iface 29 (.int .i64 (e : Int))) ∨ (∃ (s : ByteArray) (r : List Nat), R = .ok s r ∧ v = .iface 9 (.string s) ∧ s.size ≤ 1048576 ∧ Rb w' g r)
theorem first_cons (ok : Nat → Bool) (c : Nat) (l : List Nat) : first ok (c :: l) = if ok c = true then 0 else 3 := rfl
theorem first_le (ok : Nat → Bool) (l : List Nat) : first ok l ≤ 3 := by
  cases l with
  | nil => show 2 ≤ 3; omega
  | cons c l => rw [first_cons]; split <;> omega
end Bn
theorem mkE12 (x : Value) (W : World) : (Instr.makeInterface 29 x).run Try.prog W = .ok (.iface 29 x) W := run_makeInterface W _ x (by kernel_rfl)
theorem mkN12 (x : Value) (W : World) : (Instr.makeInterface 2 x).run Try.prog W = .ok (.iface 2 x) W := run_makeInterface W _ x (by kernel_rfl)
theorem mkS12 (x : Value) (W : World) : (Instr.makeInterface 9 x).run Try.prog W = .ok (.iface 9 x) W := run_makeInterface W _ x (by kernel_rfl)
theorem mkT12 (x : Value) (W : World) : (Instr.makeInterface 25 x).run Try.prog W = .ok (.iface 25 x) W := run_makeInterface W _ x (by kernel_rfl)
theorem asNE12 (v : Value) (W : World) : (Instr.typeAssert (.iface 29 v) 20 2 true).run Try.prog W = .ok (.tuple #[.int .i64 0, .bool false]) W := by kernel_rfl
theorem asNN12 (v : Value) (W : World) : (Instr.typeAssert (.iface 2 v) 20 2 true).run Try.prog W = .ok (.tuple #[v, .bool true]) W := by kernel_rfl
theorem asSE12 (v : Value) (W : World) : (Instr.typeAssert (.iface 29 v) 20 9 true).run Try.prog W = .ok (.tuple #[.string ⟨#[]⟩, .bool false]) W := by kernel_rfl
theorem asSS12 (v : Value) (W : World) : (Instr.typeAssert (.iface 9 v) 20 9 true).run Try.prog W = .ok (.tuple #[v, .bool true]) W := by kernel_rfl

theorem number12_any {w : World} {g : Nat} {l : List Nat} (h : Rb w g l) (hl : l.length ≤ 1000000000) (k : Nat) (hk : k < 256) :
    Calls Try.prog 35 #[.pointer (some ⟨g, 0, none⟩), .int .u8 (k : Int)] w fun e w' => ∃ v, e = .returned v ∧ Bn.NumV g (Bn.number k l) v w' ∧ Only g w w' := by
  obtain ⟨A, c, h⟩ := h
  have h1 := h.rest
  have hf := h.free 0
  have hle := h.le
  have hmx := h.max
  unfold maxLen at hmx
  have H := Lib.hid h
  have mE := mkE12
  have mN := mkN12
  have C := Lib.hid (bidx_any h.sees h.byte l.length c k rfl hk)
  obtain ⟨n, hn⟩ : ∃ n, Hid (l.length = n) := ⟨_, rfl⟩
  rw [hn.out] at h1 hl hle C
  clear h
  rcases Bn.look_cases l k with h0 | ⟨i, hi⟩
  · rw [Bn.look_bad h0]
    rw [h0] at C
    clear h0
    go_enter Try.func35, Try.ntmps35
    go_wp2_with fail
    refine (C.out).mono ?_
    rintro e w1 ⟨rfl, rfl⟩
    go_wp2_with fail
    go_ret
    exact ⟨_, rfl, .inl ⟨2, rfl, rfl⟩, Only.refl _ _⟩
  · obtain ⟨hil, hN⟩ := Bn.look_is hi
    rw [hN]
    rw [hi] at C
    rw [hn.out] at hil
    clear hi hN
    have htl : (l.take i).length = i := by rw [List.length_take, hn.out]; omega
    have hcv : (convert 28 9 (.slice A i c)).run Try.prog w = .ok (.string (strOf (l.take i))) w := conv_sees Try.underlying28 Try.underlying5 Try.underlying9 i c htl (H.out.sees.take i)
    have CG := Lib.hid (nget_any (Txt.of (fun x hx => H.out.byte x (List.mem_of_mem_take hx)) : Txt (strOf (l.take i)) (l.take i)) (by omega) w)
    have HG := Lib.hid (Nm.get_cases (l.take i))
    obtain ⟨sx, hsx⟩ : ∃ s, Hid (strOf (l.take i) = s) := ⟨_, rfl⟩
    rw [hsx.out] at hcv CG
    obtain ⟨g1, hg1⟩ : ∃ g, Hid ((Nm.get (l.take i)).1 = g) := ⟨_, rfl⟩
    obtain ⟨g2, hg2⟩ : ∃ g, Hid ((Nm.get (l.take i)).2 = g) := ⟨_, rfl⟩
    rw [hg1.out, hg2.out] at CG HG ⊢
    clear htl
    by_cases he : g2 = 0
    · subst he
      rw [if_pos rfl]
      have HIn : Hid (Nm.In g1) := Lib.hid (by
        rcases HG.out with ⟨_, h, _⟩ | ⟨h, _⟩ | ⟨h, _⟩
        · exact h
        · omega
        · omega)
      obtain ⟨j, hj⟩ : ∃ j, Hid (i + 1 = j) := ⟨_, rfl⟩
      have hw1 : IntKind.i64.wrap ((i : Int) + 1) = (j : Int) := by rw [← hj.out, IntKind.wrap_i64]; omega
      have hjn : j ≤ n := by rw [← hj.out]; omega
      have hij : i ≤ n := by omega
      have hif : ∀ X Y : Option Addr, (if c = j then X else Y) = pickIf c j X Y := fun _ _ => rfl
      have HQ := Lib.hid (hj.out)
      clear HG
      go_enter Try.func35, Try.ntmps35
      go_wp2_with fail
      refine (C.out).mono ?_
      rintro e w1 ⟨rfl, rfl⟩
      go_wp2_with fail
      refine (CG.out).mono ?_
      rintro e w2 ⟨rfl, hb2⟩
      have H2 := Lib.hid (H.out.below hb2 H.out.lt)
      have HO := Lib.hid (Only.of_below (g := g) hb2)
      have d1 := H2.out.rest
      have df := H2.out.free 0
      rw [hn.out] at d1
      have HP := Lib.hid (H2.out.pass (j := j) (by rw [hn.out]; exact hjn))
      rw [hn.out] at HP
      clear hb2 h1 hf hcv
      go_wp2_with fail
      go_ret
      refine ⟨_, rfl, .inr ⟨g1, _, rfl, rfl, HIn.out, by rw [HQ.out]; exact ⟨_, _, HP.out⟩⟩, HO.out.setCell _ _⟩
    · rw [if_neg he]
      have q1 : ((g2 : Int) != 0) = true := by simp; omega
      have q2 : ((g2 : Int) == 0) = false := by simp; omega
      have hg9 : g2 ≤ 9 := by rcases HG.out with ⟨h, _⟩ | ⟨h, _⟩ | ⟨h, _⟩ <;> omega
      have hij : i ≤ n := by omega
      clear HG
      go_enter Try.func35, Try.ntmps35
      go_wp2_with fail
      refine (C.out).mono ?_
      rintro e w1 ⟨rfl, rfl⟩
      go_wp2_with fail
      refine (CG.out).mono ?_
      rintro e w2 ⟨rfl, hb2⟩
      have HO := Lib.hid (Only.of_below (g := g) hb2)
      clear hb2
      go_wp2_with fail
      go_ret
      exact ⟨_, rfl, .inl ⟨3, rfl, rfl⟩, HO.out⟩
theorem Bn.number_pos0 {l r : List Nat} {n : Int} {c : Nat} {m : List Nat} (hl : l = c :: m) (hd : Bn.digit c = true) (h : Bn.number 58 l = .ok n r) : 0 ≤ n := by
  obtain ⟨_, h2⟩ := Bn.number_sound h
  rcases Int.lt_or_le n 0 with hneg | hpos
  · rw [hl, Nm.put_neg hneg] at h2
    injection h2 with e _
    rw [e, Bn.digit_iff] at hd
    omega
  · exact hpos
theorem text12r_any {w : World} {g : Nat} {l : List Nat} {c0 : Nat} {m0 : List Nat} (h : Rb w g l) (hl : l.length ≤ 1000000000) (hl0 : l = c0 :: m0) (hd : Bn.digit c0 = true) :
    Calls Try.prog 38 #[.pointer (some ⟨g, 0, none⟩)] w fun e w' => ∃ v, e = .returned v ∧ Bn.WordV g (Bn.word l) v w' ∧ Only g w w' := by
  have C1 := Lib.hid (number12_any h hl 58 (by omega))
  have HP := Lib.hid (fun (n : Int) r h => Bn.number_pos0 (n := n) (r := r) hl0 hd h)
  have HNB := Lib.hid (fun e h => Bn.number_bad (c := 58) (e := e) (l := l) h)
  obtain ⟨R, hR⟩ : ∃ R, Hid (Bn.number 58 l = R) := ⟨_, rfl⟩
  obtain ⟨Wd, hW⟩ : ∃ W, Hid (Bn.word l = W) := ⟨_, rfl⟩
  have F1 : Hid (∀ e, R = .bad e → Wd = .bad e) := Lib.hid (fun e h => by
    rw [← hW.out]; unfold Bn.word; rw [hR.out, h])
  have F2 : Hid (∀ n r, R = .ok n r → 1048576 < n → Wd = .bad 5) := Lib.hid (fun n r h h1 => by
    rw [← hW.out]; unfold Bn.word; rw [hR.out, h]; simp only []; rw [if_pos h1])
  have F3 : Hid (∀ n r, R = .ok n r → ¬ 1048576 < n → (r.length : Int) < n → Wd = .bad 2) := Lib.hid (fun n r h h1 h2 => by
    rw [← hW.out]; unfold Bn.word; rw [hR.out, h]; simp only []; rw [if_neg h1, if_pos h2])
  have F4 : Hid (∀ n r, R = .ok n r → ¬ 1048576 < n → ¬ (r.length : Int) < n → Wd = .ok (strOf (r.take n.toNat)) (r.drop n.toNat)) := Lib.hid (fun n r h h1 h2 => by
    rw [← hW.out]; unfold Bn.word; rw [hR.out, h]; simp only []; rw [if_neg h1, if_neg h2])
  have HLn := Lib.hid (fun n r (h : Bn.number 58 l = .ok n r) => Bn.number_len h)
  rw [hW.out]
  rw [hR.out] at C1 HP HNB HLn
  have mE := mkE12
  have mS := mkS12
  have aE := asNE12
  have aN := asNN12
  clear hl0 hd h
  go_enter Try.func38, Try.ntmps38
  go_wp2_with fail
  refine (C1.out).mono ?_
  rintro e w1 ⟨v, rfl, hv, ho1⟩
  have HO1 := Lib.hid ho1
  clear ho1
  rcases hv with ⟨e, rfl, rfl⟩ | ⟨n, r, rfl, rfl, hin, hr⟩
  · have HE := Lib.hid (F1.out e rfl)
    clear F1 F2 F3 F4 HP HNB HLn
    go_wp2_with fail
    go_ret
    exact ⟨_, rfl, .inl ⟨e, HE.out, rfl⟩, HO1.out⟩
  · have hn0 := HP.out n r rfl
    have hrl := HLn.out n r rfl
    obtain ⟨m, rfl⟩ : ∃ m : Nat, n = (m : Int) := ⟨n.toNat, by omega⟩
    unfold Nm.In at hin
    have hm63 := hin.2
    have G2 := Lib.hid (F2.out _ _ rfl)
    have G3 := Lib.hid (F3.out _ _ rfl)
    have G4 := Lib.hid (F4.out _ _ rfl)
    obtain ⟨A, c, hr⟩ := hr
    have H := Lib.hid hr
    have d1 := hr.rest
    have df := hr.free 0
    have hle := hr.le
    have hmx := hr.max
    unfold maxLen at hmx
    obtain ⟨ln, hln⟩ : ∃ n, Hid (r.length = n) := ⟨_, rfl⟩
    rw [hln.out] at d1 hle hrl G3 G4
    clear hin hn0 hr F1 F2 F3 F4 HP HNB HLn
    by_cases h1 : 1048576 < m
    · go_wp2_with fail
      go_ret
      exact ⟨_, rfl, .inl ⟨5, G2.out (by omega), rfl⟩, HO1.out⟩
    · by_cases h2 : ln < m
      · go_wp2_with fail
        go_ret
        exact ⟨_, rfl, .inl ⟨2, G3.out (by omega) (by omega), rfl⟩, HO1.out⟩
      · have hE := G4.out (by omega) (by omega)
        rw [Int.toNat_natCast] at hE
        have HE := Lib.hid hE
        have htl : (r.take m).length = m := by rw [List.length_take, hln.out]; omega
        have hcv : (convert 28 9 (.slice A m c)).run Try.prog w1 = .ok (.string (strOf (r.take m))) w1 := conv_sees Try.underlying28 Try.underlying5 Try.underlying9 m c htl (H.out.sees.take m)
        have HS : Hid ((strOf (r.take m)).size ≤ 1048576) := Lib.hid (by rw [strOf_size, htl]; omega)
        obtain ⟨sx, hsx⟩ : ∃ s, Hid (strOf (r.take m) = s) := ⟨_, rfl⟩
        rw [hsx.out] at hcv HE HS
        have hif : ∀ X Y : Option Addr, (if c = m then X else Y) = pickIf c m X Y := fun _ _ => rfl
        have HPs := Lib.hid (H.out.pass (j := m) (by rw [hln.out]; omega))
        rw [hln.out] at HPs
        have h3 : m ≤ ln := by omega
        clear htl hE
        go_wp2_with fail
        go_ret
        exact ⟨_, rfl, .inr ⟨sx, _, HE.out, rfl, HS.out, ⟨_, _, HPs.out⟩⟩, HO1.out.setCell _ _⟩
namespace Bn
/-- what key reads -/
noncomputable def keyR : List Nat → Rs ByteArray
  | [] => .bad 2
  | c :: l => if digit c = true then word (c :: l) else .bad 3
theorem keyR_cons (c : Nat) (l : List Nat) : keyR (c :: l) = if digit c = true then word (c :: l) else .bad 3 := rfl
end Bn
theorem key12r_any {w : World} {g : Nat} {l : List Nat} (h : Rb w g l) (hl : l.length ≤ 1000000000) :
    Calls Try.prog 52 #[.pointer (some ⟨g, 0, none⟩)] w fun e w' => ∃ v, e = .returned v ∧ Bn.WordV g (Bn.keyR l) v w' ∧ Only g w w' := by
  have C1 := Lib.hid (starts12_any h _ _ Bn.set_key)
  have mE := mkE12
  by_cases h0 : Bn.first Bn.digit l = 0
  · obtain ⟨c, m, hl0, hd⟩ : ∃ c m, l = c :: m ∧ Bn.digit c = true := by
      cases l with
      | nil => simp [Bn.first] at h0
      | cons c m =>
        refine ⟨c, m, rfl, ?_⟩
        rw [Bn.first_cons] at h0
        split at h0
        · assumption
        · omega
    have C2 := Lib.hid (text12r_any h hl hl0 hd)
    have HK : Hid (Bn.keyR l = Bn.word l) := Lib.hid (by rw [hl0, Bn.keyR_cons, if_pos hd])
    rw [h0] at C1
    rw [HK.out]
    clear hl0 hd h h0
    go_enter Try.func52, Try.ntmps52
    go_wp2_with fail
    refine (C1.out).mono ?_
    rintro e w1 ⟨rfl, rfl⟩
    go_wp2_with fail
    refine (C2.out).mono ?_
    rintro e w2 ⟨v, rfl, hv, ho⟩
    have HV := Lib.hid hv
    have HO := Lib.hid ho
    clear hv ho
    go_wp2_with fail
    go_ret
    exact ⟨_, rfl, HV.out, HO.out⟩
  · have HK : Hid (Bn.keyR l = .bad (Bn.first Bn.digit l)) := Lib.hid (by
      cases l with
      | nil => rfl
      | cons c m =>
        rw [Bn.first_cons] at h0 ⊢
        rw [Bn.keyR_cons]
        split at h0
        · omega
        · rename_i hd
          rw [if_neg hd, if_neg hd])
    rw [HK.out]
    have hx9 : Bn.first Bn.digit l ≤ 3 := Bn.first_le _ _
    obtain ⟨x, hx⟩ : ∃ x, Hid (Bn.first Bn.digit l = x) := ⟨_, rfl⟩
    rw [hx.out] at C1 h0 hx9 ⊢
    have q1 : ((x : Int) != 0) = true := by simp; omega
    have q2 : ((x : Int) == 0) = false := by simp; omega
    clear h
    go_enter Try.func52, Try.ntmps52
    go_wp2_with fail
    refine (C1.out).mono ?_
    rintro e w1 ⟨rfl, rfl⟩
    go_wp2_with fail
    go_ret
    exact ⟨_, rfl, .inl ⟨x, rfl, rfl⟩, Only.refl _ _⟩
end Go.Proofs.Ytphanlkobkkgfaa
