/- A list or a dictionary while the program reads it; contracts of its methods list and dict of layer 12, out of that of value. -/
import Derived.Test.YtphanlkobkkgfaaOf12
import Derived.Test.YtphanlkobkkgfaaRlist12
import Derived.Test.YtphanlkobkkgfaaIdx11
namespace Go.Proofs.Ytphanlkobkkgfaa
open Go.RowKit
set_option linter.unusedVariables false
set_option maxRecDepth 100000
set_option linter.unusedSimpArgs false

/-- while it is being read: block r holds the reader, block g the tree -/
structure Lsc (w : World) (r g : Nat) (kd : Int) (ks : List ByteArray) (L : List Tq) (vk vq : Value) (wr : World) : Prop where
  tree : Whole wr g 25 #[.int .i64 kd, .int .i64 0, .string ⟨#[]⟩, vk, vq]
  lt : w.heap.size ≤ g
  rl : r < w.heap.size
  keys : wr.ownsRow (g + 1) 9 1 vk ks.length (txs ks)
  kids : wr.ownsRow (g + 1) 25 5 vq L.length (five L)
  apart : ∀ b, vk.ownBlock = some b → vq.ownBlock ≠ some b
  all : ∀ x ∈ L, Tp wr (fun b => g < b ∧ vk.ownBlock ≠ some b ∧ vq.ownBlock ≠ some b) x.1 x.2.1 x.2.2
  sizes : ∀ s ∈ ks, s.size ≤ maxLen
  bel : Only r w wr
theorem Only.grown12 {r : Nat} {w wr w1 : World} {o : Option Nat} (h : Only r w wr) (hg : wr.grownBy w1 o) (ho : ∀ k, o = some k → w.heap.size ≤ k) : Only r w w1 :=
  ⟨hg.os.trans h.os, hg.tape.trans h.tape, hg.output.trans h.output, Nat.le_trans h.size hg.size, fun i hi hr => (hg.block i (Nat.lt_of_lt_of_le hi h.size) (fun e => by have := ho i e.symm; omega)).trans (h.block i hi hr)⟩
theorem Only.setOther12 {r g i : Nat} {w wr : World} (h : Only r w wr) (hg : w.heap.size ≤ g) (u : Value) : Only r w (wr.setCell ⟨g, i, none⟩ u) :=
  ⟨h.os, h.tape, h.output, by simpa [World.setCell] using h.size, fun j hj hr => (Below.heap_setCell _ _ _ _ (by show j ≠ g; omega)).trans (h.block j hj hr)⟩
section
variable {w : World} {r g : Nat} {kd : Int} {ks : List ByteArray} {L : List Tq} {vk vq : Value} {wr w1 w2 w3 : World}
theorem Lsc.gk (H : Lsc w r g kd ks L vk vq wr) {b : Nat} (hb : vk.ownBlock = some b) : g < b ∧ b < wr.heap.size := by have := H.keys.lt b hb; omega
theorem Lsc.gq (H : Lsc w r g kd ks L vk vq wr) {b : Nat} (hb : vq.ownBlock = some b) : g < b ∧ b < wr.heap.size := by have := H.kids.lt b hb; omega
theorem Lsc.behind (H : Lsc w r g kd ks L vk vq wr) (hb : Only r wr w1) : Lsc w r g kd ks L vk vq w1 where
  tree := H.tree.only hb (by have := H.lt; have := H.rl; omega)
  lt := H.lt
  rl := H.rl
  keys := own_same12 H.keys (fun b e hl => hb.block b hl (by have := H.gk e; have := H.lt; have := H.rl; omega))
  kids := own_same12 H.kids (fun b e hl => hb.block b hl (by have := H.gq e; have := H.lt; have := H.rl; omega))
  apart := H.apart
  all := fun x hx => (H.all x hx).keep (fun b p q => ⟨p, hb.block b q (by have := H.lt; have := H.rl; omega)⟩)
  sizes := H.sizes
  bel := H.bel.trans hb
/-- a key is appended -/
theorem Lsc.key (H : Lsc w r g kd ks L vk vq wr) {s : ByteArray} {v' : Value} (ho : w1.ownsRow (g + 1) 9 1 v' (ks ++ [s]).length (txs (ks ++ [s]))) (hg : wr.grownBy w1 vk.ownBlock) (hv : v'.ownBlock = vk.ownBlock ∨ v'.ownBlock = some wr.heap.size) (hs : s.size ≤ maxLen) :
    Lsc w r g kd (ks ++ [s]) L v' vq (w1.setCell ⟨g, 3, none⟩ v') := by
  have hgl := H.tree.lt
  have hlt := H.lt
  have hne : ∀ b, b ≤ g → some b ≠ vk.ownBlock := fun b hb e => by have := H.gk e.symm; omega
  have hap : ∀ b, b < wr.heap.size → vk.ownBlock ≠ some b → v'.ownBlock ≠ some b := fun b hb hk e => by
    rcases hv with e' | e'
    · rw [e'] at e; exact hk e
    · rw [e'] at e; injection e with e; omega
  have hsm : ∀ b, g < b → b < wr.heap.size → vk.ownBlock ≠ some b → (w1.setCell ⟨g, 3, none⟩ v').heap[b]? = wr.heap[b]? := fun b h1 h2 h3 => by
    rw [heap_setCell_other w1 ⟨g, 3, none⟩ b v' (by show b ≠ g; omega)]
    exact hg.block b h2 (fun e => h3 e.symm)
  refine ⟨?_, H.lt, H.rl, ?_, ?_, ?_, ?_, ?_, ?_⟩
  · exact (whole_grown12 H.tree hg (hne g (Nat.le_refl _))).put 3 v'
  · exact own_same12 ho (fun b e _ => heap_setCell_other w1 ⟨g, 3, none⟩ b v' (by have := (ho.lt b e).1; show b ≠ g; omega))
  · exact own_same12 H.kids (fun b e hb => hsm b (H.gq e).1 hb (fun e' => H.apart b e' e))
  · intro b hb e
    have h2 := H.gq e
    rcases hv with e' | e'
    · exact H.apart b (by rw [← e']; exact hb) e
    · rw [e'] at hb; injection hb with hb; omega
  · exact fun x hx => (H.all x hx).keep (fun b p q => ⟨⟨p.1, hap b q p.2.1, p.2.2⟩, hsm b p.1 q p.2.1⟩)
  · intro x hx
    rcases List.mem_append.1 hx with hx | hx
    · exact H.sizes x hx
    · simp at hx; subst hx; exact hs
  · exact (H.bel.grown12 hg (fun k e => by have := H.gk e; omega)).setOther12 hlt _
/-- a kid is appended -/
theorem Lsc.kid (H : Lsc w r g kd ks L vk vq wr) {x : Tn} {xk xq v' : Value} (hx : Tp wr (fun b => g < b ∧ vk.ownBlock ≠ some b ∧ vq.ownBlock ≠ some b) x xk xq) (ho : w1.ownsRow (g + 1) 25 5 v' (L ++ [(x, xk, xq)]).length (five (L ++ [(x, xk, xq)]))) (hg : wr.grownBy w1 vq.ownBlock) (hv : v'.ownBlock = vq.ownBlock ∨ v'.ownBlock = some wr.heap.size) :
    Lsc w r g kd ks (L ++ [(x, xk, xq)]) vk v' (w1.setCell ⟨g, 4, none⟩ v') := by
  have hgl := H.tree.lt
  have hlt := H.lt
  have hne : ∀ b, b ≤ g → some b ≠ vq.ownBlock := fun b hb e => by have := H.gq e.symm; omega
  have hap : ∀ b, b < wr.heap.size → vq.ownBlock ≠ some b → v'.ownBlock ≠ some b := fun b hb hk e => by
    rcases hv with e' | e'
    · rw [e'] at e; exact hk e
    · rw [e'] at e; injection e with e; omega
  have hsm : ∀ b, g < b → b < wr.heap.size → vq.ownBlock ≠ some b → (w1.setCell ⟨g, 4, none⟩ v').heap[b]? = wr.heap[b]? := fun b h1 h2 h3 => by
    rw [heap_setCell_other w1 ⟨g, 4, none⟩ b v' (by show b ≠ g; omega)]
    exact hg.block b h2 (fun e => h3 e.symm)
  have one : ∀ y : Tq, Tp wr (fun b => g < b ∧ vk.ownBlock ≠ some b ∧ vq.ownBlock ≠ some b) y.1 y.2.1 y.2.2 → Tp (w1.setCell ⟨g, 4, none⟩ v') (fun b => g < b ∧ vk.ownBlock ≠ some b ∧ v'.ownBlock ≠ some b) y.1 y.2.1 y.2.2 := fun y hy => hy.keep (fun b p q => ⟨⟨p.1, p.2.1, hap b q p.2.2⟩, hsm b p.1 q p.2.2⟩)
  refine ⟨?_, H.lt, H.rl, ?_, ?_, ?_, ?_, H.sizes, ?_⟩
  · exact (whole_grown12 H.tree hg (hne g (Nat.le_refl _))).put 4 v'
  · exact own_same12 H.keys (fun b e hb => hsm b (H.gk e).1 hb (H.apart b e))
  · exact own_same12 ho (fun b e _ => heap_setCell_other w1 ⟨g, 4, none⟩ b v' (by have := (ho.lt b e).1; show b ≠ g; omega))
  · intro b hb
    exact hap b (H.gk hb).2 (H.apart b hb)
  · intro y hy
    rcases List.mem_append.1 hy with hy | hy
    · exact one y (H.all y hy)
    · simp at hy; subst hy; exact one _ hx
  · exact (H.bel.grown12 hg (fun k e => by have := H.gq e; omega)).setOther12 hlt _
/-- it is done -/
theorem Lsc.done (H : Lsc w r g kd ks L vk vq wr) (hk : kd = 3 ∨ kd = 4) : Tp wr (fun b => w.heap.size ≤ b) (.mk kd 0 ⟨#[]⟩ ks (L.map (·.1))) vk vq := by
  have hlt := H.lt
  exact Tp.of_own (base := g + 1) (L := L) (by show -9223372036854775808 ≤ kd ∧ kd ≤ 9223372036854775807; omega) (by show (-9223372036854775808 : Int) ≤ 0 ∧ (0 : Int) ≤ 9223372036854775807; omega) (by show (0 : Nat) ≤ maxLen; omega) H.keys H.sizes H.kids rfl (fun b hb => by omega) (fun x hx => (H.all x hx).keep (fun b p q => ⟨by omega, rfl⟩))
theorem Lsc.start {w0 : World} (hw : Below w.heap.size w w0) (h2 : Whole w0 g 25 #[.int .i64 kd, .int .i64 0, .string ⟨#[]⟩, .slice none 0 0, .slice none 0 0]) (hl : w.heap.size ≤ g) (hr : r < w.heap.size) : Lsc w r g kd [] [] (.slice none 0 0) (.slice none 0 0) w0 where
  tree := h2
  lt := hl
  rl := hr
  keys := World.ownsRow_nil _ _ 9 1
  kids := World.ownsRow_nil _ _ 25 5
  apart := fun b hb => by cases hb
  all := fun x hx => by cases hx
  sizes := fun x hx => by cases hx
  bel := Only.of_below hw
end
theorem dict_nil12 (w : World) : Calls Try.prog 51 #[] w fun e w' => e = .returned (.agg #[.int .i64 4, .int .i64 0, .string ⟨#[]⟩, .slice none 0 0, .slice none 0 0]) ∧ Below w.heap.size w w' := dict11_any w
def leftB (w : World) (r : Nat) : Nat := match w.cell? ⟨r, 0, none⟩ with | some (.slice _ n _) => n | _ => 0
theorem leftB_rb {w : World} {r : Nat} {l : List Nat} (h : Rb w r l) : leftB w r = l.length := by
  obtain ⟨A, c, h⟩ := h
  unfold leftB
  rw [h.rest]
theorem Rb.stays {w w' : World} {r : Nat} {l : List Nat} (h : Rb w r l) (hb : ∀ i, i ≤ r → w'.heap[i]? = w.heap[i]?) : Rb w' r l := by
  obtain ⟨A, c, h⟩ := h
  refine ⟨A, c, ⟨(hb r (Nat.le_refl _)).trans h.whole, fun hl => ?_, h.byte, h.le, h.max, h.null⟩⟩
  obtain ⟨b, off, e, hb', hc⟩ := h.sees hl
  exact ⟨b, off, e, hb', fun i hi => (World.cell?_of_block (a := ⟨b, _, none⟩) (hb b (by omega))).trans (hc i hi)⟩
namespace Bn
section
variable {e : Nat} {ks : List ByteArray} {l r : List Nat} {s : ByteArray}
theorem entry_key_bad (h : keyR l = .bad e) : entry true ks l = .bad e := by
  cases l with
  | nil =>
    have h' : (Rs.bad 2 : Rs ByteArray) = .bad e := h
    injection h' with h'
    rw [entry_nil, h']
  | cons c l =>
    rw [keyR_cons] at h
    split at h
    · rename_i hd; exact entry_word hd h
    · rename_i hd
      injection h with h'
      rw [entry_form (by simpa using hd), h']
theorem entry_key_less (h : keyR l = .ok s r) (hx : ∃ k, ks.getLast? = some k ∧ Tn.less k s = false) : entry true ks l = .bad 3 := by
  cases l with
  | nil => cases h
  | cons c l =>
    rw [keyR_cons] at h
    split at h
    · rename_i hd; exact entry_less hd h hx
    · cases h
theorem entry_key_ok (h : keyR l = .ok s r) (hx : ¬ ∃ k, ks.getLast? = some k ∧ Tn.less k s = false) : entry true ks l = .ok (ks ++ [s]) r := by
  cases l with
  | nil => cases h
  | cons c l =>
    rw [keyR_cons] at h
    split at h
    · rename_i hd; exact entry_ok hd h hx
    · cases h
theorem keyR_bad (h : keyR l = .bad e) : 1 ≤ e ∧ e ≤ 6 := by
  cases l with
  | nil => cases h; omega
  | cons c l =>
    rw [keyR_cons] at h
    split at h
    · have := word_bad h; omega
    · cases h; omega
theorem keyR_len (h : keyR l = .ok s r) : r.length < l.length := by
  cases l with
  | nil => cases h
  | cons c l =>
    rw [keyR_cons] at h
    split at h
    · exact word_len h
    · cases h
end
end Bn


set_option maxHeartbeats 8000000 in
theorem list12_any (k' m : Nat) (hm : m + (k' + 1) = 9)
    (HV : ∀ (w : World) (g : Nat) (l : List Nat), Rb w g l → l.length ≤ 1000000000 → Calls Try.prog 20 #[.pointer (some ⟨g, 0, none⟩), .int .i64 ((m + 1 : Nat) : Int)] w fun e w' => ∃ v, e = .returned v ∧ Bn.AnyV g w.heap.size (Bn.value k' l) v w' ∧ Only g w w')
    {w : World} {r : Nat} {l : List Nat} (h : Rb w r l) (hl : l.length ≤ 1000000000) :
    Calls Try.prog 36 #[.pointer (some ⟨r, 0, none⟩), .int .i64 (m : Int)] w fun e w' => ∃ v, e = .returned v ∧ Bn.AnyV r w.heap.size (Bn.loop (Bn.value k') false (l.length + 1) [] [] l) v w' ∧ Only r w w' := by
  have C0 := Lib.hid (list_nil12 w)
  have HR0 := Lib.hid h
  have HVl := Lib.hid (Bn.value_len k')
  have HVb := Lib.hid (Bn.value_bad k')
  obtain ⟨m1, hm1⟩ : ∃ x, Hid (m + 1 = x) := ⟨_, rfl⟩
  have hw1 : IntKind.i64.wrap ((m : Int) + 1) = (m1 : Int) := by rw [← hm1.out, IntKind.wrap_i64]; omega
  have hm8 : m ≤ 8 := by omega
  rw [hm1.out] at HV
  have HVv := Lib.hid HV
  obtain ⟨V, hV⟩ : ∃ V, Hid (Bn.value k' = V) := ⟨_, rfl⟩
  rw [hV.out] at HVl HVb HVv ⊢
  obtain ⟨R, hR⟩ : ∃ R, Hid (Bn.loop V false (l.length + 1) [] [] l = R) := ⟨_, rfl⟩
  rw [hR.out]
  have mE := mkE12
  have mT := mkT12
  have aE := asSE12
  have aS := asSS12
  have hrw := h.lt
  clear HV hm h
  go_enter Try.func36, Try.ntmps36
  go_wp2_with fail
  refine (C0.out).mono ?_
  rintro e w1 ⟨rfl, hb1⟩
  obtain ⟨g, w2, hg, hal2, hG2, hb2, hs2⟩ := var_tree w1
  obtain ⟨w3, hst⟩ : ∃ w3, w2.setRow g #[.int .i64 3, .int .i64 0, .string ⟨#[]⟩, .slice none 0 0, .slice none 0 0] = w3 := ⟨_, rfl⟩
  have hG3 : Whole w3 g 25 #[.int .i64 3, .int .i64 0, .string ⟨#[]⟩, .slice none 0 0, .slice none 0 0] := by rw [← hst]; exact hG2.row _
  have hwg : w.heap.size ≤ g := by rw [← hg]; exact hb1.size
  have hB3 : Below w.heap.size w w3 := by rw [← hst]; exact below_row (hb1.trans (hb2.mono hwg)) hwg _
  have HS := Lib.hid (Lsc.start (kd := 3) hB3 hG3 hwg hrw)
  have HR3 := Lib.hid (HR0.out.behind hB3)
  have HG2 := Lib.hid hG2
  clear hb1 hb2 hs2 hG2 hG3 hB3
  go_upto_region 2 with (refine wpList_store_whole rfl rfl rfl rfl rfl HG2.out (treeI rfl) rfl (by simp [Value.oneCell']) ?_; rw [hst])
  clear hg hal2 hst
  go_loopw [4] (fun v4 wr => ∃ (lr : List Nat) (L : List Tq) (vq : Value), v4 = .nilIface ∧ lr.length ≤ 1000000000 ∧ L.length + lr.length ≤ 1000000000 ∧ Hid (Lsc w r g 3 [] L (.slice none 0 0) vq wr) ∧ Hid (Rb wr r lr) ∧ Hid (Bn.loop V false (lr.length + 1) [] (L.map (·.1)) lr = R)) (fun _ wr => leftB wr r)
  case atStart => exact ⟨l, [], _, rfl, hl, by simpa using hl, HS, HR3, hR⟩
  case round =>
    obtain ⟨lr, L, vq, rfl, hlr, hLl, HI, HRb, HR⟩ := hrel
    by_cases hh : lr.head? = some 101
    case pos =>
      obtain ⟨lt, hlt⟩ : ∃ lt, lr = 101 :: lt := by
        cases lr with
        | nil => cases hh
        | cons c lt => injection hh with hh; exact ⟨lt, by rw [hh]⟩
      subst hlt
      have CS := Lib.hid (skips12_yes HRb.out)
      have HE : Hid (R = .ok (.mk 3 0 ⟨#[]⟩ [] (L.map (·.1))) lt) := Lib.hid (by rw [← HR.out, Bn.loop_hit rfl]; rfl)
      obtain ⟨A, c0, rfl, hc1, hc2, hc3, _⟩ := own_look HI.out.kids
      clear hh
      go_wp2_with fail
      refine (CS.out).mono ?_
      rintro e w4 ⟨rfl, hrb4, ho4⟩
      have HI4 := Lib.hid (HI.out.behind ho4)
      have HRb4 := Lib.hid hrb4
      clear hrb4 ho4
      have t0 := HI4.out.tree.at_ 0
      have t1 := HI4.out.tree.at_ 1
      have t2 := HI4.out.tree.at_ 2
      have t3 := HI4.out.tree.at_ 3
      have t4 := HI4.out.tree.at_ 4
      simp at t0 t1 t2 t3 t4
      go_wp2_with fail
      go_ret
      exact ⟨_, rfl, .inr ⟨_, lt, HE.out, HRb4.out, .inr (.inr ⟨.slice none 0 0, .slice A L.length c0, by first | rfl | (unfold tval; rfl), HI4.out.done (.inl rfl)⟩)⟩, HI4.out.bel⟩
    have CS := Lib.hid (skips12_no HRb.out 101 (by omega) hh)
    have HNh := Lib.hid hh
    clear hh
    go_wp2_with fail
    refine (CS.out).mono ?_
    rintro e wr ⟨rfl, rfl⟩
    have HEn : Hid (Bn.entry false [] lr = .ok [] lr) := Lib.hid Bn.entry_plain
    have CV := Lib.hid (HVv.out _ _ _ HRb.out (by omega))
    obtain ⟨Rv, hRv⟩ : ∃ X, Hid (V lr = X) := ⟨_, rfl⟩
    rw [hRv.out] at CV
    go_wp2_with fail
    refine (CV.out).mono ?_
    rintro e w4 ⟨v, rfl, hv, ho4⟩
    have HI4 := Lib.hid (HI.out.behind ho4)
    have HW4 : Hid (wr.heap.size ≤ w4.heap.size) := Lib.hid ho4.size
    clear ho4
    rcases hv with ⟨e, rfl, rfl⟩ | ⟨x, rr, rfl, hrb, hat⟩
    · have he := HVb.out _ _ hRv.out
      have q1 : ((e : Int) != 0) = true := by simp; omega
      have q2 : ((e : Int) == 0) = false := by simp; omega
      have he9 : e ≤ 6 := by omega
      have CT := Lib.hid (treeof_bad e w4)
      have HE : Hid (R = .bad e) := Lib.hid (by rw [← HR.out]; exact Bn.loop_value HNh.out HEn.out hRv.out)
      clear he
      go_wp2_with fail
      refine (CT.out).mono ?_
      rintro e' w5 ⟨rfl, hb5⟩
      have HO5 := Lib.hid ((HI4.out.behind (Only.of_below hb5)).bel)
      obtain ⟨u, w6, hu, hal6, hU6, hb6, hs6⟩ := var_tree w5
      have HO7 : Hid (∀ cs, Only r w (w6.setRow u cs)) := Lib.hid (fun cs => HO5.out.trans (Only.of_below (by rw [hu]; exact below_row hb6 (Nat.le_refl _) cs)))
      have HU6 := Lib.hid hU6
      clear hb5 hb6 hs6 hU6
      go_upto_region 4 with (refine wpList_store_whole rfl rfl rfl rfl rfl HU6.out (treeI rfl) rfl (by simp [Value.oneCell']) ?_)
      clear hu hal6
      go_wp2_with fail
      go_ret
      exact ⟨_, rfl, .inl ⟨e, HE.out, rfl⟩, HO7.out _⟩
    · have CT := Lib.hid (treeof_any hat)
      have HRb4 := Lib.hid hrb
      clear hat hrb
      go_wp2_with fail
      refine (CT.out).mono ?_
      rintro e' w5 ⟨xk, xq, rfl, hx, hb5⟩
      have HI5 := Lib.hid (HI4.out.behind (Only.of_below hb5))
      obtain ⟨u, w6, hu, hal6, hU6, hb6, hs6⟩ := var_tree w5
      have hb6s : Below w5.heap.size w5 w6 := by rw [hu]; exact hb6
      have hu5 : w5.heap.size ≤ u := by omega
      obtain ⟨Ak, ck, rfl, _⟩ := hx.tv.keys
      obtain ⟨Aq, cq, rfl, _⟩ := hx.tv.kids
      have HX := Lib.hid hx
      unfold tval
      obtain ⟨w7, hst7⟩ : ∃ w7, w6.setRow u #[.int .i64 x.kind, .int .i64 x.n, .string x.s, .slice Ak x.keys.length ck, .slice Aq x.kids.length cq] = w7 := ⟨_, rfl⟩
      have hU7 : Whole w7 u 25 #[.int .i64 x.kind, .int .i64 x.n, .string x.s, .slice Ak x.keys.length ck, .slice Aq x.kids.length cq] := by rw [← hst7]; exact hU6.row _
      have HB7 : Hid (Below w5.heap.size w5 w7) := Lib.hid (by rw [← hst7]; exact below_row hb6s hu5 _)
      have HI7 := Lib.hid (HI5.out.behind (Only.of_below HB7.out))
      have HRb7 := Lib.hid ((HRb4.out.behind hb5).behind HB7.out)
      have HW7 : Hid (w4.heap.size ≤ w5.heap.size) := Lib.hid hb5.size
      have HU6 := Lib.hid hU6
      have u0 := hU7.at_ 0
      have u1 := hU7.at_ 1
      have u2 := hU7.at_ 2
      have u3 := hU7.at_ 3
      have u4 := hU7.at_ 4
      simp at u0 u1 u2 u3 u4
      have hrlen : rr.length < (lr).length := HVl.out _ _ _ hRv.out
      clear hb5 hb6 hb6s hs6 hU6 hx
      go_upto_region 4 with (refine wpList_store_whole rfl rfl rfl rfl rfl HU6.out (treeI rfl) rfl (by simp [Value.oneCell']) ?_; rw [hst7])
      clear hu hal6
      go_upto_region 6 with fail
      obtain ⟨A, c0, rfl, hc1, hc2, hc3, _⟩ := own_look HI7.out.kids
      have t4 := HI7.out.tree.at_ 4
      simp at t4
      obtain ⟨z, hz⟩ : ∃ z, w7.heap.size = z := ⟨_, rfl⟩
      obtain ⟨wa, hala⟩ : ∃ wa, w7.alloc (.cells #[.int .i64 x.kind, .int .i64 x.n, .string x.s, .slice Ak x.keys.length ck, .slice Aq x.kids.length cq] 25) = wa := ⟨_, rfl⟩
      have hBa : Below w7.heap.size w7 wa := by rw [hz, ← hala]; exact below_lit _ hz _
      have hsrc : Src wa (some ⟨z, 0, none⟩) (five [(x, .slice Ak x.keys.length ck, .slice Aq x.kids.length cq)]) := by rw [← hala]; exact src_lit _ hz _
      have HSa := Lib.hid hsrc
      have HIa := Lib.hid (HI7.out.behind (Only.of_below hBa))
      have HRba := Lib.hid (HRb7.out.behind hBa)
      have hgb : g + 1 ≤ wa.heap.size := HIa.out.tree.lt
      have HBa : Hid (Below w5.heap.size w5 wa) := Lib.hid (HB7.out.trans (hBa.mono HB7.out.size))
      have HXa : Hid (Tp wa (fun b => g < b ∧ (Value.slice none 0 0).ownBlock ≠ some b ∧ (Value.slice A L.length c0).ownBlock ≠ some b) x (.slice Ak x.keys.length ck) (.slice Aq x.kids.length cq)) := Lib.hid (HX.out.keep (fun b p q => ⟨⟨by have := HI.out.tree.lt; omega, fun e => by have := (HI.out.gk e).2; omega, fun e => by have := (HI.out.gq e).2; omega⟩, HBa.out.block b q⟩))
      clear hBa hsrc
      go_wp2_with (at_builtin; refine wpList_append_cells Try.underlying23 treeZ rfl (by decide) (by decide) _ _ rfl rfl (g + 1) (.slice A L.length c0) L.length _ rfl HIa.out.kids 1 1 (five [(x, .slice Ak x.keys.length ck, .slice Aq x.kids.length cq)]) rfl rfl (fun h => by cases h) (Nat.le_refl _) HSa.out (by simp [five, Value.oneCell']) (by omega) hgb ?_; intro v9 w9 ho9 hg9 hv9; obtain ⟨g9, c9, rfl, hg9a, hg9b⟩ := ho9.form (by omega); have hT9 := whole_grown12 HIa.out.tree hg9 (fun e => by have := (HIa.out.gq e.symm).1; omega); have f9 := hT9.free 4; have d9 := hT9.at_ 4; simp at d9)
      have HF := Lib.hid (HIa.out.kid HXa.out (by rw [five_snoc, List.length_append]; exact ho9) hg9 hv9)
      have HRbF : Hid (Rb (w9.setCell ⟨g, 4, none⟩ (.slice (some ⟨g9, 0, none⟩) (L.length + 1) c9)) r rr) := Lib.hid (HRba.out.stays (fun i hi => by
        have h1 := HIa.out.rl
        have h2 := HIa.out.lt
        rw [heap_setCell_other w9 ⟨g, 4, none⟩ i _ (by show i ≠ g; omega)]
        exact hg9.block i (by omega) (fun e => by have := (HIa.out.gq e.symm).1; omega)))
      have HRn : Hid (Bn.loop V false (rr.length + 1) [] ((L ++ [(x, Value.slice Ak x.keys.length ck, Value.slice Aq x.kids.length cq)]).map (·.1)) rr = R) := Lib.hid (by
        rw [← HR.out, Bn.loop_step HVl.out HNh.out HEn.out hRv.out, List.map_append]; rfl)
      have HLB : Hid (leftB (w9.setCell ⟨g, 4, none⟩ (.slice (some ⟨g9, 0, none⟩) (L.length + 1) c9)) r < leftB wr r) := Lib.hid (by rw [leftB_rb HRbF.out, leftB_rb HRb.out]; omega)
      clear hz hala t4 f9 d9 hT9 ho9 hg9 hv9 u0 u1 u2 u3 u4
      go_roundw
      case rel => exact ⟨rr, _, _, rfl, by omega, by rw [List.length_append, List.length_singleton]; omega, HF, HRbF, HRn⟩
      case measure => exact HLB.out

set_option maxHeartbeats 8000000 in
theorem dict12_any (k' m : Nat) (hm : m + (k' + 1) = 9)
    (HV : ∀ (w : World) (g : Nat) (l : List Nat), Rb w g l → l.length ≤ 1000000000 → Calls Try.prog 20 #[.pointer (some ⟨g, 0, none⟩), .int .i64 ((m + 1 : Nat) : Int)] w fun e w' => ∃ v, e = .returned v ∧ Bn.AnyV g w.heap.size (Bn.value k' l) v w' ∧ Only g w w')
    {w : World} {r : Nat} {l : List Nat} (h : Rb w r l) (hl : l.length ≤ 1000000000) :
    Calls Try.prog 37 #[.pointer (some ⟨r, 0, none⟩), .int .i64 (m : Int)] w fun e w' => ∃ v, e = .returned v ∧ Bn.AnyV r w.heap.size (Bn.loop (Bn.value k') true (l.length + 1) [] [] l) v w' ∧ Only r w w' := by
  have C0 := Lib.hid (dict_nil12 w)
  have HR0 := Lib.hid h
  have HVl := Lib.hid (Bn.value_len k')
  have HVb := Lib.hid (Bn.value_bad k')
  obtain ⟨m1, hm1⟩ : ∃ x, Hid (m + 1 = x) := ⟨_, rfl⟩
  have hw1 : IntKind.i64.wrap ((m : Int) + 1) = (m1 : Int) := by rw [← hm1.out, IntKind.wrap_i64]; omega
  have hm8 : m ≤ 8 := by omega
  rw [hm1.out] at HV
  have HVv := Lib.hid HV
  obtain ⟨V, hV⟩ : ∃ V, Hid (Bn.value k' = V) := ⟨_, rfl⟩
  rw [hV.out] at HVl HVb HVv ⊢
  obtain ⟨R, hR⟩ : ∃ R, Hid (Bn.loop V true (l.length + 1) [] [] l = R) := ⟨_, rfl⟩
  rw [hR.out]
  have mE := mkE12
  have mT := mkT12
  have aE := asSE12
  have aS := asSS12
  have hrw := h.lt
  clear HV hm h
  go_enter Try.func37, Try.ntmps37
  go_wp2_with fail
  refine (C0.out).mono ?_
  rintro e w1 ⟨rfl, hb1⟩
  obtain ⟨g, w2, hg, hal2, hG2, hb2, hs2⟩ := var_tree w1
  obtain ⟨w3, hst⟩ : ∃ w3, w2.setRow g #[.int .i64 4, .int .i64 0, .string ⟨#[]⟩, .slice none 0 0, .slice none 0 0] = w3 := ⟨_, rfl⟩
  have hG3 : Whole w3 g 25 #[.int .i64 4, .int .i64 0, .string ⟨#[]⟩, .slice none 0 0, .slice none 0 0] := by rw [← hst]; exact hG2.row _
  have hwg : w.heap.size ≤ g := by rw [← hg]; exact hb1.size
  have hB3 : Below w.heap.size w w3 := by rw [← hst]; exact below_row (hb1.trans (hb2.mono hwg)) hwg _
  have HS := Lib.hid (Lsc.start (kd := 4) hB3 hG3 hwg hrw)
  have HR3 := Lib.hid (HR0.out.behind hB3)
  have HG2 := Lib.hid hG2
  clear hb1 hb2 hs2 hG2 hG3 hB3
  go_upto_region 2 with (refine wpList_store_whole rfl rfl rfl rfl rfl HG2.out (treeI rfl) rfl (by simp [Value.oneCell']) ?_; rw [hst])
  clear hg hal2 hst
  go_loopw [4] (fun v4 wr => ∃ (lr : List Nat) (ks : List ByteArray) (L : List Tq) (vk vq : Value), v4 = .nilIface ∧ lr.length ≤ 1000000000 ∧ ks.length + lr.length ≤ 1000000000 ∧ L.length + lr.length ≤ 1000000000 ∧ Hid (Lsc w r g 4 ks L vk vq wr) ∧ Hid (Rb wr r lr) ∧ Hid (Bn.loop V true (lr.length + 1) ks (L.map (·.1)) lr = R)) (fun _ wr => leftB wr r)
  case atStart => exact ⟨l, [], [], _, _, rfl, hl, by simpa using hl, by simpa using hl, HS, HR3, hR⟩
  case round =>
    obtain ⟨lr, ks, L, vk, vq, rfl, hlr, hkl, hLl, HI, HRb, HR⟩ := hrel
    obtain ⟨Ay, cy, rfl, hy1, hy2, hy3, hy4⟩ := own_look HI.out.keys
    clear hy4
    by_cases hh : lr.head? = some 101
    case pos =>
      obtain ⟨lt, hlt⟩ : ∃ lt, lr = 101 :: lt := by
        cases lr with
        | nil => cases hh
        | cons c lt => injection hh with hh; exact ⟨lt, by rw [hh]⟩
      subst hlt
      have CS := Lib.hid (skips12_yes HRb.out)
      have HE : Hid (R = .ok (.mk 4 0 ⟨#[]⟩ ks (L.map (·.1))) lt) := Lib.hid (by rw [← HR.out, Bn.loop_hit rfl]; rfl)
      obtain ⟨A, c0, rfl, hc1, hc2, hc3, _⟩ := own_look HI.out.kids
      clear hh
      go_wp2_with fail
      refine (CS.out).mono ?_
      rintro e w4 ⟨rfl, hrb4, ho4⟩
      have HI4 := Lib.hid (HI.out.behind ho4)
      have HRb4 := Lib.hid hrb4
      clear hrb4 ho4
      have t0 := HI4.out.tree.at_ 0
      have t1 := HI4.out.tree.at_ 1
      have t2 := HI4.out.tree.at_ 2
      have t3 := HI4.out.tree.at_ 3
      have t4 := HI4.out.tree.at_ 4
      simp at t0 t1 t2 t3 t4
      go_wp2_with fail
      go_ret
      exact ⟨_, rfl, .inr ⟨_, lt, HE.out, HRb4.out, .inr (.inr ⟨.slice Ay ks.length cy, .slice A L.length c0, by first | rfl | (unfold tval; rfl), HI4.out.done (.inr rfl)⟩)⟩, HI4.out.bel⟩
    have CS := Lib.hid (skips12_no HRb.out 101 (by omega) hh)
    have HNh := Lib.hid hh
    clear hh
    go_wp2_with fail
    refine (CS.out).mono ?_
    rintro e wr ⟨rfl, rfl⟩
    have CK := Lib.hid (key12r_any HRb.out hlr)
    obtain ⟨Rk, hRk⟩ : ∃ X, Hid (Bn.keyR lr = X) := ⟨_, rfl⟩
    rw [hRk.out] at CK
    go_wp2_with fail
    refine (CK.out).mono ?_
    rintro e w2' ⟨v, rfl, hv, ho2⟩
    have HJ := Lib.hid (HI.out.behind ho2)
    have HW2 : Hid (wr.heap.size ≤ w2'.heap.size) := Lib.hid ho2.size
    clear ho2
    rcases hv with ⟨e, rfl, rfl⟩ | ⟨key, l2, rfl, rfl, hks, hrb2⟩
    · have HE : Hid (R = .bad e) := Lib.hid (by rw [← HR.out]; exact Bn.loop_entry HNh.out (Bn.entry_key_bad hRk.out))
      go_wp2_with fail
      go_ret
      exact ⟨_, rfl, .inl ⟨e, HE.out, rfl⟩, HJ.out.bel⟩
    have HRb2 := Lib.hid hrb2
    have hl2 : l2.length < lr.length := Bn.keyR_len hRk.out
    clear hrb2
    have HL0 : ks = [] ∨ ∃ j, ks.length = j + 1 := by
      cases ks with
      | nil => exact .inl rfl
      | cons x xs => exact .inr ⟨xs.length, rfl⟩
    have t3z := HJ.out.tree.at_ 3
    simp at t3z
    rcases HL0 with hk0 | ⟨j, hj⟩
    · have hjw : IntKind.i64.wrap (((ks.length : Nat) : Int) - 1) = -1 := by rw [hk0]; rfl
      have HEn : Hid (Bn.entry true ks lr = .ok (ks ++ [key]) l2) := Lib.hid (Bn.entry_key_ok hRk.out (by rw [hk0]; simp))
      clear hk0
      go_upto_region 10 with fail
      clear hjw t3z
      have CV := Lib.hid (HVv.out _ _ _ HRb2.out (by omega))
      obtain ⟨Rv, hRv⟩ : ∃ X, Hid (V l2 = X) := ⟨_, rfl⟩
      rw [hRv.out] at CV
      go_wp2_with fail
      refine (CV.out).mono ?_
      rintro e w4 ⟨v, rfl, hv, ho4⟩
      have HI4 := Lib.hid (HJ.out.behind ho4)
      have HW4 : Hid (w2'.heap.size ≤ w4.heap.size) := Lib.hid ho4.size
      clear ho4
      rcases hv with ⟨e, rfl, rfl⟩ | ⟨x, rr, rfl, hrb, hat⟩
      · have he := HVb.out _ _ hRv.out
        have q1 : ((e : Int) != 0) = true := by simp; omega
        have q2 : ((e : Int) == 0) = false := by simp; omega
        have he9 : e ≤ 6 := by omega
        have CT := Lib.hid (treeof_bad e w4)
        have HE : Hid (R = .bad e) := Lib.hid (by rw [← HR.out]; exact Bn.loop_value HNh.out HEn.out hRv.out)
        clear he
        go_wp2_with fail
        refine (CT.out).mono ?_
        rintro e' w5 ⟨rfl, hb5⟩
        have HO5 := Lib.hid ((HI4.out.behind (Only.of_below hb5)).bel)
        obtain ⟨u, w6, hu, hal6, hU6, hb6, hs6⟩ := var_tree w5
        have HO7 : Hid (∀ cs, Only r w (w6.setRow u cs)) := Lib.hid (fun cs => HO5.out.trans (Only.of_below (by rw [hu]; exact below_row hb6 (Nat.le_refl _) cs)))
        have HU6 := Lib.hid hU6
        clear hb5 hb6 hs6 hU6
        go_upto_region 11 with (refine wpList_store_whole rfl rfl rfl rfl rfl HU6.out (treeI rfl) rfl (by simp [Value.oneCell']) ?_)
        clear hu hal6
        go_wp2_with fail
        go_ret
        exact ⟨_, rfl, .inl ⟨e, HE.out, rfl⟩, HO7.out _⟩
      · have CT := Lib.hid (treeof_any hat)
        have HRb4 := Lib.hid hrb
        clear hat hrb
        go_wp2_with fail
        refine (CT.out).mono ?_
        rintro e' w5 ⟨xk, xq, rfl, hx, hb5⟩
        have HI5 := Lib.hid (HI4.out.behind (Only.of_below hb5))
        obtain ⟨u, w6, hu, hal6, hU6, hb6, hs6⟩ := var_tree w5
        have hb6s : Below w5.heap.size w5 w6 := by rw [hu]; exact hb6
        have hu5 : w5.heap.size ≤ u := by omega
        obtain ⟨Ak, ck, rfl, _⟩ := hx.tv.keys
        obtain ⟨Aq, cq, rfl, _⟩ := hx.tv.kids
        have HX := Lib.hid hx
        unfold tval
        obtain ⟨w7, hst7⟩ : ∃ w7, w6.setRow u #[.int .i64 x.kind, .int .i64 x.n, .string x.s, .slice Ak x.keys.length ck, .slice Aq x.kids.length cq] = w7 := ⟨_, rfl⟩
        have hU7 : Whole w7 u 25 #[.int .i64 x.kind, .int .i64 x.n, .string x.s, .slice Ak x.keys.length ck, .slice Aq x.kids.length cq] := by rw [← hst7]; exact hU6.row _
        have HB7 : Hid (Below w5.heap.size w5 w7) := Lib.hid (by rw [← hst7]; exact below_row hb6s hu5 _)
        have HI7 := Lib.hid (HI5.out.behind (Only.of_below HB7.out))
        have HRb7 := Lib.hid ((HRb4.out.behind hb5).behind HB7.out)
        have HW7 : Hid (w4.heap.size ≤ w5.heap.size) := Lib.hid hb5.size
        have HU6 := Lib.hid hU6
        have u0 := hU7.at_ 0
        have u1 := hU7.at_ 1
        have u2 := hU7.at_ 2
        have u3 := hU7.at_ 3
        have u4 := hU7.at_ 4
        simp at u0 u1 u2 u3 u4
        have hrlen : rr.length < (l2).length := HVl.out _ _ _ hRv.out
        clear hb5 hb6 hb6s hs6 hU6 hx
        go_upto_region 11 with (refine wpList_store_whole rfl rfl rfl rfl rfl HU6.out (treeI rfl) rfl (by simp [Value.oneCell']) ?_; rw [hst7])
        clear hu hal6
        go_upto_region 13 with fail
        have t3 := HI7.out.tree.at_ 3
        simp at t3
        obtain ⟨zk, hzk⟩ : ∃ z, w7.heap.size = z := ⟨_, rfl⟩
        obtain ⟨wb, halb⟩ : ∃ wb, w7.alloc (.cells #[.string key] 9) = wb := ⟨_, rfl⟩
        have hBb : Below w7.heap.size w7 wb := by rw [hzk, ← halb]; exact below_lit _ hzk _
        have hsrcb : Src wb (some ⟨zk, 0, none⟩) [.string key] := by rw [← halb]; exact src_lit _ hzk _
        have HSb := Lib.hid hsrcb
        have HIb := Lib.hid (HI7.out.behind (Only.of_below hBb))
        have HRbb := Lib.hid (HRb7.out.behind hBb)
        have HUb := Lib.hid (hU7.below hBb hU7.lt)
        have HWb : Hid (Below w5.heap.size w5 wb) := Lib.hid (HB7.out.trans (hBb.mono HB7.out.size))
        have hug : u ≠ g := by have := HI5.out.tree.lt; omega
        have hgbk : g + 1 ≤ wb.heap.size := HIb.out.tree.lt
        clear hBb hsrcb hU7
        go_upto_region 14 with (at_builtin; refine wpList_append_cells Try.underlying22 strZ11 rfl (by decide) (by decide) _ _ rfl rfl (g + 1) (.slice Ay ks.length cy) ks.length _ rfl HIb.out.keys 1 1 [.string key] rfl rfl (fun h => by cases h) (Nat.le_refl _) HSb.out (by simp [Value.oneCell']) (by omega) hgbk ?_; intro v8 w8 ho8 hg8 hv8; obtain ⟨g8, c8, rfl, hg8a, hg8b⟩ := ho8.form (by omega); have hT8 := whole_grown12 HIb.out.tree hg8 (fun e => by have := (HIb.out.gk e.symm).1; omega); have f8 := hT8.free 3; have d8 := hT8.at_ 3; simp at d8)
        have HF8 := Lib.hid (HIb.out.key (by rw [txs_snoc, List.length_append]; exact ho8) hg8 hv8 (by unfold maxLen; omega))
        have hgk8 : ∀ k, (Value.slice Ay ks.length cy).ownBlock = some k → g + 1 ≤ k := fun k e => (HIb.out.gk e).1
        have hku8 : ∀ k, (Value.slice Ay ks.length cy).ownBlock = some k → k < w5.heap.size := fun k e => (HI5.out.gk e).2
        obtain ⟨wz, hwz⟩ : ∃ W, w8.setCell ⟨g, 3, none⟩ (.slice (some ⟨g8, 0, none⟩) (ks.length + 1) c8) = W := ⟨_, rfl⟩
        have hbz : ∀ i, i < wb.heap.size → i ≠ g → (Value.slice Ay ks.length cy).ownBlock ≠ some i → wz.heap[i]? = wb.heap[i]? := fun i h1 h2 h3 => by rw [← hwz, heap_setCell_other w8 ⟨g, 3, none⟩ i _ h2]; exact hg8.block i h1 (fun e => h3 e.symm)
        have HRbz : Hid (Rb wz r rr) := Lib.hid (HRbb.out.stays (fun i hi => hbz i (by have := HIb.out.rl; have := HIb.out.lt; omega) (by have := HIb.out.rl; have := HIb.out.lt; omega) (fun e => by have := hgk8 i e; have := HIb.out.rl; have := HIb.out.lt; omega)))
        have HUz : Hid (Whole wz u 25 #[.int .i64 x.kind, .int .i64 x.n, .string x.s, .slice Ak x.keys.length ck, .slice Aq x.kids.length cq]) := Lib.hid ((hbz u HUb.out.lt hug (fun e => by have := hku8 u e; omega)).trans HUb.out)
        have hsz : wb.heap.size ≤ wz.heap.size := by rw [← hwz]; simpa [World.setCell] using hg8.size
        have HXz : Hid (Tp wz (fun b => g < b ∧ (Value.slice (some ⟨g8, 0, none⟩) (ks.length + 1) c8).ownBlock ≠ some b ∧ vq.ownBlock ≠ some b) x (.slice Ak x.keys.length ck) (.slice Aq x.kids.length cq)) := Lib.hid (HX.out.keep (fun b p q => ⟨⟨by have := HJ.out.tree.lt; omega, fun e => by
            rcases hv8 with e1 | e1
            · rw [e1] at e
              have := (HJ.out.gk e).2
              omega
            · rw [e1] at e
              injection e with e
              have := HWb.out.size
              omega, fun e => by have := (HJ.out.gq e).2; omega⟩, (hbz b (Nat.lt_of_lt_of_le q HWb.out.size) (by have := HJ.out.tree.lt; omega) (fun e => by have := (HJ.out.gk e).2; omega)).trans (HWb.out.block b q)⟩))
        rw [hwz] at HF8 ⊢
        have z0 := HUz.out.at_ 0
        have z1 := HUz.out.at_ 1
        have z2 := HUz.out.at_ 2
        have z3 := HUz.out.at_ 3
        have z4 := HUz.out.at_ 4
        simp at z0 z1 z2 z3 z4
        clear hzk halb t3 f8 d8 hT8 ho8 hg8 hv8 hwz hbz hgk8 hku8 hsz u0 u1 u2 u3 u4 hst7
        obtain ⟨A, c0, rfl, hc1, hc2, hc3, _⟩ := own_look HF8.out.kids
        have t4 := HF8.out.tree.at_ 4
        simp at t4
        obtain ⟨z, hz⟩ : ∃ z, wz.heap.size = z := ⟨_, rfl⟩
        obtain ⟨wa, hala⟩ : ∃ wa, wz.alloc (.cells #[.int .i64 x.kind, .int .i64 x.n, .string x.s, .slice Ak x.keys.length ck, .slice Aq x.kids.length cq] 25) = wa := ⟨_, rfl⟩
        have hBa : Below wz.heap.size wz wa := by rw [hz, ← hala]; exact below_lit _ hz _
        have hsrc : Src wa (some ⟨z, 0, none⟩) (five [(x, .slice Ak x.keys.length ck, .slice Aq x.kids.length cq)]) := by rw [← hala]; exact src_lit _ hz _
        have HSa := Lib.hid hsrc
        have HIa := Lib.hid (HF8.out.behind (Only.of_below hBa))
        have HRba := Lib.hid (HRbz.out.behind hBa)
        have hgb : g + 1 ≤ wa.heap.size := HIa.out.tree.lt
        have HXa : Hid (Tp wa (fun b => g < b ∧ (Value.slice (some ⟨g8, 0, none⟩) (ks.length + 1) c8).ownBlock ≠ some b ∧ (Value.slice A L.length c0).ownBlock ≠ some b) x (.slice Ak x.keys.length ck) (.slice Aq x.kids.length cq)) := Lib.hid (HXz.out.keep (fun b p q => ⟨p, hBa.block b q⟩))
        clear hBa hsrc
        go_wp2_with (at_builtin; refine wpList_append_cells Try.underlying23 treeZ rfl (by decide) (by decide) _ _ rfl rfl (g + 1) (.slice A L.length c0) L.length _ rfl HIa.out.kids 1 1 (five [(x, .slice Ak x.keys.length ck, .slice Aq x.kids.length cq)]) rfl rfl (fun h => by cases h) (Nat.le_refl _) HSa.out (by simp [five, Value.oneCell']) (by omega) hgb ?_; intro v9 w9 ho9 hg9 hv9; obtain ⟨g9, c9, rfl, hg9a, hg9b⟩ := ho9.form (by omega); have hT9 := whole_grown12 HIa.out.tree hg9 (fun e => by have := (HIa.out.gq e.symm).1; omega); have f9 := hT9.free 4; have d9 := hT9.at_ 4; simp at d9)
        have HF := Lib.hid (HIa.out.kid HXa.out (by rw [five_snoc, List.length_append]; exact ho9) hg9 hv9)
        have HRbF : Hid (Rb (w9.setCell ⟨g, 4, none⟩ (.slice (some ⟨g9, 0, none⟩) (L.length + 1) c9)) r rr) := Lib.hid (HRba.out.stays (fun i hi => by
          have h1 := HIa.out.rl
          have h2 := HIa.out.lt
          rw [heap_setCell_other w9 ⟨g, 4, none⟩ i _ (by show i ≠ g; omega)]
          exact hg9.block i (by omega) (fun e => by have := (HIa.out.gq e.symm).1; omega)))
        have HRn : Hid (Bn.loop V true (rr.length + 1) (ks ++ [key]) ((L ++ [(x, Value.slice Ak x.keys.length ck, Value.slice Aq x.kids.length cq)]).map (·.1)) rr = R) := Lib.hid (by
          rw [← HR.out, Bn.loop_step HVl.out HNh.out HEn.out hRv.out, List.map_append]; rfl)
        have HLB : Hid (leftB (w9.setCell ⟨g, 4, none⟩ (.slice (some ⟨g9, 0, none⟩) (L.length + 1) c9)) r < leftB wr r) := Lib.hid (by rw [leftB_rb HRbF.out, leftB_rb HRb.out]; omega)
        clear hz hala t4 f9 d9 hT9 ho9 hg9 hv9 z0 z1 z2 z3 z4
        go_roundw
        case rel => exact ⟨rr, _, _, _, _, rfl, by omega, by rw [List.length_append, List.length_singleton]; omega, by rw [List.length_append, List.length_singleton]; omega, HF, HRbF, HRn⟩
        case measure => exact HLB.out
    · have hja : j < ks.length := by omega
      obtain ⟨_, _, e2, _, _, _, hz4⟩ := own_look HJ.out.keys
      injection e2 with e2 e3 e4
      rw [← e2] at hz4
      obtain ⟨lb, e5, _, _, hl5⟩ := hz4 j (.string ks[j]) (by simp [txs, List.getElem?_eq_getElem hja])
      rw [e5] at t3z
      clear e5 e2 e4
      have hlast : ks.getLast? = some ks[j] := by rw [List.getLast?_eq_getElem?, hj, Nat.add_sub_cancel, List.getElem?_eq_getElem hja]
      obtain ⟨u9, hu9⟩ : ∃ u, Hid (ks[j] = u) := ⟨ks[j], Lib.hid rfl⟩
      rw [hu9.out] at hl5 hlast
      have HLast := Lib.hid hlast
      have hmore := more_is key u9
      have hb1 : Op.bytesLess key.toList u9.toList = true ∨ Op.bytesLess key.toList u9.toList = false := by cases Op.bytesLess key.toList u9.toList <;> simp
      obtain ⟨yl, hyl⟩ : ∃ y, Hid (Tn.less u9 key = y) := ⟨_, rfl⟩
      rw [hyl.out] at hmore
      have hjw : IntKind.i64.wrap (((ks.length : Nat) : Int) - 1) = (j : Int) := by rw [hj, IntKind.wrap_i64]; omega
      clear hz4 hlast hj
      cases yl with
      | false =>
        have HE : Hid (R = .bad 3) := Lib.hid (by rw [← HR.out]; exact Bn.loop_entry HNh.out (Bn.entry_key_less hRk.out ⟨u9, HLast.out, hyl.out⟩))
        have hle : (Op.bytesLess key.toList u9.toList || key.toList == u9.toList) = true := by
          cases h1 : Op.bytesLess key.toList u9.toList <;> cases h2 : (key.toList == u9.toList) <;> simp_all
        clear hmore hb1
        go_wp2_with fail
        go_ret
        exact ⟨_, rfl, .inl ⟨3, HE.out, rfl⟩, HJ.out.bel⟩
      | true =>
        have HEn : Hid (Bn.entry true ks lr = .ok (ks ++ [key]) l2) := Lib.hid (Bn.entry_key_ok hRk.out (fun ⟨k, hk1, hk2⟩ => by rw [HLast.out] at hk1; injection hk1 with hk1; subst hk1; rw [hyl.out] at hk2; cases hk2))
        have hlf : Op.bytesLess key.toList u9.toList = false := by
          cases h1 : Op.bytesLess key.toList u9.toList <;> cases h2 : (key.toList == u9.toList) <;> simp_all
        have hef : (key.toList == u9.toList) = false := by
          cases h1 : Op.bytesLess key.toList u9.toList <;> cases h2 : (key.toList == u9.toList) <;> simp_all
        clear hmore hb1
        go_upto_region 10 with fail
        clear hjw t3z hlf hef hl5
        have CV := Lib.hid (HVv.out _ _ _ HRb2.out (by omega))
        obtain ⟨Rv, hRv⟩ : ∃ X, Hid (V l2 = X) := ⟨_, rfl⟩
        rw [hRv.out] at CV
        go_wp2_with fail
        refine (CV.out).mono ?_
        rintro e w4 ⟨v, rfl, hv, ho4⟩
        have HI4 := Lib.hid (HJ.out.behind ho4)
        have HW4 : Hid (w2'.heap.size ≤ w4.heap.size) := Lib.hid ho4.size
        clear ho4
        rcases hv with ⟨e, rfl, rfl⟩ | ⟨x, rr, rfl, hrb, hat⟩
        · have he := HVb.out _ _ hRv.out
          have q1 : ((e : Int) != 0) = true := by simp; omega
          have q2 : ((e : Int) == 0) = false := by simp; omega
          have he9 : e ≤ 6 := by omega
          have CT := Lib.hid (treeof_bad e w4)
          have HE : Hid (R = .bad e) := Lib.hid (by rw [← HR.out]; exact Bn.loop_value HNh.out HEn.out hRv.out)
          clear he
          go_wp2_with fail
          refine (CT.out).mono ?_
          rintro e' w5 ⟨rfl, hb5⟩
          have HO5 := Lib.hid ((HI4.out.behind (Only.of_below hb5)).bel)
          obtain ⟨u, w6, hu, hal6, hU6, hb6, hs6⟩ := var_tree w5
          have HO7 : Hid (∀ cs, Only r w (w6.setRow u cs)) := Lib.hid (fun cs => HO5.out.trans (Only.of_below (by rw [hu]; exact below_row hb6 (Nat.le_refl _) cs)))
          have HU6 := Lib.hid hU6
          clear hb5 hb6 hs6 hU6
          go_upto_region 11 with (refine wpList_store_whole rfl rfl rfl rfl rfl HU6.out (treeI rfl) rfl (by simp [Value.oneCell']) ?_)
          clear hu hal6
          go_wp2_with fail
          go_ret
          exact ⟨_, rfl, .inl ⟨e, HE.out, rfl⟩, HO7.out _⟩
        · have CT := Lib.hid (treeof_any hat)
          have HRb4 := Lib.hid hrb
          clear hat hrb
          go_wp2_with fail
          refine (CT.out).mono ?_
          rintro e' w5 ⟨xk, xq, rfl, hx, hb5⟩
          have HI5 := Lib.hid (HI4.out.behind (Only.of_below hb5))
          obtain ⟨u, w6, hu, hal6, hU6, hb6, hs6⟩ := var_tree w5
          have hb6s : Below w5.heap.size w5 w6 := by rw [hu]; exact hb6
          have hu5 : w5.heap.size ≤ u := by omega
          obtain ⟨Ak, ck, rfl, _⟩ := hx.tv.keys
          obtain ⟨Aq, cq, rfl, _⟩ := hx.tv.kids
          have HX := Lib.hid hx
          unfold tval
          obtain ⟨w7, hst7⟩ : ∃ w7, w6.setRow u #[.int .i64 x.kind, .int .i64 x.n, .string x.s, .slice Ak x.keys.length ck, .slice Aq x.kids.length cq] = w7 := ⟨_, rfl⟩
          have hU7 : Whole w7 u 25 #[.int .i64 x.kind, .int .i64 x.n, .string x.s, .slice Ak x.keys.length ck, .slice Aq x.kids.length cq] := by rw [← hst7]; exact hU6.row _
          have HB7 : Hid (Below w5.heap.size w5 w7) := Lib.hid (by rw [← hst7]; exact below_row hb6s hu5 _)
          have HI7 := Lib.hid (HI5.out.behind (Only.of_below HB7.out))
          have HRb7 := Lib.hid ((HRb4.out.behind hb5).behind HB7.out)
          have HW7 : Hid (w4.heap.size ≤ w5.heap.size) := Lib.hid hb5.size
          have HU6 := Lib.hid hU6
          have u0 := hU7.at_ 0
          have u1 := hU7.at_ 1
          have u2 := hU7.at_ 2
          have u3 := hU7.at_ 3
          have u4 := hU7.at_ 4
          simp at u0 u1 u2 u3 u4
          have hrlen : rr.length < (l2).length := HVl.out _ _ _ hRv.out
          clear hb5 hb6 hb6s hs6 hU6 hx
          go_upto_region 11 with (refine wpList_store_whole rfl rfl rfl rfl rfl HU6.out (treeI rfl) rfl (by simp [Value.oneCell']) ?_; rw [hst7])
          clear hu hal6
          go_upto_region 13 with fail
          have t3 := HI7.out.tree.at_ 3
          simp at t3
          obtain ⟨zk, hzk⟩ : ∃ z, w7.heap.size = z := ⟨_, rfl⟩
          obtain ⟨wb, halb⟩ : ∃ wb, w7.alloc (.cells #[.string key] 9) = wb := ⟨_, rfl⟩
          have hBb : Below w7.heap.size w7 wb := by rw [hzk, ← halb]; exact below_lit _ hzk _
          have hsrcb : Src wb (some ⟨zk, 0, none⟩) [.string key] := by rw [← halb]; exact src_lit _ hzk _
          have HSb := Lib.hid hsrcb
          have HIb := Lib.hid (HI7.out.behind (Only.of_below hBb))
          have HRbb := Lib.hid (HRb7.out.behind hBb)
          have HUb := Lib.hid (hU7.below hBb hU7.lt)
          have HWb : Hid (Below w5.heap.size w5 wb) := Lib.hid (HB7.out.trans (hBb.mono HB7.out.size))
          have hug : u ≠ g := by have := HI5.out.tree.lt; omega
          have hgbk : g + 1 ≤ wb.heap.size := HIb.out.tree.lt
          clear hBb hsrcb hU7
          go_upto_region 14 with (at_builtin; refine wpList_append_cells Try.underlying22 strZ11 rfl (by decide) (by decide) _ _ rfl rfl (g + 1) (.slice Ay ks.length cy) ks.length _ rfl HIb.out.keys 1 1 [.string key] rfl rfl (fun h => by cases h) (Nat.le_refl _) HSb.out (by simp [Value.oneCell']) (by omega) hgbk ?_; intro v8 w8 ho8 hg8 hv8; obtain ⟨g8, c8, rfl, hg8a, hg8b⟩ := ho8.form (by omega); have hT8 := whole_grown12 HIb.out.tree hg8 (fun e => by have := (HIb.out.gk e.symm).1; omega); have f8 := hT8.free 3; have d8 := hT8.at_ 3; simp at d8)
          have HF8 := Lib.hid (HIb.out.key (by rw [txs_snoc, List.length_append]; exact ho8) hg8 hv8 (by unfold maxLen; omega))
          have hgk8 : ∀ k, (Value.slice Ay ks.length cy).ownBlock = some k → g + 1 ≤ k := fun k e => (HIb.out.gk e).1
          have hku8 : ∀ k, (Value.slice Ay ks.length cy).ownBlock = some k → k < w5.heap.size := fun k e => (HI5.out.gk e).2
          obtain ⟨wz, hwz⟩ : ∃ W, w8.setCell ⟨g, 3, none⟩ (.slice (some ⟨g8, 0, none⟩) (ks.length + 1) c8) = W := ⟨_, rfl⟩
          have hbz : ∀ i, i < wb.heap.size → i ≠ g → (Value.slice Ay ks.length cy).ownBlock ≠ some i → wz.heap[i]? = wb.heap[i]? := fun i h1 h2 h3 => by rw [← hwz, heap_setCell_other w8 ⟨g, 3, none⟩ i _ h2]; exact hg8.block i h1 (fun e => h3 e.symm)
          have HRbz : Hid (Rb wz r rr) := Lib.hid (HRbb.out.stays (fun i hi => hbz i (by have := HIb.out.rl; have := HIb.out.lt; omega) (by have := HIb.out.rl; have := HIb.out.lt; omega) (fun e => by have := hgk8 i e; have := HIb.out.rl; have := HIb.out.lt; omega)))
          have HUz : Hid (Whole wz u 25 #[.int .i64 x.kind, .int .i64 x.n, .string x.s, .slice Ak x.keys.length ck, .slice Aq x.kids.length cq]) := Lib.hid ((hbz u HUb.out.lt hug (fun e => by have := hku8 u e; omega)).trans HUb.out)
          have hsz : wb.heap.size ≤ wz.heap.size := by rw [← hwz]; simpa [World.setCell] using hg8.size
          have HXz : Hid (Tp wz (fun b => g < b ∧ (Value.slice (some ⟨g8, 0, none⟩) (ks.length + 1) c8).ownBlock ≠ some b ∧ vq.ownBlock ≠ some b) x (.slice Ak x.keys.length ck) (.slice Aq x.kids.length cq)) := Lib.hid (HX.out.keep (fun b p q => ⟨⟨by have := HJ.out.tree.lt; omega, fun e => by
              rcases hv8 with e1 | e1
              · rw [e1] at e
                have := (HJ.out.gk e).2
                omega
              · rw [e1] at e
                injection e with e
                have := HWb.out.size
                omega, fun e => by have := (HJ.out.gq e).2; omega⟩, (hbz b (Nat.lt_of_lt_of_le q HWb.out.size) (by have := HJ.out.tree.lt; omega) (fun e => by have := (HJ.out.gk e).2; omega)).trans (HWb.out.block b q)⟩))
          rw [hwz] at HF8 ⊢
          have z0 := HUz.out.at_ 0
          have z1 := HUz.out.at_ 1
          have z2 := HUz.out.at_ 2
          have z3 := HUz.out.at_ 3
          have z4 := HUz.out.at_ 4
          simp at z0 z1 z2 z3 z4
          clear hzk halb t3 f8 d8 hT8 ho8 hg8 hv8 hwz hbz hgk8 hku8 hsz u0 u1 u2 u3 u4 hst7
          obtain ⟨A, c0, rfl, hc1, hc2, hc3, _⟩ := own_look HF8.out.kids
          have t4 := HF8.out.tree.at_ 4
          simp at t4
          obtain ⟨z, hz⟩ : ∃ z, wz.heap.size = z := ⟨_, rfl⟩
          obtain ⟨wa, hala⟩ : ∃ wa, wz.alloc (.cells #[.int .i64 x.kind, .int .i64 x.n, .string x.s, .slice Ak x.keys.length ck, .slice Aq x.kids.length cq] 25) = wa := ⟨_, rfl⟩
          have hBa : Below wz.heap.size wz wa := by rw [hz, ← hala]; exact below_lit _ hz _
          have hsrc : Src wa (some ⟨z, 0, none⟩) (five [(x, .slice Ak x.keys.length ck, .slice Aq x.kids.length cq)]) := by rw [← hala]; exact src_lit _ hz _
          have HSa := Lib.hid hsrc
          have HIa := Lib.hid (HF8.out.behind (Only.of_below hBa))
          have HRba := Lib.hid (HRbz.out.behind hBa)
          have hgb : g + 1 ≤ wa.heap.size := HIa.out.tree.lt
          have HXa : Hid (Tp wa (fun b => g < b ∧ (Value.slice (some ⟨g8, 0, none⟩) (ks.length + 1) c8).ownBlock ≠ some b ∧ (Value.slice A L.length c0).ownBlock ≠ some b) x (.slice Ak x.keys.length ck) (.slice Aq x.kids.length cq)) := Lib.hid (HXz.out.keep (fun b p q => ⟨p, hBa.block b q⟩))
          clear hBa hsrc
          go_wp2_with (at_builtin; refine wpList_append_cells Try.underlying23 treeZ rfl (by decide) (by decide) _ _ rfl rfl (g + 1) (.slice A L.length c0) L.length _ rfl HIa.out.kids 1 1 (five [(x, .slice Ak x.keys.length ck, .slice Aq x.kids.length cq)]) rfl rfl (fun h => by cases h) (Nat.le_refl _) HSa.out (by simp [five, Value.oneCell']) (by omega) hgb ?_; intro v9 w9 ho9 hg9 hv9; obtain ⟨g9, c9, rfl, hg9a, hg9b⟩ := ho9.form (by omega); have hT9 := whole_grown12 HIa.out.tree hg9 (fun e => by have := (HIa.out.gq e.symm).1; omega); have f9 := hT9.free 4; have d9 := hT9.at_ 4; simp at d9)
          have HF := Lib.hid (HIa.out.kid HXa.out (by rw [five_snoc, List.length_append]; exact ho9) hg9 hv9)
          have HRbF : Hid (Rb (w9.setCell ⟨g, 4, none⟩ (.slice (some ⟨g9, 0, none⟩) (L.length + 1) c9)) r rr) := Lib.hid (HRba.out.stays (fun i hi => by
            have h1 := HIa.out.rl
            have h2 := HIa.out.lt
            rw [heap_setCell_other w9 ⟨g, 4, none⟩ i _ (by show i ≠ g; omega)]
            exact hg9.block i (by omega) (fun e => by have := (HIa.out.gq e.symm).1; omega)))
          have HRn : Hid (Bn.loop V true (rr.length + 1) (ks ++ [key]) ((L ++ [(x, Value.slice Ak x.keys.length ck, Value.slice Aq x.kids.length cq)]).map (·.1)) rr = R) := Lib.hid (by
            rw [← HR.out, Bn.loop_step HVl.out HNh.out HEn.out hRv.out, List.map_append]; rfl)
          have HLB : Hid (leftB (w9.setCell ⟨g, 4, none⟩ (.slice (some ⟨g9, 0, none⟩) (L.length + 1) c9)) r < leftB wr r) := Lib.hid (by rw [leftB_rb HRbF.out, leftB_rb HRb.out]; omega)
          clear hz hala t4 f9 d9 hT9 ho9 hg9 hv9 z0 z1 z2 z3 z4
          go_roundw
          case rel => exact ⟨rr, _, _, _, _, rfl, by omega, by rw [List.length_append, List.length_singleton]; omega, by rw [List.length_append, List.length_singleton]; omega, HF, HRbF, HRn⟩
          case measure => exact HLB.out

end Go.Proofs.Ytphanlkobkkgfaa
