/- Trees in memory that is the call's own, all of it from a bound on; slices.Clone at strings and at trees. -/
import Derived.Test.YtldjdoebappkoaaGreatDoorPK
import Derived.Lib.SliceRun
namespace Go.Proofs.YtldjdoebappkoaaGreatDoor
open Go.RowKit
set_option linter.unusedVariables false
set_option maxRecDepth 100000
set_option linter.unusedSimpArgs false

/-- the blocks from lo on that were there are as they were -/
structure From (lo : Nat) (w w' : World) : Prop where
  size : w.heap.size ≤ w'.heap.size
  block : ∀ b, lo ≤ b → b < w.heap.size → w'.heap[b]? = w.heap[b]?
section
variable {lo lo' b o g : Nat} {w w' w'' : World} {t : Tn} {vk vq v : Value} {l : List ByteArray} {A : Option Addr}
theorem From.refl (lo : Nat) (w : World) : From lo w w := ⟨Nat.le_refl _, fun _ _ _ => rfl⟩
theorem From.trans (h : From lo w w') (k : From lo w' w'') : From lo w w'' := ⟨Nat.le_trans h.size k.size, fun b h1 h2 => (k.block b h1 (Nat.lt_of_lt_of_le h2 h.size)).trans (h.block b h1 h2)⟩
theorem From.of_below (h : Below w.heap.size w w') : From lo w w' := ⟨h.size, fun b _ h2 => h.block b h2⟩
theorem From.less (h : From lo w w') (hl : lo ≤ lo') : From lo' w w' := ⟨h.size, fun b h1 h2 => h.block b (by omega) h2⟩
theorem From.of_only (h : Only g w w') (hg : g < lo) : From lo w w' := ⟨h.size, fun b h1 h2 => h.block b h2 (by omega)⟩
theorem From.of_grown (h : w.grownBy w' v.ownBlock) (hg : ∀ g, v.ownBlock = some g → g < lo) : From lo w w' := ⟨h.size, fun b h1 h2 => h.block b h2 (fun e => by have := hg b e.symm; omega)⟩
theorem From.setCell (h : From lo w w') {p : Addr} (hp : p.block < lo) (u : Value) : From lo w (w'.setCell p u) :=
  ⟨by simpa [World.setCell] using h.size, fun b h1 h2 => (Below.heap_setCell _ _ _ _ (by omega)).trans (h.block b h1 h2)⟩
theorem From.setRow (h : From lo w w') (hg : g < lo) (cs : Array Value) : From lo w (w'.setRow g cs) :=
  ⟨by rw [size_setRow]; exact h.size, fun b h1 h2 => (setRow_other w' g b cs (by omega)).trans (h.block b h1 h2)⟩
theorem From.setCells (hg : g < lo) : ∀ (vs : List Value) (o : Nat) {w' : World}, From lo w w' → From lo w (w'.setCells g o vs)
  | [], _, _, h => h
  | v :: r, o, w', h => From.setCells hg r (o + 1) (h.setCell (p := ⟨g, o, none⟩) hg v)
theorem own_from {base n sz : Nat} {t : TypeId} {v : Value} {xs : List Value} (h : w.ownsRow base t sz v n xs) (hk : From base w w') : w'.ownsRow base t sz v n xs := by
  obtain ⟨h1, h2⟩ := h
  refine ⟨h1, ?_⟩
  rcases h2 with h2 | ⟨g, cap, cur, hv, hg, hh, r⟩
  · exact .inl h2
  · exact .inr ⟨g, cap, cur, hv, hg, by rw [hk.block g hg (Array.getElem?_eq_some_iff.1 hh).1]; exact hh, r⟩
theorem own_less {base base' n sz : Nat} {t : TypeId} {v : Value} {xs : List Value} (h : w.ownsRow base t sz v n xs) (hb : base' ≤ base) : w.ownsRow base' t sz v n xs := by
  obtain ⟨h1, h2⟩ := h
  refine ⟨h1, ?_⟩
  rcases h2 with h2 | ⟨g, cap, cur, hv, hg, r⟩
  · exact .inl h2
  · exact .inr ⟨g, cap, cur, hv, by omega, r⟩
theorem Cell5.from_ (h : Cell5 w b o t vk vq) (hf : From lo w w') (hb : lo ≤ b) : Cell5 w' b o t vk vq := by
  have e := hf.block b hb (lt_of_cell h.c0)
  exact ⟨(World.cell?_of_block (a := ⟨b, o, none⟩) e).trans h.c0, (World.cell?_of_block (a := ⟨b, o + 1, none⟩) e).trans h.c1, (World.cell?_of_block (a := ⟨b, o + 2, none⟩) e).trans h.c2, (World.cell?_of_block (a := ⟨b, o + 3, none⟩) e).trans h.c3, (World.cell?_of_block (a := ⟨b, o + 4, none⟩) e).trans h.c4⟩
end
/-- the slices vk and vq are those of the tree t; all lies in blocks from lo on -/
inductive Tl (w : World) (lo : Nat) : Tn → Value → Value → Prop
  | mk {k n : Int} {s : ByteArray} {keys : List ByteArray} {kids : List Tn} {Ak A : Option Addr} {ck c : Nat} (K Q : Nat → Value)
      (rk : -9223372036854775808 ≤ k ∧ k ≤ 9223372036854775807) (rn : -9223372036854775808 ≤ n ∧ n ≤ 9223372036854775807) (rs : s.size ≤ maxLen)
      (hk : ∀ i (h : i < keys.length), ∃ b off, Ak = some ⟨b, off, none⟩ ∧ lo ≤ b ∧ w.cell? ⟨b, off + i, none⟩ = some (.string keys[i])) (h1 : keys.length ≤ ck) (h2 : ck ≤ maxLen) (h3 : Ak = none → ck = 0) (h4 : ∀ s ∈ keys, s.size ≤ maxLen)
      (hl : kids.length ≤ c) (hm : c ≤ maxLen) (hn : A = none → c = 0)
      (hc : ∀ i (h : i < kids.length), ∃ b off, A = some ⟨b, off, none⟩ ∧ lo ≤ b ∧ Cell5 w b (off + i * 5) kids[i] (K i) (Q i))
      (ht : ∀ i (h : i < kids.length), Tl w lo kids[i] (K i) (Q i)) : Tl w lo (.mk k n s keys kids) (.slice Ak keys.length ck) (.slice A kids.length c)
section
variable {lo lo' : Nat} {w w' : World} {t : Tn} {vk vq : Value}
theorem Tl.tv (h : Tl w lo t vk vq) : Tv w w.heap.size t vk vq := by
  induction h with
  | mk K Q rk rn rs hk h1 h2 h3 h4 hl hm hn hc ht ih =>
    refine .mk K Q rk rn rs ⟨_, _, rfl, fun i hi => ?_, h1, h2, h3, h4⟩ hl hm hn (fun i hi => ?_) ih
    · obtain ⟨b, off, e, _, hcl⟩ := hk i hi
      exact ⟨b, off, e, lt_of_cell hcl, hcl⟩
    · obtain ⟨b, off, e, _, h5⟩ := hc i hi
      exact ⟨b, off, e, lt_of_cell h5.c0, h5⟩
theorem Tl.from_ (h : Tl w lo t vk vq) (hf : From lo w w') : Tl w' lo t vk vq := by
  induction h with
  | mk K Q rk rn rs hk h1 h2 h3 h4 hl hm hn hc ht ih =>
    refine .mk K Q rk rn rs (fun i hi => ?_) h1 h2 h3 h4 hl hm hn (fun i hi => ?_) ih
    · obtain ⟨b, off, e, hb, hcl⟩ := hk i hi
      exact ⟨b, off, e, hb, (World.cell?_of_block (hf.block b hb (lt_of_cell hcl))).trans hcl⟩
    · obtain ⟨b, off, e, hb, h5⟩ := hc i hi
      exact ⟨b, off, e, hb, h5.from_ hf hb⟩
theorem Tl.less (h : Tl w lo t vk vq) (hl : lo' ≤ lo) : Tl w lo' t vk vq := by
  induction h with
  | mk K Q rk rn rs hk h1 h2 h3 h4 hl2 hm hn hc ht ih =>
    refine .mk K Q rk rn rs (fun i hi => ?_) h1 h2 h3 h4 hl2 hm hn (fun i hi => ?_) ih
    · obtain ⟨b, off, e, hb, hcl⟩ := hk i hi
      exact ⟨b, off, e, by omega, hcl⟩
    · obtain ⟨b, off, e, hb, h5⟩ := hc i hi
      exact ⟨b, off, e, by omega, h5⟩
theorem Tl.of_own {L : List Tq} (b1 : -9223372036854775808 ≤ t.kind ∧ t.kind ≤ 9223372036854775807) (b2 : -9223372036854775808 ≤ t.n ∧ t.n ≤ 9223372036854775807) (b3 : t.s.size ≤ maxLen)
    (hk : w.ownsRow lo 9 1 vk t.keys.length (txs t.keys)) (hx : ∀ s ∈ t.keys, s.size ≤ maxLen) (hq : w.ownsRow lo 25 5 vq L.length (five L)) (hL : L.map (·.1) = t.kids) (hs : ∀ x ∈ L, Tl w lo x.1 x.2.1 x.2.2) : Tl w lo t vk vq := by
  obtain ⟨k, n, s, keys, kids⟩ := t
  change L.map (·.1) = kids at hL
  obtain ⟨Ak, ck, rfl, h1, h2, h3, h4⟩ := own_look hk
  obtain ⟨A, c, rfl, g1, g2, g3, g4⟩ := own_look hq
  have hlen : L.length = kids.length := by rw [← hL]; simp
  rw [hlen]
  refine .mk (fun i => (L.map (·.2.1)).getD i (.bool false)) (fun i => (L.map (·.2.2)).getD i (.bool false)) b1 b2 b3 (fun i hi => ?_) h1 h2 h3 hx (by omega) g2 g3 (fun i hi => ?_) (fun i hi => ?_)
  · obtain ⟨b, e, hb, _, hc⟩ := h4 i _ (show (txs keys)[i]? = some (.string keys[i]) by simp [txs, List.getElem?_eq_getElem hi])
    exact ⟨b, 0, e, hb, by rw [Nat.zero_add]; exact hc⟩
  · have hi' : i < L.length := by omega
    have e1 : (L.map (·.2.1)).getD i (.bool false) = L[i].2.1 := by simp [List.getD, List.getElem?_eq_getElem hi']
    have e2 : (L.map (·.2.2)).getD i (.bool false) = L[i].2.2 := by simp [List.getD, List.getElem?_eq_getElem hi']
    have e3 : kids[i] = L[i].1 := by subst hL; simp
    simp only [e1, e2, e3]
    obtain ⟨f0, f1, f2, f3, f4⟩ := five_get L i hi'
    obtain ⟨b, eb, hb, hlt, q0⟩ := g4 _ _ f0
    obtain ⟨_, eb1, _, _, q1⟩ := g4 _ _ f1
    obtain ⟨_, eb2, _, _, q2⟩ := g4 _ _ f2
    obtain ⟨_, eb3, _, _, q3⟩ := g4 _ _ f3
    obtain ⟨_, eb4, _, _, q4⟩ := g4 _ _ f4
    subst eb
    cases eb1; cases eb2; cases eb3; cases eb4
    refine ⟨b, 0, rfl, hb, ⟨?_, ?_, ?_, ?_, ?_⟩⟩ <;> rw [Nat.zero_add]
    · exact q0
    · exact q1
    · exact q2
    · exact q3
    · exact q4
  · have hi' : i < L.length := by omega
    have e1 : (L.map (·.2.1)).getD i (.bool false) = L[i].2.1 := by simp [List.getD, List.getElem?_eq_getElem hi']
    have e2 : (L.map (·.2.2)).getD i (.bool false) = L[i].2.2 := by simp [List.getD, List.getElem?_eq_getElem hi']
    have e3 : kids[i] = L[i].1 := by subst hL; simp
    simp only [e1, e2, e3]
    exact hs _ (List.getElem_mem hi')
end

/-! ### slices.Clone -/
theorem clonestr_any {w : World} {B : Nat} {v : Value} {l : List ByteArray} (h : Sk w B v l) (hl : l.length ≤ 1000000) :
    Calls Tryz.prog 88 #[v] w fun e w' => ∃ v', e = .returned v' ∧ w'.ownsRow w.heap.size 9 1 v' l.length (txs l) ∧ Below w.heap.size w w' := by
  have q22 : ∀ (w : World) (a : Option Addr) (n c n' c' : Nat), (binOp .eql 22 (.slice a n c) (.slice none n' c')).run Tryz.prog w = .ok (.bool a.isNone) w := fun w a n c n' c' => Lib.run_eql_slice_nil w _ _ a n c n' c' Tryz.underlying22
  obtain ⟨A, c, rfl, hs, hle, hmax, hnull, hx⟩ := h.all
  cases A with
  | none =>
    have hc := hnull rfl
    subst hc
    have h0 : l = [] := List.eq_nil_of_length_eq_zero (by omega)
    subst h0
    clear hnull hs hmax h hx
    go_enter Tryz.func88, Tryz.ntmps88
    go_wp2_with fail
    go_ret
    exact ⟨_, rfl, World.ownsRow_nil _ _ 9 1, Below.refl _ _⟩
  | some a =>
    have hb0 : Below w.heap.size w (w.alloc (.cells #[] 9)) := (Below.refl _ _).alloc (Nat.le_refl _) _
    have Hs : Hid (Src (w.alloc (.cells #[] 9)) (some a) (txs l)) := Lib.hid (hs.below hb0).src
    have ho0 : (w.alloc (.cells #[] 9)).ownsRow w.heap.size 9 1 (.slice (some ⟨w.heap.size, 0, none⟩) 0 0) 0 [] := World.ownsRow_lit w #[] 0 (Nat.le_refl _) (by decide) rfl
    have Ho0 := Lib.hid ho0
    have Hb0 := Lib.hid hb0
    have Ht := Lib.hid (txs_one l)
    obtain ⟨n, Hn⟩ : ∃ n, Hid (l.length = n) := ⟨_, rfl⟩
    have Hln : Hid ((txs l).length = n * 1) := Lib.hid (by rw [txs_length, Hn.out, Nat.mul_one])
    rw [Hn.out] at hl hle ⊢
    clear hs ho0 hnull hb0 h hx
    go_enter Tryz.func88, Tryz.ntmps88
    go_wp2_with (at_builtin; refine wpList_append_cells Tryz.underlying22 strZ11 rfl (by decide) (by decide) _ _ rfl rfl w.heap.size _ 0 [] rfl Ho0.out n c (txs l) rfl Hln.out (fun h => by cases h) hle Hs.out Ht.out (by omega) (by simp) ?_; intro v2 w2 ho2 hg2 _)
    go_ret
    rw [Nat.zero_add, List.nil_append] at ho2
    exact ⟨_, rfl, ho2, Hb0.out.grown hg2 (by simp) (fun k hk => (Ho0.out.lt k hk).1)⟩

theorem clonetree_any {w : World} {B c : Nat} {A : Option Addr} {L : List Tq} (h : Ks w B A L) (hle : L.length ≤ c) (hnull : A = none → c = 0) (hB : B ≤ w.heap.size) (hl : L.length ≤ 1000000) :
    Calls Tryz.prog 89 #[.slice A L.length c] w fun e w' => ∃ v', e = .returned v' ∧ w'.ownsRow w.heap.size 25 5 v' L.length (five L) ∧ Below w.heap.size w w' := by
  have q22 : ∀ (w : World) (a : Option Addr) (n c n' c' : Nat), (binOp .eql 23 (.slice a n c) (.slice none n' c')).run Tryz.prog w = .ok (.bool a.isNone) w := fun w a n c n' c' => Lib.run_eql_slice_nil w _ _ a n c n' c' Tryz.underlying23
  cases A with
  | none =>
    have hc := hnull rfl
    subst hc
    have h0 : L = [] := List.eq_nil_of_length_eq_zero (by omega)
    subst h0
    clear hnull h hl hle
    go_enter Tryz.func89, Tryz.ntmps89
    go_wp2_with fail
    go_ret
    exact ⟨_, rfl, World.ownsRow_nil _ _ 25 5, Below.refl _ _⟩
  | some a =>
    have hb0 : Below w.heap.size w (w.alloc (.cells #[] 25)) := (Below.refl _ _).alloc (Nat.le_refl _) _
    have Hs : Hid (Src (w.alloc (.cells #[] 25)) (some a) (five L)) := Lib.hid (h.below (hb0.mono hB)).src
    have ho0 : (w.alloc (.cells #[] 25)).ownsRow w.heap.size 25 5 (.slice (some ⟨w.heap.size, 0, none⟩) 0 0) 0 [] := World.ownsRow_lit w #[] 0 (Nat.le_refl _) (by decide) rfl
    have Ho0 := Lib.hid ho0
    have Hb0 := Lib.hid hb0
    have Ht := Lib.hid (five_one h.tv)
    obtain ⟨n, Hn⟩ : ∃ n, Hid (L.length = n) := ⟨_, rfl⟩
    have Hln : Hid ((five L).length = n * 5) := Lib.hid (by rw [five_length, Hn.out])
    rw [Hn.out] at hl hle ⊢
    clear ho0 hnull hb0 h
    go_enter Tryz.func89, Tryz.ntmps89
    go_wp2_with (at_builtin; refine wpList_append_cells Tryz.underlying23 treeZ rfl (by decide) (by decide) _ _ rfl rfl w.heap.size _ 0 [] rfl Ho0.out n c (five L) rfl Hln.out (fun h => by cases h) hle Hs.out Ht.out (by omega) (by simp) ?_; intro v2 w2 ho2 hg2 _)
    go_ret
    rw [Nat.zero_add, List.nil_append] at ho2
    exact ⟨_, rfl, ho2, Hb0.out.grown hg2 (by simp) (fun k hk => (Ho0.out.lt k hk).1)⟩
end Go.Proofs.YtldjdoebappkoaaGreatDoor
