/- Contracts of slices.Clone at peers, pairs and messages, as long as the form reaches. -/
import Derived.Test.YtjomchehnlnfcaaMl25
import Derived.Test.YtjomchehnlnfcaaCl
import Derived.Lib.SliceRun
namespace Go.Proofs.Ytjomchehnlnfcaa
open Go.RowKit
open Gm
set_option linter.unusedVariables false
set_option maxRecDepth 100000
set_option linter.unusedSimpArgs false

theorem Two.src {α : Type} {f : α → Value × Value} {w : World} {B : Nat} {A : Option Addr} {l : List α} (h : Two f w B A l) : Src w A (two f l) := by
  intro j u hu
  have hlen := two_length f l
  have hj : j < (two f l).length := (List.getElem?_eq_some_iff.1 hu).1
  obtain ⟨b, off, e, _, hcell⟩ := h (by omega)
  refine ⟨b, off, e, ?_⟩
  obtain ⟨i, hij⟩ : ∃ i, j = i * 2 ∨ j = i * 2 + 1 := ⟨j / 2, by omega⟩
  have hi : i < l.length := by omega
  rcases hij with rfl | rfl
  · rw [(hcell i hi).1, ← (two_get f l i hi).1, hu]
  · rw [← Nat.add_assoc, (hcell i hi).2, ← (two_get f l i hi).2, hu]
theorem two_one {α : Type} {f : α → Value × Value} (hf : ∀ x, (f x).1.oneCell' = true ∧ (f x).2.oneCell' = true) (l : List α) : ∀ u ∈ two f l, u.oneCell' = true := fun u hu => by
  simp only [two, List.mem_flatMap] at hu
  obtain ⟨x, _, hx⟩ := hu
  simp at hx
  rcases hx with rfl | rfl
  · exact (hf x).1
  · exact (hf x).2
section
variable {P : Program} {T E : TypeId} {z : Value} {size bytes : Nat}
theorem run_append_far (ht : P.underlying T = some (.slice E)) (hinf : (P.info? E).map (fun i => (i.zero, i.size, i.bytes)) = some (some z, size, bytes)) (hzs : z.cells.size = size) (hsz : 0 < size)
    {w : World} (ty base : Nat) (v : Value) (n : Nat) (xs : List Value) (hown : w.ownsRow base E size v n xs) {A : Option Addr} (m c : Nat) (news : List Value) (hl : news.length = m * size) (hc : A = none → c = 0) (hmc : m ≤ c) (hsee : Src w A news) (h1 : ∀ u ∈ news, u.oneCell' = true)
    (hn : n + m ≤ maxLen) (hb : (n + m) * bytes ≤ 140737488355328) (hbase : base ≤ w.heap.size) :
    ∃ v' w', (Builtin.append_ #[T, T] ty #[v, .slice A m c]).run P w = .ok v' w' ∧ w'.ownsRow base E size v' (n + m) (xs ++ news) ∧ w.grownBy w' v.ownBlock := by
  obtain ⟨i0, hi, hz0, hz1, hz2⟩ := info_parts hinf
  cases A with
  | none =>
    have hc0 := hc rfl
    subst hc0
    have hm0 : m = 0 := by omega
    subst hm0
    have h0 : news = [] := List.eq_nil_of_length_eq_zero (by omega)
    subst h0
    exact ⟨v, w, run_append_owned_none w base T ty E i0 size ht hi v n xs hown, by simpa using hown, World.grownBy.refl w _⟩
  | some ad =>
    have hnews : ∀ j u, news[j]? = some u → w.cell? (ad.add j) = some u := by
      intro j u hu
      obtain ⟨b, off, e, hcell⟩ := hsee j u hu
      injection e with e
      subst e
      rw [Addr.add_mid]
      exact hcell
    obtain ⟨v', w', h2, h3, h4, _⟩ := run_append_own_at (P := P) w base T ty E i0 z size bytes ht hi hz0 hz1 hz2 hzs hsz v n xs hown ad m c news hl hnews h1 hn hb hbase
    exact ⟨v', w', h2, h3, h4⟩
theorem wpList_append_far (ht : P.underlying T = some (.slice E)) (hinf : (P.info? E).map (fun i => (i.zero, i.size, i.bytes)) = some (some z, size, bytes)) (hzs : z.cells.size = size) (hsz : 0 < size)
    {ops : Array Oper} {rest : List Oper} {o : Oper} {a : Act} {w : World} {Q : Exit → Act → World → Prop} (s x : Operand) (hgd : o.guard = none)
    (ho : o.op = .call { callee := .builtin .append, args := #[s, x], argTypes := #[T, T] }) (base : Nat) (v : Value) (n : Nat) (xs : List Value) (hs : a.eval s = v) (hown : w.ownsRow base E size v n xs) {A : Option Addr} (m c : Nat) (news : List Value)
    (hx : a.eval x = .slice A m c) (hl : news.length = m * size) (hc : A = none → c = 0) (hmc : m ≤ c) (hsee : Src w A news) (h1 : ∀ u ∈ news, u.oneCell' = true) (hn : n + m ≤ maxLen) (hb : (n + m) * bytes ≤ 140737488355328) (hbase : base ≤ w.heap.size)
    (h : ∀ v' w', w'.ownsRow base E size v' (n + m) (xs ++ news) → w.grownBy w' v.ownBlock → wpList P ops Q rest (a.put o.dst v') w') : wpList P ops Q (o :: rest) a w := by
  refine wpList_plain hgd fun K hK => ?_
  obtain ⟨v', w', hr, h2, h3⟩ := run_append_far ht hinf hzs hsz (w := w) o.type base v n xs hown m c news hl hc hmc hsee h1 hn hb hbase
  unfold Oper.wp execOp
  simp only [ho, resolve, invoke, builtin, Sem.run_bind, Sem.run_pure, Result.andThen_ok, List.map_toArray, List.map_cons, List.map_nil, hs, hx, hr]
  exact hK _ _ (h v' w' h2 h3)
end
theorem Src.below {w w' : World} {A : Option Addr} {news : List Value} (h : Src w A news) (hb : Below w.heap.size w w') : Src w' A news := fun j u hu => by
  obtain ⟨b, off, e, hc⟩ := h j u hu
  obtain ⟨b', off', e', hlt⟩ := spot_of hc
  injection e' with e1 _ _
  subst e1
  exact ⟨b, off, e, (hb.cell (p := ⟨b, off + j, none⟩) hlt).trans hc⟩
theorem peerI2 : (Try.prog.info? 62).map (fun i => (i.zero, i.size, i.bytes)) = some (some (.agg #[.int .u64 0, .int .u16 0]), 2, 16) := by kernel_rfl
theorem pairI2 : (Try.prog.info? 71).map (fun i => (i.zero, i.size, i.bytes)) = some (some (.agg #[.string ByteArray.empty, .string ByteArray.empty]), 2, 32) := by kernel_rfl
theorem msgI2 : (Try.prog.info? 66).map (fun i => (i.zero, i.size, i.bytes)) = some (some (.agg #[.int .i64 0, .int .u32 0, .int .u8 0, .bool false, .int .u64 0, .string ByteArray.empty, .string ByteArray.empty, .int .u64 0, .int .u16 0, .slice none 0 0, .slice none 0 0]), 11, 120) := by kernel_rfl

/-- a message's cells, with its slices' values -/
def fM (x : Ms × Value × Value) : List Value := msgRow x.1 x.2.1 x.2.2
theorem fM_len (x : Ms × Value × Value) : (fM x).length = 11 := rfl
theorem clonepeersB_any {w : World} {B : Nat} {v : Value} {l : List (Nat × Nat)} (h : Sl fPeer w B v l) (hl : l.length ≤ 8796093022208) :
    Calls Try.prog 30 #[v] w fun e w' => ∃ v', e = .returned v' ∧ w'.ownsRow w.heap.size 62 2 v' l.length (two fPeer l) ∧ Below w.heap.size w w' := by
  have q22 : ∀ (w : World) (a : Option Addr) (n c n' c' : Nat), (binOp .eql 63 (.slice a n c) (.slice none n' c')).run Try.prog w = .ok (.bool a.isNone) w := fun w a n c n' c' => Lib.run_eql_slice_nil w _ _ a n c n' c' Try.underlying63
  obtain ⟨A, c, rfl, hs, hle, hmax, hnull⟩ := h.ex
  unfold maxLen at hmax
  cases A with
  | none =>
    have hc := hnull rfl
    subst hc
    have h0 : l = [] := List.eq_nil_of_length_eq_zero (by omega)
    subst h0
    clear hnull hs hmax h
    go_enter Try.func30, Try.ntmps30
    go_wp2_with fail
    go_ret
    exact ⟨_, rfl, World.ownsRow_nil _ _ 62 2, Below.refl _ _⟩
  | some a =>
    have hb0 : Below w.heap.size w (w.alloc (.cells #[] 62)) := (Below.refl _ _).alloc (Nat.le_refl _) _
    have Hs := Lib.hid ((Two.src hs).below hb0)
    have ho0 : (w.alloc (.cells #[] 62)).ownsRow w.heap.size 62 2 (.slice (some ⟨w.heap.size, 0, none⟩) 0 0) 0 [] := World.ownsRow_lit w #[] 0 (Nat.le_refl _) (by decide) rfl
    have Ho0 := Lib.hid ho0
    have Hb0 := Lib.hid hb0
    have Hl := Lib.hid (two_length fPeer l)
    have H1 := Lib.hid (two_one fPeer_one l)
    obtain ⟨n, Hn⟩ : ∃ n, Hid (l.length = n) := ⟨_, Lib.hid rfl⟩
    obtain ⟨xs, Hxs⟩ : ∃ xs, Hid (two fPeer l = xs) := ⟨_, Lib.hid rfl⟩
    rw [Hn.out] at hl hle Hl ⊢
    rw [Hxs.out] at Hs Hl H1 ⊢
    clear hs ho0 hnull hb0 h
    go_enter Try.func30, Try.ntmps30
    go_wp2_with (at_builtin; refine wpList_append_far Try.underlying63 peerI2 rfl (by decide) _ _ rfl rfl w.heap.size _ 0 [] rfl Ho0.out n c xs rfl Hl.out (fun h => by cases h) hle Hs.out H1.out (by unfold maxLen; omega) (by omega) (by simp) ?_; intro v2 w2 ho2 hg2)
    go_ret
    rw [Nat.zero_add, List.nil_append] at ho2
    exact ⟨_, rfl, ho2, Hb0.out.grown hg2 (by simp) (fun k hk => (Ho0.out.lt k hk).1)⟩
theorem clonepairsB_any {w : World} {B : Nat} {v : Value} {l : List (ByteArray × ByteArray)} (h : Sl fPair w B v l) (hl : l.length ≤ 4398046511104) :
    Calls Try.prog 31 #[v] w fun e w' => ∃ v', e = .returned v' ∧ w'.ownsRow w.heap.size 71 2 v' l.length (two fPair l) ∧ Below w.heap.size w w' := by
  have q22 : ∀ (w : World) (a : Option Addr) (n c n' c' : Nat), (binOp .eql 64 (.slice a n c) (.slice none n' c')).run Try.prog w = .ok (.bool a.isNone) w := fun w a n c n' c' => Lib.run_eql_slice_nil w _ _ a n c n' c' Try.underlying64
  obtain ⟨A, c, rfl, hs, hle, hmax, hnull⟩ := h.ex
  unfold maxLen at hmax
  cases A with
  | none =>
    have hc := hnull rfl
    subst hc
    have h0 : l = [] := List.eq_nil_of_length_eq_zero (by omega)
    subst h0
    clear hnull hs hmax h
    go_enter Try.func31, Try.ntmps31
    go_wp2_with fail
    go_ret
    exact ⟨_, rfl, World.ownsRow_nil _ _ 71 2, Below.refl _ _⟩
  | some a =>
    have hb0 : Below w.heap.size w (w.alloc (.cells #[] 71)) := (Below.refl _ _).alloc (Nat.le_refl _) _
    have Hs := Lib.hid ((Two.src hs).below hb0)
    have ho0 : (w.alloc (.cells #[] 71)).ownsRow w.heap.size 71 2 (.slice (some ⟨w.heap.size, 0, none⟩) 0 0) 0 [] := World.ownsRow_lit w #[] 0 (Nat.le_refl _) (by decide) rfl
    have Ho0 := Lib.hid ho0
    have Hb0 := Lib.hid hb0
    have Hl := Lib.hid (two_length fPair l)
    have H1 := Lib.hid (two_one fPair_one l)
    obtain ⟨n, Hn⟩ : ∃ n, Hid (l.length = n) := ⟨_, Lib.hid rfl⟩
    obtain ⟨xs, Hxs⟩ : ∃ xs, Hid (two fPair l = xs) := ⟨_, Lib.hid rfl⟩
    rw [Hn.out] at hl hle Hl ⊢
    rw [Hxs.out] at Hs Hl H1 ⊢
    clear hs ho0 hnull hb0 h
    go_enter Try.func31, Try.ntmps31
    go_wp2_with (at_builtin; refine wpList_append_far Try.underlying64 pairI2 rfl (by decide) _ _ rfl rfl w.heap.size _ 0 [] rfl Ho0.out n c xs rfl Hl.out (fun h => by cases h) hle Hs.out H1.out (by unfold maxLen; omega) (by omega) (by simp) ?_; intro v2 w2 ho2 hg2)
    go_ret
    rw [Nat.zero_add, List.nil_append] at ho2
    exact ⟨_, rfl, ho2, Hb0.out.grown hg2 (by simp) (fun k hk => (Ho0.out.lt k hk).1)⟩
theorem fM_one (l : List (Ms × Value × Value)) (ho : ∀ x ∈ l, x.2.1.oneCell' = true ∧ x.2.2.oneCell' = true) : ∀ u ∈ rowsOf fM l, u.oneCell' = true := fun u hu => by
  simp only [rowsOf, List.mem_flatMap] at hu
  obtain ⟨x, hx, hu⟩ := hu
  obtain ⟨h1, h2⟩ := ho x hx
  simp only [fM, msgRow, List.mem_cons, List.not_mem_nil, or_false] at hu
  rcases hu with rfl | rfl | rfl | rfl | rfl | rfl | rfl | rfl | rfl | rfl | rfl <;> first | rfl | assumption
theorem clonemsgsB_any {w : World} {B : Nat} {v : Value} {l : List (Ms × Value × Value)} (h : Cl fM 11 w B v l) (ho : ∀ x ∈ l, x.2.1.oneCell' = true ∧ x.2.2.oneCell' = true) (hl : l.length ≤ 1000000) :
    Calls Try.prog 29 #[v] w fun e w' => ∃ v', e = .returned v' ∧ w'.ownsRow w.heap.size 66 11 v' l.length (rowsOf fM l) ∧ Below w.heap.size w w' := by
  have q22 : ∀ (w : World) (a : Option Addr) (n c n' c' : Nat), (binOp .eql 24 (.slice a n c) (.slice none n' c')).run Try.prog w = .ok (.bool a.isNone) w := fun w a n c n' c' => Lib.run_eql_slice_nil w _ _ a n c n' c' Try.underlying24
  obtain ⟨A, c, rfl, hle, hmax, hnull⟩ := h.shape
  unfold maxLen at hmax
  cases A with
  | none =>
    have hc := hnull rfl
    subst hc
    have h0 : l = [] := List.eq_nil_of_length_eq_zero (by omega)
    subst h0
    clear hnull hmax h ho
    go_enter Try.func29, Try.ntmps29
    go_wp2_with fail
    go_ret
    exact ⟨_, rfl, World.ownsRow_nil _ _ 66 11, Below.refl _ _⟩
  | some a =>
    have hb0 : Below w.heap.size w (w.alloc (.cells #[] 66)) := (Below.refl _ _).alloc (Nat.le_refl _) _
    have Hs := Lib.hid ((h.src fM_len).below hb0)
    have ho0 : (w.alloc (.cells #[] 66)).ownsRow w.heap.size 66 11 (.slice (some ⟨w.heap.size, 0, none⟩) 0 0) 0 [] := World.ownsRow_lit w #[] 0 (Nat.le_refl _) (by decide) rfl
    have Ho0 := Lib.hid ho0
    have Hb0 := Lib.hid hb0
    have Hl := Lib.hid (rowsOf_length fM_len l)
    have H1 := Lib.hid (fM_one l ho)
    obtain ⟨n, Hn⟩ : ∃ n, Hid (l.length = n) := ⟨_, Lib.hid rfl⟩
    obtain ⟨xs, Hxs⟩ : ∃ xs, Hid (rowsOf fM l = xs) := ⟨_, Lib.hid rfl⟩
    rw [Hn.out] at hl hle Hl ⊢
    rw [Hxs.out] at Hs Hl H1 ⊢
    clear ho0 hnull hb0 h ho
    go_enter Try.func29, Try.ntmps29
    go_wp2_with (at_builtin; refine wpList_append_far Try.underlying24 msgI2 rfl (by decide) _ _ rfl rfl w.heap.size _ 0 [] rfl Ho0.out n c xs rfl Hl.out (fun h => by cases h) hle Hs.out H1.out (by unfold maxLen; omega) (by omega) (by simp) ?_; intro v2 w2 ho2 hg2)
    go_ret
    rw [Nat.zero_add, List.nil_append] at ho2
    exact ⟨_, rfl, ho2, Hb0.out.grown hg2 (by simp) (fun k hk => (Ho0.out.lt k hk).1)⟩
end Go.Proofs.Ytjomchehnlnfcaa
