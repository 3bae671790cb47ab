/- Contracts of package parts. -/
import Derived.Test.YtbhdgfpaoghnbaaRpp21
import Derived.Test.YtbhdgfpaoghnbaaPC
import Derived.Test.YtbhdgfpaoghnbaaPM
import Derived.Test.YtbhdgfpaoghnbaaPA
import Derived.Deep.CutRange
namespace Go.Proofs.Ytbhdgfpaoghnbaa
open Go.RowKit
set_option linter.unusedVariables false
set_option maxRecDepth 100000
set_option linter.unusedSimpArgs false

abbrev nilB : Value := .slice none 0 0
/-- what a part was kept as: bytes in a block of F -/
def El (w : World) (F : Nat → Prop) (v : Value) (b : List Nat) : Prop := w.ownsRow 0 5 1 v b.length (ints .u8 b) ∧ ∀ k, v.ownBlock = some k → F k
theorem El.nil (w : World) (F : Nat → Prop) : El w F nilB [] := ⟨World.ownsRow_nil _ _ _ _, fun k hk => by cases hk⟩
theorem El.same {w w' : World} {F G : Nat → Prop} {v : Value} {b : List Nat} (h : El w F v b) (hk : ∀ b, F b → w'.heap[b]? = w.heap[b]?) (hG : ∀ b, F b → G b) : El w' G v b :=
  ⟨own_same h.1 (fun k q => hk k (h.2 k q)), fun k q => hG k (h.2 k q)⟩
/-- the program's parts in block g, the map in block mb -/
structure PtAt (w : World) (F : Nat → Prop) (g mb : Nat) (f : Nat → Option Value) (s : Pm.S) : Prop where
  whole : Whole w g 103 #[.int .i64 (s.count : Int), .int .i64 (s.size : Int), .map (some mb)]
  map : Mi Try.prog 3 nilB w mb s.l.length f
  has : ∀ i, i ≤ 9223372036854775807 → (f i).isSome = s.has i
  el : ∀ i, i ≤ 9223372036854775807 → El w F ((f i).getD nilB) (s.at_ i)
  self : F g
  mine : F mb
  ne : g ≠ mb
  pos : 1 ≤ s.count
  lt : ∀ b, F b → b < w.heap.size
  ok : s.Ok
/-- the program's parts in block g, which has the blocks of F -/
def Pt (w : World) (F : Nat → Prop) (g : Nat) (s : Pm.S) : Prop := ∃ mb f, PtAt w F g mb f s
section
variable {F : Nat → Prop} {g mb : Nat} {f : Nat → Option Value} {w w' : World} {s : Pm.S}
theorem PtAt.keep (h : PtAt w F g mb f s) (hk : ∀ b, F b → w'.heap[b]? = w.heap[b]?) : PtAt w' F g mb f s := by
  refine ⟨h.whole.same (hk g h.self), h.map.same (hk mb h.mine), h.has, fun i hi => (h.el i hi).same hk (fun _ q => q), h.self, h.mine, h.ne, h.pos, fun b hb => ?_, h.ok⟩
  have h1 := h.lt b hb
  have h2 := hk b hb
  rcases Nat.lt_or_ge b w'.heap.size with h3 | h3
  · exact h3
  · rw [Array.getElem?_eq_none h3, Array.getElem?_eq_getElem h1] at h2; cases h2
theorem Pt.keep (h : Pt w F g s) (hk : ∀ b, F b → w'.heap[b]? = w.heap[b]?) : Pt w' F g s := by
  obtain ⟨mb, f, h⟩ := h
  exact ⟨mb, f, h.keep hk⟩
theorem Pt.lt (h : Pt w F g s) : ∀ b, F b → b < w.heap.size := by
  obtain ⟨mb, f, h⟩ := h
  exact h.lt
theorem Pt.ok (h : Pt w F g s) : s.Ok := by
  obtain ⟨mb, f, h⟩ := h
  exact h.ok
theorem Pt.self (h : Pt w F g s) : F g := by
  obtain ⟨mb, f, h⟩ := h
  exact h.self
theorem PtAt.more {G : Nat → Prop} (h : PtAt w F g mb f s) (hG : ∀ b, F b → G b) (hl : ∀ b, G b → b < w.heap.size) : PtAt w G g mb f s :=
  ⟨h.whole, h.map, h.has, fun i hi => (h.el i hi).same (fun _ _ => rfl) hG, hG _ h.self, hG _ h.mine, h.ne, h.pos, hl, h.ok⟩
end
theorem look46 (w : World) : (zeroValue 34).run Try.prog w = .ok nilB w := by kernel_rfl

theorem pmade21_any {w : World} {g : Nat} {c : Nat} (hc : w.cell? ⟨g, 0, none⟩ = some (.int .i64 (c : Int))) (h1 : 1 ≤ c) :
    Calls Try.prog 51 #[.pointer (some ⟨g, 0, none⟩)] w fun e w' => e = .returned (.bool true) ∧ w' = w := by
  have hp : (0 : Int) < (c : Int) := by omega
  go_enter Try.func51, Try.ntmps51
  go_wp2_with fail
  go_ret
  exact ⟨by simp; omega, rfl⟩
theorem pmade21_nil (w : World) : Calls Try.prog 51 #[.pointer none] w fun e w' => e = .returned (.bool false) ∧ w' = w := by
  go_enter Try.func51, Try.ntmps51
  go_wp2_with fail
  go_ret
  exact ⟨rfl, rfl⟩

theorem pnew21_bad (n : Int) (h1 : -9223372036854775808 ≤ n) (h2 : n ≤ 9223372036854775807) (hn : n < 1 ∨ 65535 < n) (w : World) :
    Calls Try.prog 48 #[.int .i64 n] w fun e w' => e = .returned (.tuple #[.pointer none, .int .i64 1]) ∧ Below w.heap.size w w' := by
  go_enter Try.func48, Try.ntmps48
  rcases hn with hn | hn
  · have hd : (decide (n < 1)) = true := by simpa using hn
    go_wp2_with fail
    go_ret2
    exact ⟨rfl, Below.refl _ _⟩
  · have hd : (decide (n < 1)) = false := by simp; omega
    go_wp2_with fail
    go_ret2
    exact ⟨rfl, Below.refl _ _⟩
theorem pnew21_any (n : Nat) (h1 : 1 ≤ n) (h2 : n ≤ 65535) (w : World) :
    Calls Try.prog 48 #[.int .i64 (n : Int)] w fun e w' => ∃ g, e = .returned (.tuple #[.pointer (some ⟨g, 0, none⟩), .int .i64 0]) ∧ Pt w' (fun b => w.heap.size ≤ b ∧ b < w'.heap.size) g ⟨n, []⟩ ∧ Below w.heap.size w w' := by
  have HM := Lib.hid (Mi.made Try.prog 3 nilB w)
  have hmk : (Instr.makeMap 101 none).run Try.prog w = .ok (.map (some w.heap.size)) (w.alloc (.map #[] 0)) := run_makeMap _ w
  have hd : (decide ((n : Int) < 1)) = false := by simp; omega
  have hd2 : (decide ((65535 : Int) < (n : Int))) = false := by simp; omega
  go_enter Try.func48, Try.ntmps48
  go_wp2_with fail
  go_ret2
  have hwh := Whole.made (w.alloc (.map #[] 0)) 103 #[.int .i64 (n : Int), .int .i64 0, .map (some w.heap.size)]
  rw [World.size_alloc] at hwh
  refine ⟨_, rfl, ⟨w.heap.size, fun _ => none, hwh, HM.out.same (Below.heap_alloc _ _ _ HM.out.lt), fun i _ => rfl, fun i _ => El.nil _ _, ⟨by omega, by simp⟩, ⟨Nat.le_refl _, by simp; omega⟩, by omega, h1, fun b hb => hb.2, ⟨by simp [Pm.S.idx], fun i hi => by simp [Pm.S.idx] at hi, h2, fun x hx => by cases hx⟩⟩, ?_⟩
  exact ((Below.refl _ _).alloc (Nat.le_refl _) _).alloc (by simp) _

theorem phas21_eq {F : Nat → Prop} {g : Nat} {w : World} {s : Pm.S} (h : Pt w F g s) (i : Nat) (hi : i ≤ 9223372036854775807) :
    Calls Try.prog 49 #[.pointer (some ⟨g, 0, none⟩), .int .i64 (i : Int)] w fun e w' => e = .returned (.bool (s.has i)) ∧ w' = w := by
  obtain ⟨mb, f, h⟩ := h
  have MA := Lib.hid (pmade21_any (h.whole.at_ 0) h.pos)
  have hL := h.map.look_ok (T := 101) Try.underlying3 Try.underlying101 (look46 w) hi
  rw [h.has i hi] at hL
  have hc2 : w.cell? ⟨g, 2, none⟩ = some (.map (some mb)) := h.whole.at_ 2
  obtain ⟨v, hv⟩ : ∃ v, Hid ((f i).getD nilB = v) := ⟨_, Lib.hid rfl⟩
  rw [hv.out] at hL
  obtain ⟨x, hx⟩ : ∃ x, Hid (s.has i = x) := ⟨_, Lib.hid rfl⟩
  rw [hx.out] at hL ⊢
  obtain ⟨A, n, c, rfl⟩ : ∃ A n c, v = .slice A n c := by
    obtain ⟨A, c, e⟩ := own_shape (h.el i hi).1
    exact ⟨A, _, c, hv.out ▸ e⟩
  clear h hv hx
  go_enter Try.func49, Try.ntmps49
  go_wp2_with fail
  refine (MA.out).mono ?_
  rintro e w1 ⟨rfl, rfl⟩
  go_wp2_with fail
  go_ret
  exact ⟨rfl, rfl⟩
theorem phas21_any {F : Nat → Prop} {g : Nat} {w : World} {s : Pm.S} (h : Pt w F g s) (i : Nat) (hi : i ≤ 9223372036854775807) :
    Calls Try.prog 49 #[.pointer (some ⟨g, 0, none⟩), .int .i64 (i : Int)] w fun e w' => e = .returned (.bool (s.has i)) ∧ Below w.heap.size w w' := by
  refine (phas21_eq h i hi).mono ?_
  rintro e w1 ⟨rfl, rfl⟩
  exact ⟨rfl, Below.refl _ _⟩
theorem pmissing21_any {F : Nat → Prop} {g : Nat} {w : World} {s : Pm.S} (h : Pt w F g s) :
    Calls Try.prog 54 #[.pointer (some ⟨g, 0, none⟩)] w fun e w' => e = .returned (.int .i64 ((s.count : Int) - (s.l.length : Int))) ∧ Below w.heap.size w w' := by
  obtain ⟨mb, f, h⟩ := h
  have MA := Lib.hid (pmade21_any (h.whole.at_ 0) h.pos)
  have hlen := h.ok.len
  have hmost := h.ok.most
  have hL := fun (q : Nat) (ty : TypeId) => (h.map.same (w' := w.drewN q) rfl).len (T := 101) Try.underlying101 ty
  have hc0 : w.cell? ⟨g, 0, none⟩ = some (.int .i64 (s.count : Int)) := h.whole.at_ 0
  have hc2 : w.cell? ⟨g, 2, none⟩ = some (.map (some mb)) := h.whole.at_ 2
  obtain ⟨n, hn⟩ : ∃ n, Hid (s.l.length = n) := ⟨_, Lib.hid rfl⟩
  obtain ⟨m, hm⟩ : ∃ m, Hid (s.count = m) := ⟨_, Lib.hid rfl⟩
  rw [hn.out] at hlen hL ⊢
  rw [hm.out] at hlen hmost hc0 ⊢
  have hw : IntKind.i64.wrap ((m : Int) - (n : Int)) = (m : Int) - (n : Int) := by rw [IntKind.wrap_i64]; omega
  clear h
  go_enter Try.func54, Try.ntmps54
  go_wp2_with fail
  refine (MA.out).mono ?_
  rintro e w1 ⟨rfl, rfl⟩
  go_wp2_with fail
  go_quiet (fail)
  go_wp2_with fail
  go_ret
  exact ⟨rfl, below_draws _ _ _⟩
theorem pmissing21_nil (w : World) : Calls Try.prog 54 #[.pointer none] w fun e w' => e = .returned (.int .i64 0) ∧ Below w.heap.size w w' := by
  go_enter Try.func54, Try.ntmps54
  go_wp2_with fail
  refine (pmade21_nil w).mono ?_
  rintro e w1 ⟨rfl, rfl⟩
  go_wp2_with fail
  go_ret
  exact ⟨rfl, Below.refl _ _⟩
theorem psize21_eq {F : Nat → Prop} {g : Nat} {w : World} {s : Pm.S} (h : Pt w F g s) (hs : s.size ≤ 1000000000) :
    Calls Try.prog 46 #[.pointer (some ⟨g, 0, none⟩)] w fun e w' => e = .returned (.int .i64 (s.size : Int)) ∧ w' = w := by
  obtain ⟨mb, f, h⟩ := h
  have MA := Lib.hid (pmade21_any (h.whole.at_ 0) h.pos)
  have hc1 : w.cell? ⟨g, 1, none⟩ = some (.int .i64 (s.size : Int)) := h.whole.at_ 1
  obtain ⟨z, hz⟩ : ∃ z, Hid (s.size = z) := ⟨_, Lib.hid rfl⟩
  rw [hz.out] at hs hc1 ⊢
  clear h
  go_enter Try.func46, Try.ntmps46
  go_wp2_with fail
  refine (MA.out).mono ?_
  rintro e w1 ⟨rfl, rfl⟩
  go_wp2_with fail
  go_ret
  exact ⟨rfl, rfl⟩

/-- 'append(s, x...)' of up to 2^47 bytes, onto nothing -/
theorem psize21_any {F : Nat → Prop} {g : Nat} {w : World} {s : Pm.S} (h : Pt w F g s) (hs : s.size ≤ 1000000000) :
    Calls Try.prog 46 #[.pointer (some ⟨g, 0, none⟩)] w fun e w' => e = .returned (.int .i64 (s.size : Int)) ∧ Below w.heap.size w w' := by
  refine (psize21_eq h hs).mono ?_
  rintro e w1 ⟨rfl, rfl⟩
  exact ⟨rfl, Below.refl _ _⟩
theorem run_append_big {w : World} (ty base : Nat) (v : Value) (hown : w.ownsRow base 5 1 v 0 []) {B : Nat} {A : Option Addr} {l : List Nat} (m c : Nat) (hm : l.length = m) (hc : A = none → c = 0)
    (hsee : Sees .u8 w B A l) (hn : m ≤ 140737488355328) (hbase : base ≤ w.heap.size) :
    ∃ v' w', (Builtin.append_ #[34, 34] ty #[v, .slice A m c]).run Try.prog w = .ok v' w' ∧ w'.ownsRow base 5 1 v' m (ints .u8 l) ∧ w.grownBy w' v.ownBlock := by
  obtain ⟨i0, hi, hz0, hz1, hz2⟩ := info_parts byteT.info
  cases A with
  | none =>
    have h0 : l = [] := by
      rcases Nat.eq_zero_or_pos l.length with h | h
      · exact List.eq_nil_of_length_eq_zero h
      · obtain ⟨_, _, e, _⟩ := hsee h; cases e
    have hc0 := hc rfl
    subst h0 hc0
    have hm0 : m = 0 := by simpa using hm.symm
    subst hm0
    exact ⟨v, w, run_append_owned_none w base 34 ty 5 i0 1 byteT.under hi v 0 [] hown, by simpa [ints] using hown, World.grownBy.refl w _⟩
  | some ad =>
    have hnews : ∀ j u, (ints .u8 l)[j]? = some u → w.cell? (ad.add j) = some u := by
      intro j u hu
      have hj : j < l.length := by
        rcases Nat.lt_or_ge j l.length with h | h
        · exact h
        · rw [List.getElem?_eq_none (by rw [ints_length]; exact h)] at hu; cases hu
      obtain ⟨b, off, e, _, hcell⟩ := hsee (by omega)
      injection e with e
      subst e
      have ha : (⟨b, off, none⟩ : Addr).add j = ⟨b, off + j, none⟩ := by unfold Addr.add; split <;> simp_all
      rw [ha, hcell j hj, ← ints_get .u8 l j hj, hu]
    obtain ⟨v', w', h1, h2, h3, _⟩ := run_append_own_at (P := Try.prog) w base 34 ty 5 i0 _ 1 1 byteT.under hi hz0 hz1 hz2 byteT.one (by decide) v 0 [] hown ad m c (ints .u8 l) (by rw [ints_length]; omega) hnews (ints_one .u8 l) (by unfold maxLen; omega) (by omega) hbase
    rw [Nat.zero_add, List.nil_append] at h2
    exact ⟨v', w', h1, h2, h3⟩
theorem wpList_append_big {ops : Array Oper} {rest : List Oper} {o : Oper} {a : Act} {w : World} {Q : Exit → Act → World → Prop} (s x : Operand) (hgd : o.guard = none)
    (ho : o.op = .call { callee := .builtin .append, args := #[s, x], argTypes := #[34, 34] }) (base : Nat) (v : Value) (hs : a.eval s = v) (hown : w.ownsRow base 5 1 v 0 []) {B : Nat} {A : Option Addr} {l : List Nat} (m c : Nat)
    (hx : a.eval x = .slice A m c) (hm : l.length = m) (hc : A = none → c = 0) (hsee : Sees .u8 w B A l) (hn : m ≤ 140737488355328) (hbase : base ≤ w.heap.size)
    (h : ∀ v' w', w'.ownsRow base 5 1 v' m (ints .u8 l) → w.grownBy w' v.ownBlock → wpList Try.prog ops Q rest (a.put o.dst v') w') : wpList Try.prog ops Q (o :: rest) a w := by
  refine wpList_plain hgd fun K hK => ?_
  obtain ⟨v', w', hr, h2, h3⟩ := run_append_big (w := w) o.type base v hown m c hm hc hsee hn hbase
  unfold Oper.wp execOp
  simp only [ho, resolve, invoke, builtin, Sem.run_bind, Sem.run_pure, Result.andThen_ok, List.map_toArray, List.map_cons, List.map_nil, hs, hx, hr]
  exact hK _ _ (h v' w' h2 h3)
theorem bclone21_any {w : World} {B : Nat} {v : Value} {p : List Nat} (h : Piece w B v p) (hp : p.length ≤ 140737488355328) :
    Calls Try.prog 52 #[v] w (Made .u8 5 w.heap.size p w) := by
  have q22 : ∀ (w : World) (a : Option Addr) (n c n' c' : Nat), (binOp .eql 34 (.slice a n c) (.slice none n' c')).run Try.prog w = .ok (.bool a.isNone) w := fun w a n c n' c' => Lib.run_eql_slice_nil w _ _ a n c n' c' Try.underlying34
  obtain ⟨A, c, rfl, hs, hnull, hle, hmax⟩ := h
  unfold maxLen at hmax
  cases A with
  | none =>
    have h0 : p = [] := by
      have := hnull rfl
      exact List.eq_nil_of_length_eq_zero (by omega)
    subst h0
    have hc := hnull rfl
    subst hc
    clear hnull hs
    go_enter Try.func52, Try.ntmps52
    go_wp2_with fail
    go_ret
    exact ⟨_, rfl, World.ownsRow_nil _ _ 5 1, Below.refl _ _⟩
  | some a =>
    have Hs := Lib.hid hs
    have ho0 : (w.alloc (.cells #[] 5)).ownsRow w.heap.size 5 1 (.slice (some ⟨w.heap.size, 0, none⟩) 0 0) 0 [] := World.ownsRow_lit w #[] 0 (Nat.le_refl _) (by decide) rfl
    have Ho0 := Lib.hid ho0
    obtain ⟨n, Hn⟩ : ∃ n, Hid (p.length = n) := ⟨_, rfl⟩
    rw [Hn.out] at hp hle ⊢
    clear hs ho0 hnull
    go_enter Try.func52, Try.ntmps52
    go_wp2_with (at_builtin; refine wpList_append_big _ _ rfl rfl w.heap.size _ rfl Ho0.out n c rfl Hn.out (fun h => by cases h) ((Hs.out.lower.below ((Below.refl _ _).alloc (Nat.min_le_right _ _) _))) hp (by simp) ?_; intro v2 w2 ho2 hg2)
    go_ret
    rw [← Hn.out] at ho2
    exact ⟨_, rfl, ho2, (((Below.refl _ _).alloc (Nat.le_refl _) _)).grown hg2 (by simp) (fun k hk => (Ho0.out.lt k hk).1)⟩

/-- one more -/
theorem PtAt.snoc {F : Nat → Prop} {g mb : Nat} {f : Nat → Option Value} {w0 w w2 w3 : World} {s : Pm.S} {i : Nat} {b : List Nat} {v2 : Value} (h : PtAt w F g mb f s) (h0 : Below w0.heap.size w0 w) (hF : ∀ k, F k → k < w0.heap.size) (hi : i < s.count) (hh : s.has i = false) (hb : ∀ y ∈ b, y < 256)
    (hw2 : Below w.heap.size w w2) (ho : w2.ownsRow w.heap.size 5 1 v2 b.length (ints .u8 b)) (hm : Mi Try.prog 3 nilB w3 mb (s.l.length + 1) (fun j => if j = i then some v2 else f j)) (hg : w2.grownBy w3 (some mb)) (hz : w3.heap.size = w2.heap.size) :
    Pt (w3.setCell ⟨g, 1, none⟩ (.int .i64 ((s.size + b.length : Nat) : Int))) (Wide F w0 (w3.setCell ⟨g, 1, none⟩ (.int .i64 ((s.size + b.length : Nat) : Int)))) g (s.add i b) ∧ Foot F w0 (w3.setCell ⟨g, 1, none⟩ (.int .i64 ((s.size + b.length : Nat) : Int))) := by
  have hz0 := h0.size
  have hz2 := hw2.size
  have e4 : (w3.setCell ⟨g, 1, none⟩ (.int .i64 ((s.size + b.length : Nat) : Int))).heap.size = w3.heap.size := by simp [World.setCell]
  have hgl := hF g h.self
  have hml := hF mb h.mine
  have hW2 : Whole w2 g 103 #[.int .i64 (s.count : Int), .int .i64 (s.size : Int), .map (some mb)] := h.whole.below hw2 (by omega)
  have hW3 : Whole w3 g 103 #[.int .i64 (s.count : Int), .int .i64 (s.size : Int), .map (some mb)] := hW2.same (hg.block g (by omega) (fun e => by injection e with e; exact h.ne e))
  have hW4 := hW3.put 1 (.int .i64 ((s.size + b.length : Nat) : Int))
  have hold : ∀ k, k < w.heap.size → k ≠ g → k ≠ mb → (w3.setCell ⟨g, 1, none⟩ (.int .i64 ((s.size + b.length : Nat) : Int))).heap[k]? = w.heap[k]? := fun k hk h1 h2 => by
    rw [Below.heap_setCell _ _ _ _ (by exact h1), hg.block k (by omega) (fun e => by injection e with e; exact h2 e), hw2.block k hk]
  have hown : ∀ (v : Value) (xs : List Nat), w.ownsRow 0 5 1 v xs.length (ints .u8 xs) → ∀ k, v.ownBlock = some k → k ≠ g ∧ k ≠ mb := fun v xs hv k hk => by
    rcases hv.2 with ⟨rfl, _⟩ | ⟨q, cap, cur, rfl, _, hq, _⟩
    · cases hk
    · injection hk with hk
      have hk : q = k := hk
      subst hk
      refine ⟨fun e => ?_, fun e => ?_⟩
      · have := h.whole
        unfold Whole at this
        rw [← e, hq] at this
        injection this with this
        injection this with _ this _
        revert this
        decide
      · obtain ⟨D, ⟨es, clock, hmm, _⟩, _⟩ := h.map
        rw [← e, hq] at hmm
        cases hmm
  refine ⟨⟨mb, fun j => if j = i then some v2 else f j, ?_, ?_, ?_, ?_, .inl h.self, .inl h.mine, h.ne, h.pos, ?_, h.ok.add hi hh hb⟩, ?_⟩
  · have e1 : (s.add i b).size = s.size + b.length := Pm.S.size_add s i b
    rw [e1]
    exact hW4
  · rw [show (s.add i b).l.length = s.l.length + 1 by simp [Pm.S.add]]
    exact hm.same (Below.heap_setCell _ _ _ _ (by exact h.ne.symm))
  · intro j hj
    rw [Pm.S.has_add, ← h.has j hj]
    by_cases e : j = i
    · simp [e]
    · simp [e]
  · intro j hj
    rw [Pm.S.at_add s i b hh]
    by_cases e : j = i
    · rw [if_pos e, if_pos e]
      refine ⟨own_same (own_lower ho (Nat.zero_le _)) (fun k hk => ?_), fun k hk => ?_⟩
      · obtain ⟨h1, h2⟩ := ho.lt k hk
        have := h.lt g h.self
        have := h.lt mb h.mine
        rw [Below.heap_setCell _ _ _ _ (by show k ≠ g; omega), hg.block k h2 (fun e => by injection e with e; omega)]
      · obtain ⟨h1, h2⟩ := ho.lt k hk
        exact .inr ⟨by omega, by omega⟩
    · rw [if_neg e, if_neg e]
      obtain ⟨h1, h2⟩ := h.el j hj
      refine ⟨own_same h1 (fun k hk => ?_), fun k hk => .inl (h2 k hk)⟩
      obtain ⟨q1, q2⟩ := hown _ _ h1 k hk
      exact hold k (h1.lt k hk).2 q1 q2
  · intro k hk
    rcases hk with hk | hk
    · have := hF k hk; omega
    · exact hk.2
  · refine ⟨?_, ?_, ?_, by omega, fun k hk hf => ?_⟩
    · exact hg.os.trans (hw2.os.trans h0.os)
    · exact hg.tape.trans (hw2.tape.trans h0.tape)
    · exact hg.output.trans (hw2.output.trans h0.output)
    · rw [hold k (by omega) (fun e => hf (e ▸ h.self)) (fun e => hf (e ▸ h.mine)), h0.block k hk]

set_option maxHeartbeats 1000000 in
theorem padd21_any {F : Nat → Prop} {g : Nat} {w : World} {s : Pm.S} (h : Pt w F g s) (hs : s.size ≤ 1152921504606846976) (z : Int) (h1 : -9223372036854775808 ≤ z) (h2 : z ≤ 9223372036854775807) {B : Nat} {v : Value} {b : List Nat} (P : Piece w B v b) (hb : ∀ x ∈ b, x < 256) (hl : b.length ≤ 140737488351232) :
    Calls Try.prog 40 #[.pointer (some ⟨g, 0, none⟩), .int .i64 z, v] w fun e w' => e = .returned (.int .i64 (s.err z : Int)) ∧ Pt w' (Wide F w w') g (s.put z b) ∧ Foot F w w' := by
  obtain ⟨mb, f, h⟩ := h
  have MA := Lib.hid (pmade21_any (h.whole.at_ 0) h.pos)
  have HST : Hid (∀ w', Below w.heap.size w w' → Pt w' (Wide F w w') g s ∧ Foot F w w') := Lib.hid (fun w' hb => ⟨⟨mb, f, (h.keep (fun k hk => hb.block k (h.lt k hk))).more (fun k hk => .inl hk) (fun k hk => by
    have := hb.size
    rcases hk with hk | hk
    · have := h.lt k hk; omega
    · exact hk.2)⟩, Foot.of_below hb⟩)
  have hc0 : w.cell? ⟨g, 0, none⟩ = some (.int .i64 (s.count : Int)) := h.whole.at_ 0
  have hmost := h.ok.most
  obtain ⟨A, c, rfl, hsee, hnull, hle, hmax⟩ := P
  have HP : Hid (Piece w B (.slice A b.length c) b) := Lib.hid ⟨A, c, rfl, hsee, hnull, hle, hmax⟩
  clear hsee hnull hle hmax
  by_cases hz : z < 0
  · have he : s.err z = 1 := by unfold Pm.S.err; rw [if_pos (.inl hz)]
    have hp : s.put z b = s := by unfold Pm.S.put; rw [if_neg (by rw [he]; omega)]
    have hd : decide (z < 0) = true := by simpa using hz
    rw [he, hp]
    clear h he hp
    go_enter Try.func40, Try.ntmps40
    go_wp2_with fail
    refine (MA.out).mono ?_
    rintro e w1 ⟨rfl, rfl⟩
    go_wp2_with fail
    go_ret
    exact ⟨rfl, HST.out _ (Below.refl _ _)⟩
  obtain ⟨i, rfl⟩ : ∃ i : Nat, z = (i : Int) := ⟨z.toNat, by omega⟩
  have hd : decide ((i : Int) < 0) = false := decide_eq_false (by omega)
  by_cases hi : i < s.count
  case neg =>
    have he : s.err i = 1 := by unfold Pm.S.err; rw [if_pos (.inr (by omega))]
    have hp : s.put i b = s := by unfold Pm.S.put; rw [if_neg (by rw [he]; omega)]
    have hi' : s.count ≤ i := by omega
    rw [he, hp]
    obtain ⟨m, hm⟩ : ∃ m, Hid (s.count = m) := ⟨_, Lib.hid rfl⟩
    rw [hm.out] at hc0 hi'
    clear h he hp hi hz
    go_enter Try.func40, Try.ntmps40
    go_wp2_with fail
    refine (MA.out).mono ?_
    rintro e w1 ⟨rfl, rfl⟩
    go_wp2_with fail
    go_ret
    exact ⟨rfl, HST.out _ (Below.refl _ _)⟩
  have HH := Lib.hid (phas21_any ⟨mb, f, h⟩ i (by omega))
  cases hh : s.has i with
  | true =>
    have he : s.err i = 12 := by unfold Pm.S.err; rw [if_neg (by omega), if_pos (by simpa using hh)]
    have hp : s.put i b = s := by unfold Pm.S.put; rw [if_neg (by rw [he]; omega)]
    rw [hh] at HH
    rw [he, hp]
    clear h he hp hz
    obtain ⟨m, hm⟩ : ∃ m, Hid (s.count = m) := ⟨_, Lib.hid rfl⟩
    rw [hm.out] at hc0 hi
    have hi' : ¬ m ≤ i := by omega
    go_enter Try.func40, Try.ntmps40
    go_wp2_with fail
    refine (MA.out).mono ?_
    rintro e w1 ⟨rfl, rfl⟩
    go_wp2_with fail
    refine (HH.out).mono ?_
    rintro e w2 ⟨rfl, hb2⟩
    have HB2 := Lib.hid hb2
    clear hb2
    go_wp2_with fail
    go_ret
    exact ⟨rfl, HST.out _ HB2.out⟩
  | false =>
    have he : s.err i = 0 := by unfold Pm.S.err; rw [if_neg (by omega), if_neg (by simp [hh])]
    have hp : s.put i b = s.add i b := by unfold Pm.S.put; rw [if_pos he, Int.toNat_natCast]
    rw [hh] at HH
    rw [he, hp]
    have hlen := h.ok.len
    have HF0 : Hid (f i = none) := Lib.hid (by
      have := h.has i (by omega)
      rw [hh] at this
      simpa using this)
    have HA : Hid (∀ w1, Below w.heap.size w w1 → PtAt w1 F g mb f s) := Lib.hid (fun w1 hb => h.keep (fun k hk => hb.block k (h.lt k hk)))
    have HLT := Lib.hid h.lt
    have HMI := Lib.hid h.mine
    have HSE := Lib.hid h.self
    have HNE := Lib.hid h.ne
    have Hhh := Lib.hid hh
    have Hhb := Lib.hid hb
    have Hii := Lib.hid hi
    obtain ⟨n, hn⟩ : ∃ n, Hid (s.l.length = n) := ⟨_, Lib.hid rfl⟩
    rw [hn.out] at hlen
    obtain ⟨bl, hbl⟩ : ∃ bl, Hid (b.length = bl) := ⟨_, Lib.hid rfl⟩
    rw [hbl.out] at HP hl
    rw [hbl.out]
    obtain ⟨y, hy⟩ : ∃ y, Hid (s.size = y) := ⟨_, Lib.hid rfl⟩
    rw [hy.out] at hs
    obtain ⟨m, hm⟩ : ∃ m, Hid (s.count = m) := ⟨_, Lib.hid rfl⟩
    rw [hm.out] at hc0 hi hlen hmost
    have hi' : ¬ m ≤ i := by omega
    clear h he hp hz hh hb
    go_enter Try.func40, Try.ntmps40
    go_wp2_with fail
    refine (MA.out).mono ?_
    rintro e w1 ⟨rfl, rfl⟩
    go_wp2_with fail
    refine (HH.out).mono ?_
    rintro e w2 ⟨rfl, hb2⟩
    have HB2 := Lib.hid hb2
    have HP2 := Lib.hid (HP.out.kept hb2)
    clear hb2
    go_upto_region 7 with fail
    refine wp_region_last (S := fun W => Below w2.heap.size w2 W) 7 [(0, true), (1, true), (2, true), (3, true), (4, true), (5, true), (6, false), (7, false)] (by kernel_rfl) (by kernel_rfl) rfl (by kernel_rfl) (by rfl) (fun _ _ _ _ _ h => h) (Below.refl _ _).drew ?_
    iterate 6
      refine alongL_take (v := ?_) rfl (by rfl) ?_ ?_
      rotate_left
      · intro W hW; have c2 : W.cell? ⟨g, 2, none⟩ = some (.map (some mb)) := (HA.out W (HB2.out.trans (hW.mono HB2.out.size))).whole.at_ 2; clear hW; go_simp; try with_reducible rfl
      simp only [Act.put, List.setIfInBounds_toArray, List.set_cons_zero, List.set_cons_succ]
    refine alongL_step rfl (fun K hK => ?_)
    have HCL := Lib.hid (bclone21_any (HP2.out.kept (w' := w2.drew) (Below.refl _ _).drew) (by rw [hbl.out]; omega))
    go_simp
    refine (HCL.out).mono ?_
    rintro e1 w3 ⟨v2, rfl, ho, hb3⟩
    have HS3 : Hid (Below w2.heap.size w2 w3) := Lib.hid ((Below.refl _ _).drew.trans hb3)
    have HO3 : Hid (w3.ownsRow w2.heap.size 5 1 v2 b.length (ints .u8 b)) := Lib.hid ho
    obtain ⟨A2, c2, rfl⟩ := own_shape ho
    refine hK.out _ _ HS3.out ?_
    clear hK K hb3 ho HCL
    try simp only [Act.put, List.setIfInBounds_toArray, List.set_cons_zero, List.set_cons_succ]
    refine alongL_last rfl (fun K hK => ?_)
    obtain ⟨w4, hr4, hm4, hg4, hz4⟩ := Mi.store (T := 101) Try.underlying3 Try.underlying101 ((HA.out w3 (HB2.out.trans (HS3.out.mono HB2.out.size))).map) (by rw [hn.out]; unfold maxLen; omega) (i := i) (by omega) HF0.out (.slice A2 b.length c2)
    have HM4 := Lib.hid hm4
    have HG4 := Lib.hid hg4
    have HZ4 := Lib.hid hz4
    clear hm4 hg4 hz4
    have HSN := Lib.hid (PtAt.snoc (HA.out w2 HB2.out) HB2.out HLT.out Hii.out Hhh.out Hhb.out HS3.out HO3.out HM4.out HG4.out HZ4.out)
    have hW3 := (HA.out w3 (HB2.out.trans (HS3.out.mono HB2.out.size))).whole
    rw [hy.out, hm.out] at hW3
    have hW4 : Whole w4 g 103 #[.int .i64 (m : Int), .int .i64 (y : Int), .map (some mb)] := hW3.same (HG4.out.block g hW3.lt (fun e => by injection e with e; exact HNE.out e))
    have c41 : w4.cell? ⟨g, 1, none⟩ = some (.int .i64 (y : Int)) := hW4.at_ 1
    have f41 := hW4.free 1
    rw [hy.out, hbl.out] at HSN
    have hw : IntKind.i64.wrap ((y : Int) + (bl : Int)) = ((y + bl : Nat) : Int) := by rw [IntKind.wrap_i64]; omega
    clear hW3 hW4
    go_simp
    refine hK.out _ _ ?_
    clear hK K
    go_wp2_with fail
    go_ret
    exact ⟨rfl, HSN.out⟩
theorem padd21_nil (w : World) : Calls Try.prog 40 #[.pointer none, .int .i64 0, .slice none 0 0] w fun e w' => e = .returned (.int .i64 14) ∧ Below w.heap.size w w' := by
  go_enter Try.func40, Try.ntmps40
  go_wp2_with fail
  refine (pmade21_nil w).mono ?_
  rintro e w1 ⟨rfl, rfl⟩
  go_wp2_with fail
  go_ret
  exact ⟨rfl, Below.refl _ _⟩
set_option maxHeartbeats 1000000 in
theorem pwhole21_any {F : Nat → Prop} {g : Nat} {w : World} {s : Pm.S} (h : Pt w F g s) (hs : s.size ≤ 1000000) :
    Calls Try.prog 42 #[.pointer (some ⟨g, 0, none⟩)] w fun e w' => ∃ v, e = .returned (.tuple #[v, .bool s.full]) ∧ w'.ownsRow w.heap.size 5 1 v s.told.length (ints .u8 s.told) ∧ Below w.heap.size w w' := by
  have M := Lib.hid (pmissing21_any h)
  obtain ⟨mb, f, h⟩ := h
  have MA := Lib.hid (pmade21_any (h.whole.at_ 0) h.pos)
  have hlen := h.ok.len
  have hmost := h.ok.most
  by_cases hc : s.l.length = s.count
  case neg =>
    have hf : s.full = false := by unfold Pm.S.full; rw [decide_eq_false hc]
    have ht : s.told = [] := by unfold Pm.S.told; rw [hf]; rfl
    rw [hf, ht]
    obtain ⟨n, hn⟩ : ∃ n, Hid (s.l.length = n) := ⟨_, Lib.hid rfl⟩
    obtain ⟨m, hm⟩ : ∃ m, Hid (s.count = m) := ⟨_, Lib.hid rfl⟩
    rw [hn.out, hm.out] at M hlen hc
    have hpos : (0 : Int) < (m : Int) - (n : Int) := by omega
    clear h hf ht
    go_enter Try.func42, Try.ntmps42
    go_wp2_with fail
    refine (MA.out).mono ?_
    rintro e w1 ⟨rfl, rfl⟩
    go_wp2_with fail
    refine (M.out).mono ?_
    rintro e w2 ⟨rfl, hb2⟩
    have HB2 := Lib.hid hb2
    clear hb2
    go_wp2_with fail
    go_ret2
    exact ⟨_, rfl, World.ownsRow_nil _ _ 5 1, HB2.out⟩
  have hf : s.full = true := by unfold Pm.S.full; rw [decide_eq_true hc]
  have ht : s.told = s.whole := by unfold Pm.S.told; rw [hf]; rfl
  rw [hf, ht]
  rw [hc] at M
  have HFL := Lib.hid (fun k => Pm.S.first_le s k)
  have HFA := Lib.hid s.first_all
  have HAL := Lib.hid (fun i => Pm.S.at_le s i)
  have HFS := Lib.hid (fun k => Pm.S.first_succ s k)
  have HA : Hid (∀ w1, Below w.heap.size w w1 → PtAt w1 F g mb f s) := Lib.hid (fun w1 hb => h.keep (fun k hk => hb.block k (h.lt k hk)))
  obtain ⟨y, hy⟩ : ∃ y, Hid (s.size = y) := ⟨_, Lib.hid rfl⟩
  rw [hy.out] at hs HFL HAL
  obtain ⟨m, hm⟩ : ∃ m, Hid (s.count = m) := ⟨_, Lib.hid rfl⟩
  rw [hm.out] at M hlen hmost HFA
  have hpos : ¬ (0 : Int) < (m : Int) - (m : Int) := by omega
  clear h hf ht hc
  go_enter Try.func42, Try.ntmps42
  go_wp2_with fail
  refine (MA.out).mono ?_
  rintro e w1 ⟨rfl, rfl⟩
  go_wp2_with fail
  refine (M.out).mono ?_
  rintro e w2 ⟨rfl, hb2⟩
  have hz2 := hb2.size
  have hW2 := (HA.out w2 hb2).whole
  rw [hy.out, hm.out] at hW2
  have c1 : w2.cell? ⟨g, 1, none⟩ = some (.int .i64 (y : Int)) := hW2.at_ 1
  obtain ⟨i0, hi, hz0, hz1, hz2'⟩ := info_parts byteT.info
  obtain ⟨w3, hmk, ho0, hg0⟩ := run_make_own (P := Try.prog) (w := w2) w1.heap.size 34 5 i0 _ 1 byteT.under hi hz0 hz1 .i64 .i64 y (by rw [hz2']; omega) (by unfold maxLen; omega) hz2
  have HB3 : Hid (Below w1.heap.size w1 w3) := Lib.hid (hb2.grown hg0 hz2 (fun k hk => by cases hk))
  have HO3 : Hid (w3.ownsRow w1.heap.size 5 1 (.slice (some ⟨w2.heap.size, 0, none⟩) 0 y) (s.first 0).length (ints .u8 (s.first 0))) := Lib.hid ho0
  have hW3 := (HA.out w3 HB3.out).whole
  rw [hy.out, hm.out] at hW3
  have c30 : w3.cell? ⟨g, 0, none⟩ = some (.int .i64 (m : Int)) := hW3.at_ 0
  clear hi hz0 hz1 hz2' ho0 hg0 hb2 hW2 hW3 hz2
  go_wp2_with fail
  clear c1 hmk
  go_loopw [4, 5, 23] (fun u x v wr => ∃ (k : Nat), v = .int .i64 k ∧ k ≤ m ∧ Hid (wr.ownsRow w1.heap.size 5 1 u (s.first k).length (ints .u8 (s.first k))) ∧ Hid (Below w1.heap.size w1 wr)) (fun _ _ v _ => m - (intOf v).toNat)
  case atStart => exact ⟨0, rfl, Nat.zero_le _, HO3, HB3⟩
  case round =>
    obtain ⟨k, rfl, hk, HO, HB⟩ := hrel
    obtain ⟨Au, cu, rfl⟩ := own_shape HO.out
    by_cases hlt : k < m
    · have hA := HA.out wr HB.out
      have c2 : wr.cell? ⟨g, 2, none⟩ = some (.map (some mb)) := hA.whole.at_ 2
      have hlk := hA.map.look (T := 101) Try.underlying3 Try.underlying101 (look46 wr) (i := k) (by omega)
      have HE := Lib.hid (hA.el k (by omega)).1
      obtain ⟨vv, hvv⟩ : ∃ vv, Hid ((f k).getD nilB = vv) := ⟨_, Lib.hid rfl⟩
      rw [hvv.out] at hlk HE
      obtain ⟨Ae, ce, rfl⟩ := own_shape HE.out
      have HSees := Lib.hid (Sees.of_own HE.out)
      have hnull := own_nil HE.out
      have hl1 := HFL.out k
      have hl2 := HAL.out k
      have hl3 : k * y ≤ 65535 * 1000000 := Nat.mul_le_mul (by omega) hs
      have hl4 : (s.first k).length + (s.at_ k).length ≤ 1000000001001 := by omega
      have HN : Hid ((s.first k).length + (s.at_ k).length = (s.first (k + 1)).length ∧ ints .u8 (s.first k) ++ ints .u8 (s.at_ k) = ints .u8 (s.first (k + 1))) := Lib.hid (by
        rw [HFS.out]; exact ⟨by simp, by simp [ints]⟩)
      have Hnull := Lib.hid hnull
      have HZ : Hid (w1.heap.size ≤ wr.heap.size) := Lib.hid HB.out.size
      clear hA hl1 hl2 hl3 hnull
      go_wp2_with (at_builtin; refine wpList_append_row byteT _ _ rfl rfl w1.heap.size _ _ _ rfl HO.out (s.at_ k).length ce rfl rfl Hnull.out HSees.out hl4 HZ.out ?_; intro v' w' ho' hg'; refine held_in ?_)
      have HO' : Hid (w'.ownsRow w1.heap.size 5 1 v' (s.first (k + 1)).length (ints .u8 (s.first (k + 1)))) := Lib.hid (by rw [← HN.out.1, ← HN.out.2]; exact ho')
      have HB' : Hid (Below w1.heap.size w1 w') := Lib.hid (HB.out.grown hg' HZ.out (fun k hk => (HO.out.lt k hk).1))
      clear ho' hg' hlk c2
      refine held_out ?_
      go_wp2_with fail
      go_roundw
      case rel => exact ⟨k + 1, by go_num, by omega, HO', HB'⟩
      case measure => simp [intOf]; omega
    · obtain rfl : k = m := by omega
      go_wp2_with fail
      go_ret2
      refine ⟨.slice Au (s.first k).length cu, rfl, ?_, HB.out⟩
      rw [← HFA.out]
      exact HO.out
end Go.Proofs.Ytbhdgfpaoghnbaa
