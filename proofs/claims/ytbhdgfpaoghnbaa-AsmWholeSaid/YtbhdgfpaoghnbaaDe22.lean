/- Words for layer 22's laws: the deeds, as an argument; both tables side by side; one alone. -/
import Derived.Test.YtbhdgfpaoghnbaaFc22
import Derived.Test.YtbhdgfpaoghnbaaPM
import Derived.Test.YtbhdgfpaoghnbaaGv
namespace Go.Proofs.Ytbhdgfpaoghnbaa
open Go.RowKit
set_option linter.unusedVariables false
set_option maxRecDepth 100000
set_option linter.unusedSimpArgs false

/-- a deed -/
structure De where
  tick : Bool
  sender : Nat
  g : Gd
  body : Value
def De.gram (x : De) : Value := .agg #[.int .u8 (x.g.kind : Int), .int .u8 (x.g.version : Int), .int .u32 (x.g.epoch : Int), .int .u32 (x.g.id : Int), .int .u16 (x.g.index : Int), .int .u16 (x.g.count : Int), x.body]
/-- .. as its nine cells -/
def fDe (x : De) : List Value := [.bool x.tick, .int .u16 (x.sender : Int), .int .u8 (x.g.kind : Int), .int .u8 (x.g.version : Int), .int .u32 (x.g.epoch : Int), .int .u32 (x.g.id : Int), .int .u16 (x.g.index : Int), .int .u16 (x.g.count : Int), x.body]
theorem fDe_len : ∀ x, (fDe x).length = 9 := fun _ => rfl
structure DeOk (w : World) (x : De) : Prop where
  sender : x.sender < 65536
  ok : x.g.Ok
  piece : Piece w w.heap.size x.body x.g.body
theorem DeOk.gv {w : World} {x : De} (h : DeOk w x) : Gv w w.heap.size x.g x.gram := by
  obtain ⟨A, c, e, hp⟩ := h.piece
  have hp' := h.piece
  unfold De.gram
  rw [e] at hp' ⊢
  exact ⟨⟨A, c, rfl, hp'⟩, h.ok⟩
/-- how many bytes they have -/
def deSum (l : List De) : Nat := (l.map (fun x => x.g.body.length)).sum
def deMin (m : Nat) (l : List De) : Nat := (l.map (fun x => min x.g.body.length m)).sum
theorem deMin_sum {m n : Nat} (hm : n < m) : ∀ (l : List De), deMin m l ≤ n → deSum l = deMin m l
  | [], _ => rfl
  | x :: l, h => by
    unfold deMin deSum at *
    rw [List.map_cons, List.sum_cons] at h ⊢
    have := deMin_sum hm l (by unfold deMin; omega)
    unfold deMin deSum at this
    rw [List.map_cons, List.sum_cons, this]
    omega
theorem deMin_take (m : Nat) (l : List De) (k : Nat) (h : k < l.length) : deMin m (l.take (k + 1)) = deMin m (l.take k) + min l[k].g.body.length m := by
  unfold deMin
  rw [List.take_succ_eq_append_getElem h, List.map_append, List.sum_append]
  simp
theorem deMin_le (m : Nat) : ∀ (l : List De), deMin m l ≤ l.length * m
  | [] => by simp [deMin]
  | x :: l => by
    have := deMin_le m l
    unfold deMin at *
    rw [List.map_cons, List.sum_cons, List.length_cons, Nat.add_mul]
    omega
theorem deSum_mem {l : List De} {x : De} (h : x ∈ l) : x.g.body.length ≤ deSum l := by
  induction l with
  | nil => cases h
  | cons y l ih =>
    unfold deSum at *
    rw [List.map_cons, List.sum_cons]
    rcases List.mem_cons.1 h with rfl | h
    · omega
    · have := ih h; omega
/-- an answer that says more where it is false -/
def DePost (good : Prop) (e : Ending) : Prop := ∃ b, e = .returned (.bool b) ∧ (b = false → good)
section
variable {w W W1 : World} {F G : Nat → Prop} {p x : Nat} {m : Tm.Lim} {s t s' : List Tm.One}
end
section
variable {w W : World} {p x : Nat} {m : Tm.Lim} {s t : List Tm.One}
end
/-- one table of the program's -/
def Lone22 (w : World) (p : Nat) (m : Tm.Lim) (s : List Tm.One) (W : World) : Prop := ∃ F, Tt W F p m s ∧ (∀ b, F b → w.heap.size ≤ b) ∧ Below w.heap.size w W
section
variable {w W W1 : World} {p : Nat} {m : Tm.Lim} {s : List Tm.One}
theorem Lone22.stay (h : Lone22 w p m s W) (hb : Below W.heap.size W W1) : Lone22 w p m s W1 := by
  obtain ⟨F, h1, h2, h3⟩ := h
  exact ⟨F, h1.keep (fun b hb' => hb.block b (h1.lt b hb')), h2, h3.trans (hb.mono h3.size)⟩
theorem Lone22.below (h : Lone22 w p m s W) : Below w.heap.size w W := by obtain ⟨F, h1, h2, h3⟩ := h; exact h3
theorem Lone22.new {F : Nat → Prop} (h : Tt W F p m s) (hF : ∀ b, F b → w.heap.size ≤ b) (hb : Below w.heap.size w W) : Lone22 w p m s W := ⟨F, h, hF, hb⟩
theorem Piece.foot {F : Nat → Prop} {w W : World} {B b off n c : Nat} {l : List Nat} (h : Piece w B (.slice (some ⟨b, off, none⟩) n c) l) (hF : ¬ F b) (hf : Foot F w W) : Piece W B (.slice (some ⟨b, off, none⟩) n c) l := by
  obtain ⟨A, c', e, hs, k⟩ := h
  injection e with e1 e2 e3
  subst e1
  refine ⟨_, c', by rw [e2, e3], fun hl => ?_, k⟩
  obtain ⟨b', off', e1, h2, hc⟩ := hs hl
  cases e1
  exact ⟨_, _, rfl, h2, fun j hj => by
    have h3 := hc j hj
    have hlt := cell_lt h3
    unfold World.cell? at h3 ⊢
    rw [hf.block b hlt hF]
    exact h3⟩
theorem tput_lone (h : Lone22 w p m s W) (hm : m.Ok) (hok : Tm.Ok m s) (sn : Nat) (hsn : sn < 65536) {v : Value} {g : Gd} (H : Gv w w.heap.size g v) (hl : g.body.length ≤ 1000000) :
    Calls Try.prog 18 #[.pointer (some ⟨p, 0, none⟩), .int .u16 (sn : Int), v] W fun e w' => ∃ u, e = .returned (.tuple #[u, .bool (Tm.put m s sn g).ok, .int .i64 ((Tm.put m s sn g).err : Int)]) ∧ Piece w' w'.heap.size u (Tm.put m s sn g).told ∧ Lone22 w p m (Tm.put m s sn g).l w' := by
  obtain ⟨F, k1, k2, k3⟩ := h
  exact (tput22_any k1 hm hok sn hsn (H.below k3) (fun _ hf => H.below (k3.trans (hf.below k2 k3.size))) hl).mono fun e w' ⟨u, F', e1, e2, e3, e5, e6, e4⟩ => ⟨u, e1, own_piece e2, _, e3.more e5 (Wide.lt k1.lt e4.size), Wide.low k2 k3.size, k3.trans (e4.below k2 k3.size)⟩
/-- .. a datagram whose body is new -/
theorem tput_new (h : Lone22 w p m s W) (hm : m.Ok) (hok : Tm.Ok m s) (sn : Nat) (hsn : sn < 65536) (g : Gd) (hg : g.Ok) (n : Nat) (hn : g.body.length = n) (hl : n ≤ 1000) (cs : Array Value) (hcs : cs.toList = ints .u8 g.body) (fr : Nat × Nat) :
    Calls Try.prog 18 #[.pointer (some ⟨p, 0, none⟩), .int .u16 (sn : Int), .agg #[.int .u8 (g.kind : Int), .int .u8 (g.version : Int), .int .u32 (g.epoch : Int), .int .u32 (g.id : Int), .int .u16 (g.index : Int), .int .u16 (g.count : Int), .slice (some ⟨W.heap.size, 0, none⟩) n n]] (W.alloc (.cells cs 5 fr)) fun e w' => ∃ u, e = .returned (.tuple #[u, .bool (Tm.put m s sn g).ok, .int .i64 ((Tm.put m s sn g).err : Int)]) ∧ Piece w' w'.heap.size u (Tm.put m s sn g).told ∧ Lone22 w p m (Tm.put m s sn g).l w' := by
  subst hn
  have hb : Below W.heap.size W (W.alloc (.cells cs 5 fr)) := (Below.refl _ _).alloc (Nat.le_refl _) _
  obtain ⟨F, k1, k2, k3⟩ := h
  have hp := piece_litf W cs g.body _ fr rfl hcs hl
  have hF : ¬ F W.heap.size := fun q => Nat.lt_irrefl _ (k1.lt _ q)
  have k1' := k1.keep (w' := W.alloc (.cells cs 5 fr)) (fun b hb' => hb.block b (k1.lt b hb'))
  have k3' := k3.trans (hb.mono k3.size)
  exact (tput22_any k1' hm hok sn hsn (⟨⟨_, _, rfl, hp⟩, hg⟩ : Gv _ _ g _) (fun _ hf => ⟨⟨_, _, rfl, hp.foot hF hf⟩, hg⟩) (by omega)).mono fun e w' ⟨u, F', e1, e2, e3, e5, e6, e4⟩ => ⟨u, e1, own_piece e2, _, e3.more e5 (Wide.lt k1'.lt e4.size), Wide.low k2 k3'.size, k3'.trans (e4.below k2 k3'.size)⟩
theorem ttick_lone (h : Lone22 w p m s W) (hm : m.Ok) (hok : Tm.Ok m s) :
    Calls Try.prog 16 #[.pointer (some ⟨p, 0, none⟩)] W fun e w' => e = .returned (.tuple #[]) ∧ Lone22 w p m (Tm.tick m s) w' := by
  obtain ⟨F, k1, k2, k3⟩ := h
  exact (ttick22_any k1 hm hok).mono fun e w' ⟨e1, e3, e4⟩ => ⟨e1, _, e3, Wide.low k2 k3.size, k3.trans (e4.below k2 k3.size)⟩
theorem theld_lone (h : Lone22 w p m s W) (hm : m.Ok) (hok : Tm.Ok m s) :
    Calls Try.prog 28 #[.pointer (some ⟨p, 0, none⟩)] W fun e w' => e = .returned (.int .i64 (Tm.held s : Int)) ∧ Below W.heap.size W w' := by
  obtain ⟨F, h, _⟩ := h
  exact theld22_any h hm hok
end
end Go.Proofs.Ytbhdgfpaoghnbaa
