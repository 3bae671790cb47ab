/- Texts Rget9, Sx9, Rd9w, Awake9, in one. -/
import Derived.Test.YtjkjhnpemhlbpaaDoorPD
import Derived.Test.YtjkjhnpemhlbpaaDoorPI
import Derived.Test.YtjkjhnpemhlbpaaDoorPA
import Derived.Test.YtjkjhnpemhlbpaaDoorRright8
import Derived.Test.YtjkjhnpemhlbpaaDoorPG
import Derived.Test.YtjkjhnpemhlbpaaDoorPF
/- Contracts of the reference's functions of layer 9 that read: counts, peers, texts. -/
namespace Go.Proofs.YtjkjhnpemhlbpaaDoor
open Go.RowKit
set_option linter.unusedVariables false
set_option maxRecDepth 100000
open Gm

theorem Fm.str_long {s : Int} {most : Nat} {l : List Nat} {e : Int} {n : Nat} {l1 : List Nat} {e1 : Int} (hq : Bm.rfix l e s = (n, l1, e1)) (h : most < n) (k : Int) : Fm.str s most l e = Bm.take l1 (Bm.fail e1 5) k := by
  have hne : Bm.fail e1 5 ≠ 0 := by unfold Bm.fail; split <;> simp_all
  unfold Fm.str Fm.count
  rw [hq]
  simp only
  rw [if_pos h]
  simp only
  rw [Bm.take_err hne, Bm.take_err hne]
theorem Fm.str_short {s : Int} {most : Nat} {l : List Nat} {e : Int} {n : Nat} {l1 : List Nat} {e1 : Int} (hq : Bm.rfix l e s = (n, l1, e1)) (h : ¬ most < n) : Fm.str s most l e = Bm.take l1 e1 (n : Int) := by
  unfold Fm.str Fm.count
  rw [hq]
  simp only
  rw [if_neg h]

theorem Cu.new {w w' : World} {B h g : Nat} {l : List Nat} {e : Int} (H : Cu w B h l e) (hg : h < g) (k : Only g w w') : Cu w' B h l e := H.only k (by have := H.base; omega) (by omega)
theorem Cu.newCell {w : World} {B h b : Nat} {l : List Nat} {e : Int} (H : Cu w B h l e) (hb : h < b) (i : Nat) (u : Value) : Cu (w.setCell ⟨b, i, none⟩ u) B h l e := H.new hb ((Only.refl b w).setCell i u)

section
variable {P : Program} {T E : TypeId} {z : Value} {bytes : Nat} {α : Type} {f : α → Value × Value}
theorem step_append_elem2 (hT : ElemT2 P T E z bytes) (hf : ∀ x, (f x).1.oneCell' = true ∧ (f x).2.oneCell' = true) {ops : Array Oper} {o : Oper} {a : Act} {wr : World} {K : Act → World → Prop} {Q : Exit → Act → World → Prop} {F : Prop} {u0 u1 : Value} (s x : Operand) (hgd : o.guard = none)
    (ho : o.op = .call { callee := .builtin .append, args := #[s, x], argTypes := #[T, T] }) (base : Nat) (v : Value) (n : Nat) (xs : List Value) (p : α) (hp : f p = (u0, u1)) (hs : a.eval s = v) (hx : a.eval x = .slice (some ⟨wr.heap.size, 0, none⟩) 1 1)
    (hown : wr.ownsRow base E 2 v n xs) (hn : n ≤ 1000000001000) (hbase : base ≤ wr.heap.size)
    (h : ∀ v' w', w'.ownsRow base E 2 v' (n + 1) (xs ++ two f [p]) → (wr.alloc (.cells #[u0, u1] E)).grownBy w' v.ownBlock → K (a.put o.dst v') w') : if Region.wanted o (yielded ops a.tmps) = true then Oper.wp P o a (wr.alloc (.cells #[u0, u1] E)) K Q else F := by
  obtain ⟨rfl, rfl⟩ : u0 = (f p).1 ∧ u1 = (f p).2 := by rw [hp]; exact ⟨rfl, rfl⟩
  have hw : Region.wanted o (yielded ops a.tmps) = true := by simp [Region.wanted, hgd]
  rw [if_pos hw]
  obtain ⟨v', w', hr, h2, h3⟩ := run_append_elem2 hT hf (wr := wr) o.type base v n xs p hown hn hbase
  unfold Oper.wp execOp
  simp only [ho, resolve, invoke, builtin, Sem.run_bind, Sem.run_pure, Result.andThen_ok, List.map_toArray, List.map_cons, List.map_nil, hs, hx, hr]
  exact h v' w' h2 h3
end
end Go.Proofs.YtjkjhnpemhlbpaaDoor
/- A message that the reference reads, field by field, beside its reader: the values of its lists are named. -/
namespace Go.Proofs.YtjkjhnpemhlbpaaDoor
open Go.RowKit
set_option linter.unusedVariables false
set_option maxRecDepth 100000
open Gm

/-- the reader in block r, the message in block g with the lists vp and vq -/
structure Sx (w0 : World) (r g : Nat) (m : Ms) (vp vq : Value) (l : List Nat) (e : Int) (w : World) : Prop where
  rd : Cu w r r l e
  bx : Bx w g m vp vq
  peers : w.ownsRow (g + 1) 26 2 vp m.peers.length (two fPeer m.peers)
  pairs : w.ownsRow (g + 1) 43 2 vq m.pairs.length (two fPair m.pairs)
  but : But2 r g w0 w
  lt : r < g
  top : w0.heap.size ≤ g + 1
section
variable {w w' w0 w1 w2 : World} {g r : Nat} {m m' : Ms} {vp vq v' : Value} {l l1 : List Nat} {e e1 : Int} {o : Obj}
theorem Sx.read (h : Sx w0 r g m vp vq l e w) (hr : Cu w1 r r l1 e1) (ho : Only r w w1) : Sx w0 r g m vp vq l1 e1 w1 :=
  ⟨hr, Whole.only h.bx ho (by have := h.lt; omega), own2_only h.peers ho (by have := h.lt; omega), own2_only h.pairs ho (by have := h.lt; omega), h.but.trans (ho.left g), h.lt, h.top⟩
theorem Sx.below (h : Sx w0 r g m vp vq l e w) (hb : Below w.heap.size w w1) : Sx w0 r g m vp vq l e w1 :=
  ⟨h.rd.below hb h.rd.lt, h.bx.below hb (Whole.lt h.bx), own2_below h.peers hb, own2_below h.pairs hb, h.but.trans (But2.of_below hb), h.lt, h.top⟩
theorem Sx.glt (h : Sx w0 r g m vp vq l e w) : g < w.heap.size := Whole.lt h.bx
theorem Sx.put (h : Sx w0 r g m vp vq l e w) {i : Nat} {u : Value} (hm : Bx (w.setCell ⟨g, i, none⟩ u) g m' vp vq) (hp : m'.peers = m.peers) (hq : m'.pairs = m.pairs) : Sx w0 r g m' vp vq l e (w.setCell ⟨g, i, none⟩ u) :=
  ⟨h.rd.newCell h.lt i u, hm, by rw [hp]; exact own_far h.peers (by omega) _, by rw [hq]; exact own_far h.pairs (by omega) _, h.but.trans (((Only.refl g w).setCell i u).right r), h.lt, h.top⟩
theorem Sx.setRid (h : Sx w0 r g m vp vq l e w) (x : Nat) : Sx w0 r g { m with rid := x } vp vq l e (w.setCell ⟨g, 1, none⟩ (.int .u32 (x : Int))) := h.put (h.bx.put 1 _) rfl rfl
theorem Sx.setCode (h : Sx w0 r g m vp vq l e w) (x : Nat) : Sx w0 r g { m with code := x } vp vq l e (w.setCell ⟨g, 2, none⟩ (.int .u8 (x : Int))) := h.put (h.bx.put 2 _) rfl rfl
theorem Sx.setHas (h : Sx w0 r g m vp vq l e w) (x : Bool) : Sx w0 r g { m with has := x } vp vq l e (w.setCell ⟨g, 3, none⟩ (.bool x)) := h.put (h.bx.put 3 _) rfl rfl
theorem Sx.setId (h : Sx w0 r g m vp vq l e w) (x : Nat) : Sx w0 r g { m with id := x } vp vq l e (w.setCell ⟨g, 4, none⟩ (.int .u64 (x : Int))) := h.put (h.bx.put 4 _) rfl rfl
theorem Sx.setKey (h : Sx w0 r g m vp vq l e w) (x : ByteArray) : Sx w0 r g { m with key := x } vp vq l e (w.setCell ⟨g, 5, none⟩ (.string x)) := h.put (h.bx.put 5 _) rfl rfl
theorem Sx.setVal (h : Sx w0 r g m vp vq l e w) (x : ByteArray) : Sx w0 r g { m with val := x } vp vq l e (w.setCell ⟨g, 6, none⟩ (.string x)) := h.put (h.bx.put 6 _) rfl rfl
theorem Sx.setPid (h : Sx w0 r g m vp vq l e w) (x : Nat) : Sx w0 r g { m with pid := x } vp vq l e (w.setCell ⟨g, 7, none⟩ (.int .u64 (x : Int))) := h.put (h.bx.put 7 _) rfl rfl
theorem Sx.setPad (h : Sx w0 r g m vp vq l e w) (x : Nat) : Sx w0 r g { m with pad := x } vp vq l e (w.setCell ⟨g, 8, none⟩ (.int .u16 (x : Int))) := h.put (h.bx.put 8 _) rfl rfl
/-- behind an append to the list, ahead of its store -/
theorem Sx.growPeers (h : Sx w0 r g m vp (.slice none 0 0) l e w) (hn : m.pairs = []) (ps : List (Nat × Nat)) (hg : (w.alloc o).grownBy w2 (vp).ownBlock) (ho : w2.ownsRow (g + 1) 26 2 v' ps.length (two fPeer ps)) :
    (w2.cell? ⟨g, 9, none⟩ = some vp ∧ w2.frozen? ⟨g, 9, none⟩ = false) ∧ Sx w0 r g { m with peers := ps } v' (.slice none 0 0) l e (w2.setCell ⟨g, 9, none⟩ v') := by
  have hrow : ∀ k, (vp).ownBlock = some k → g < k := fun k hk => by have := own_lt h.peers k hk; omega
  have hb : Below (g + 1) w w2 := Below.new o hg hrow h.glt
  have hbx : Bx w2 g m vp (.slice none 0 0) := h.bx.below hb (by omega)
  have hrd : Cu w2 r r l e := h.rd.below hb (by have := h.lt; omega)
  have hbut : But2 r g w0 w2 := ⟨hb.os.trans h.but.os, hb.tape.trans h.but.tape, hb.output.trans h.but.output, Nat.le_trans h.but.size hb.size, fun i hi h1 h2 => (hb.block i (by have := h.top; omega)).trans (h.but.block i hi h1 h2)⟩
  refine ⟨⟨hbx.at_ 9, hbx.free 9⟩, hrd.newCell h.lt _ _, hbx.put 9 v', ?_, ?_, hbut.trans (((Only.refl g w2).setCell 9 v').right r), h.lt, h.top⟩
  · exact own_far ho (by omega) _
  · show World.ownsRow _ _ _ _ _ m.pairs.length (two fPair m.pairs); rw [hn]; exact World.ownsRow_nil _ _ _ _
/-- behind an append to the list, ahead of its store -/
theorem Sx.growPairs (h : Sx w0 r g m (.slice none 0 0) vq l e w) (hn : m.peers = []) (ps : List (ByteArray × ByteArray)) (hg : (w.alloc o).grownBy w2 (vq).ownBlock) (ho : w2.ownsRow (g + 1) 43 2 v' ps.length (two fPair ps)) :
    (w2.cell? ⟨g, 10, none⟩ = some vq ∧ w2.frozen? ⟨g, 10, none⟩ = false) ∧ Sx w0 r g { m with pairs := ps } (.slice none 0 0) v' l e (w2.setCell ⟨g, 10, none⟩ v') := by
  have hrow : ∀ k, (vq).ownBlock = some k → g < k := fun k hk => by have := own_lt h.pairs k hk; omega
  have hb : Below (g + 1) w w2 := Below.new o hg hrow h.glt
  have hbx : Bx w2 g m (.slice none 0 0) vq := h.bx.below hb (by omega)
  have hrd : Cu w2 r r l e := h.rd.below hb (by have := h.lt; omega)
  have hbut : But2 r g w0 w2 := ⟨hb.os.trans h.but.os, hb.tape.trans h.but.tape, hb.output.trans h.but.output, Nat.le_trans h.but.size hb.size, fun i hi h1 h2 => (hb.block i (by have := h.top; omega)).trans (h.but.block i hi h1 h2)⟩
  refine ⟨⟨hbx.at_ 10, hbx.free 10⟩, hrd.newCell h.lt _ _, hbx.put 10 v', ?_, ?_, hbut.trans (((Only.refl g w2).setCell 10 v').right r), h.lt, h.top⟩
  · show World.ownsRow _ _ _ _ _ m.peers.length (two fPeer m.peers); rw [hn]; exact World.ownsRow_nil _ _ _ _
  · exact own_far ho (by omega) _
end
end Go.Proofs.YtjkjhnpemhlbpaaDoor
/- Contract of the reference's Dec of layer 9: what all kinds share. -/
namespace Go.Proofs.YtjkjhnpemhlbpaaDoor
open Go.RowKit
set_option linter.unusedVariables false
set_option maxRecDepth 100000
set_option linter.unusedSimpArgs false
open Gm

theorem cu_new {w w0 : World} {y c n : Nat} {A : Option Addr} {p : List Nat} (hy : w0.heap.size = y) (hn : p.length = n) (hs : Sees .u8 w0 y A p) (hb : ∀ x ∈ p, x < 256) (hc : n ≤ c) (hm : c ≤ maxLen) (hnull : A = none → c = 0) (hp : n ≤ 1000000000) (hw : w0.alloc (.cells #[.slice A n c, .int .i64 0, .int .i64 0] 59) = w) : Cu w y y p 0 := by
  subst hn hw
  have h := Whole.made w0 59 #[.slice A p.length c, .int .i64 0, .int .i64 0]
  rw [hy] at h
  exact ⟨A, c, p, 0, ⟨h, hs.below ((Below.refl y w0).alloc (by omega) _), Nat.le_refl _, hb, hc, hm, hnull, by omega, Nat.zero_le _⟩, rfl⟩
theorem Sx.bald {w2 w3 : World} {r g k : Nat} {l : List Nat} {e : Int} (hr : Cu w2 r r l e) (hrg : r < g) (hb : Below g w2 w3) (hm : Bx w3 g (Fm.bald k 0) (.slice none 0 0) (.slice none 0 0)) (hs : w3.heap.size = g + 1) : Sx w3 r g (Fm.bald k 0) (.slice none 0 0) (.slice none 0 0) l e w3 :=
  ⟨hr.below hb hrg, hm, World.ownsRow_nil _ _ _ _, World.ownsRow_nil _ _ _ _, But2.refl _ _ _, hrg, by omega⟩
theorem Sx.ends {w0 w : World} {r g : Nat} {m : Ms} {vp vq : Value} {l : List Nat} {e : Int} (h : Sx w0 r g m vp vq l e w) : ∃ Ap cp Aq cq, Bx w g m (.slice Ap m.peers.length cp) (.slice Aq m.pairs.length cq) ∧ w.ownsRow (g + 1) 26 2 (.slice Ap m.peers.length cp) m.peers.length (two fPeer m.peers) ∧ w.ownsRow (g + 1) 43 2 (.slice Aq m.pairs.length cq) m.pairs.length (two fPair m.pairs) := by
  obtain ⟨Ap, cp, rfl⟩ := own_shape h.peers
  obtain ⟨Aq, cq, rfl⟩ := own_shape h.pairs
  exact ⟨Ap, cp, Aq, cq, h.bx, h.peers, h.pairs⟩
theorem var_bx (w : World) (k : Nat) (z : Int) (hz : z = (k : Int)) : ∃ g w0 w1, w.heap.size = g ∧ w.alloc (.cells #[.int .i64 0, .int .u32 0, .int .u8 0, .bool false, .int .u64 0, .string ⟨#[]⟩, .string ⟨#[]⟩, .int .u64 0, .int .u16 0, .slice none 0 0, .slice none 0 0] 30) = w0 ∧ Whole w0 g 30 #[.int .i64 0, .int .u32 0, .int .u8 0, .bool false, .int .u64 0, .string ⟨#[]⟩, .string ⟨#[]⟩, .int .u64 0, .int .u16 0, .slice none 0 0, .slice none 0 0] ∧
    w0.setRow g #[.int .i64 z, .int .u32 0, .int .u8 0, .bool false, .int .u64 0, .string ⟨#[]⟩, .string ⟨#[]⟩, .int .u64 0, .int .u16 0, .slice none 0 0, .slice none 0 0] = w1 ∧ Bx w1 g (Fm.bald k 0) (.slice none 0 0) (.slice none 0 0) ∧ w1.heap.size = g + 1 ∧ Below g w w1 := by
  subst hz
  have h0 := Whole.made w 30 #[.int .i64 0, .int .u32 0, .int .u8 0, .bool false, .int .u64 0, .string ⟨#[]⟩, .string ⟨#[]⟩, .int .u64 0, .int .u16 0, .slice none 0 0, .slice none 0 0]
  refine ⟨_, _, _, rfl, rfl, h0, rfl, h0.row _, by rw [size_setRow]; simp, ?_⟩
  exact below_row ((Below.refl _ _).alloc (Nat.le_refl _) _) (Nat.le_refl _) _

theorem Fm.read_few {p : List Nat} (hb : Fm.Bytes p) (h : Fm.fin p = 0) : (Fm.read p).1.peers.length ≤ 1000000000 ∧ (Fm.read p).1.pairs.length ≤ 1000000000 := by
  have key : ∀ k r l e, Fm.Bytes l → (Fm.own k r l e).1.peers.length ≤ 16 ∧ (Fm.own k r l e).1.pairs.length ≤ 8 := by
    intro k r l e _
    have hP : ∀ l e, (Fm.peers l e).1.length ≤ 16 := fun l e => by unfold Fm.peers; rw [Fm.many_length]; exact Fm.count_lt (k := 1) l e 16 1
    have hQ : ∀ l e, (Fm.pairs l e).1.length ≤ 8 := fun l e => by unfold Fm.pairs; rw [Fm.many_length]; exact Fm.count_lt (k := 1) l e 8 1
    unfold Fm.own
    repeat' split
    all_goals first | exact ⟨hP _ _, Nat.zero_le _⟩ | exact ⟨Nat.zero_le _, hQ _ _⟩ | exact ⟨Nat.zero_le _, Nat.zero_le _⟩
  have := key (Bm.rfix p 0 1).1 ((Fm.ridR p).1 % 4294967296) (Fm.ridR p).2.1 (Fm.ridR p).2.2 ((hb.suf (Fm.rfix_suf _ _ _)).suf (Fm.rfix_suf _ _ _))
  have h1 : (Fm.read p).1.peers.length ≤ 16 ∧ (Fm.read p).1.pairs.length ≤ 8 := this
  omega
theorem Fm.own_err (k r : Nat) (l : List Nat) (e : Int) (hb : Fm.Bytes l) (he : e ≠ 0) : (Fm.own k r l e).2.2 ≠ 0 := fun h => he (Fm.own_sound k r l e hb h).1
theorem Fm.fin_known {p : List Nat} (hb : Fm.Bytes p) (h : Fm.fin p = 0) : known ((Bm.rfix p 0 1).1 : Int) = true := by
  obtain ⟨_, he⟩ := Fm.fin_zero h
  have s1 := Fm.rfix_suf p 0 1
  have s4 := Fm.rfix_suf (Bm.rfix p 0 1).2.1 (Fm.kindE p) 4
  have h1 := (Fm.own_sound (Bm.rfix p 0 1).1 ((Fm.ridR p).1 % 4294967296) (Fm.ridR p).2.1 (Fm.ridR p).2.2 ((hb.suf s1).suf s4) he).1
  have h6 := ((Fm.good_fix 4 4 rfl (by omega) (by omega)).sound _ _ (hb.suf s1) h1).1
  exact (Fm.kindE_zero h6).1

end Go.Proofs.YtjkjhnpemhlbpaaDoor
/- Contract of layer 9's law's awake. -/
namespace Go.Proofs.YtjkjhnpemhlbpaaDoor
open Go.RowKit
set_option linter.unusedVariables false
set_option maxRecDepth 100000
open Gm

/-- a message that is stored in a new variable -/
theorem var9 {w : World} {B : Nat} {m : Ms} {v : Value} (H : Mv w B m v) : ∃ g Ap cp Aq cq w0 w1, v = .agg #[.int .i64 m.kind, .int .u32 (m.rid : Int), .int .u8 (m.code : Int), .bool m.has, .int .u64 (m.id : Int), .string m.key, .string m.val, .int .u64 (m.pid : Int), .int .u16 (m.pad : Int), .slice Ap m.peers.length cp, .slice Aq m.pairs.length cq] ∧ w.heap.size = g ∧ w.alloc (.cells #[.int .i64 0, .int .u32 0, .int .u8 0, .bool false, .int .u64 0, .string ⟨#[]⟩, .string ⟨#[]⟩, .int .u64 0, .int .u16 0, .slice none 0 0, .slice none 0 0] 30) = w0 ∧ Whole w0 g 30 #[.int .i64 0, .int .u32 0, .int .u8 0, .bool false, .int .u64 0, .string ⟨#[]⟩, .string ⟨#[]⟩, .int .u64 0, .int .u16 0, .slice none 0 0, .slice none 0 0] ∧
    w0.setRow g #[.int .i64 m.kind, .int .u32 (m.rid : Int), .int .u8 (m.code : Int), .bool m.has, .int .u64 (m.id : Int), .string m.key, .string m.val, .int .u64 (m.pid : Int), .int .u16 (m.pad : Int), .slice Ap m.peers.length cp, .slice Aq m.pairs.length cq] = w1 ∧ Box w1 g m (.slice Ap m.peers.length cp) (.slice Aq m.pairs.length cq) ∧ Below g w w1 ∧ w1.heap.size = g + 1 := by
  obtain ⟨g, vp, vq, w0, w1, h1, h2, h3, h4, h5, h6, h7, h8, _, _⟩ := var_msg H
  obtain ⟨Ap, cp, rfl, _⟩ := h6.peers.ex
  obtain ⟨Aq, cq, rfl, _⟩ := h6.pairs.ex
  exact ⟨g, Ap, cp, Aq, cq, w0, w1, h1, h2, h3, h4, h5, h6, h7, h8⟩
theorem piece_lit (w : World) (cs : Array Value) (l : List Nat) (n : Nat) (hn : l.length = n) (h : cs.toList = ints .u8 l) (hm : n ≤ 1000) : Piece (w.alloc (.cells cs 5)) (w.heap.size + 1) (.slice (some ⟨w.heap.size, 0, none⟩) n n) l := by
  subst hn
  exact ⟨_, _, rfl, sees_new _ l cs _ rfl h, (fun h => by cases h), Nat.le_refl _, (by unfold maxLen; omega)⟩
theorem row_piece {w : World} {a : Option Addr} {len cap : Nat} {l : List Nat} (R : Row .u8 w a len cap l) : Piece w w.heap.size (.slice a len cap) l ∧ l.length = len ∧ (∀ x ∈ l, x < 256) :=
  ⟨⟨a, cap, by rw [R.len_eq], R.sees, R.null, by rw [R.len_eq]; exact R.le, R.max⟩, R.len_eq, R.byte⟩

def ping : Ms := ⟨11, 1, 0, false, 0, ⟨#[]⟩, ⟨#[]⟩, 0, 0, [], []⟩
theorem ok_ping : Ok ping := ⟨by simp [ping], by simp [ping], by simp [ping], by simp [ping], by simp [ping, ByteArray.size], by simp [ping, ByteArray.size], by simp [ping], by simp [ping], fun p hp => (by cases hp), fun p hp => (by cases hp)⟩
theorem right_ping : right ping = 0 := by decide +kernel
theorem put_ping : Fm.put ping = [11, 0, 0, 0, 1] := by
  unfold Fm.put Fm.ownB
  decide +kernel
theorem enc_ping : Fm.enc ping = ([11, 0, 0, 0, 1], 0) := by rw [Fm.enc_good right_ping, put_ping]
theorem dec_ping : Fm.dec [11, 0, 0, 0, 1] = (ping, 0) := by rw [← put_ping]; exact Fm.dec_put ok_ping right_ping
theorem dec_short : Fm.dec [11, 0, 0, 0] = (Fm.zero, 2) := by
  have h : Fm.fin [11, 0, 0, 0] = 2 := by decide +kernel
  rw [Fm.dec_fin (by rw [h]; decide), h]
theorem dec_kind : Fm.dec [13, 0] = (Fm.zero, 9) := by
  have h : Fm.fin [13, 0] = 9 := by decide +kernel
  rw [Fm.dec_fin (by rw [h]; decide), h]
theorem mv_ping (w : World) : Mv w 0 ping (.agg #[.int .i64 11, .int .u32 1, .int .u8 0, .bool false, .int .u64 0, .string ⟨#[]⟩, .string ⟨#[]⟩, .int .u64 0, .int .u16 0, .slice none 0 0, .slice none 0 0]) :=
  ⟨⟨_, _, rfl, Sl.empty _ _, Sl.empty _ _⟩, ok_ping⟩

end Go.Proofs.YtjkjhnpemhlbpaaDoor
