/- The state of layer 13's reference while a message is made a tree. -/
import Derived.Test.YtldjdoebappkoaaGreatDoorRd13
import Derived.Test.YtldjdoebappkoaaGreatDoorLast
import Derived.Test.YtldjdoebappkoaaGreatDoorPK
import Derived.Test.YtldjdoebappkoaaGreatDoorTp12
import Derived.Test.YtldjdoebappkoaaGreatDoorPE
namespace Go.Proofs.YtldjdoebappkoaaGreatDoor
open Go.RowKit
set_option linter.unusedVariables false
set_option maxRecDepth 100000
set_option linter.unusedSimpArgs false
open Gm

/-- the message in block b, the answer (zero) in block r, the tree T in block g; all that the tree leads to lies behind block g -/
structure Tt (w0 : World) (b r g : Nat) (m : Ms) (vp vq : Value) (T : Tn) (vk vt : Value) (w : World) : Prop where
  box : Box w b m vp vq
  res : Whole w r 25 #[.int .i64 0, .int .i64 0, .string ⟨#[]⟩, .slice none 0 0, .slice none 0 0]
  tr : Whole w g 25 #[.int .i64 T.kind, .int .i64 T.n, .string T.s, vk, vt]
  tp : Tp w (fun x => g < x) T vk vt
  low : Below w0.heap.size w0 w
  lt : w0.heap.size ≤ b ∧ b < r ∧ r < g
section
variable {w0 : World} {b r g : Nat} {m : Ms} {vp vq : Value} {T T' : Tn} {vk vt vk' vt' : Value} {w w' : World}
theorem Tt.behind (H : Tt w0 b r g m vp vq T vk vt w) (hb : Below w.heap.size w w') : Tt w0 b r g m vp vq T vk vt w' :=
  ⟨H.box.kept hb, H.res.below hb H.res.lt, H.tr.below hb H.tr.lt, H.tp.keep (fun x p q => ⟨p, hb.block x q⟩), H.low.trans (hb.mono H.low.size), H.lt⟩
theorem Tt.drew (H : Tt w0 b r g m vp vq T vk vt w) : Tt w0 b r g m vp vq T vk vt w.drew := H.behind (Below.refl _ _).drew
theorem Tt.put (H : Tt w0 b r g m vp vq T vk vt w) (hx : Tp w (fun x => g < x) T' vk' vt') : Tt w0 b r g m vp vq T' vk' vt' (w.setRow g #[.int .i64 T'.kind, .int .i64 T'.n, .string T'.s, vk', vt']) := by
  have hlt := H.lt
  refine ⟨H.box.below (below_row (Below.refl g w) (Nat.le_refl _) _) (by omega), H.res.rowOther (by omega) _, H.tr.row _, hx.keep (fun x p q => ⟨p, setRow_other w g x _ (by omega)⟩), below_row H.low (by omega) _, hlt⟩
theorem Tt.shape (H : Tp w (fun x => g < x) T vk vt) : ∃ Ak ck At ct, vk = .slice Ak T.keys.length ck ∧ vt = .slice At T.kids.length ct := by
  cases H
  exact ⟨_, _, _, _, rfl, rfl⟩
/-- the tree's cells, and the message's -/
theorem Tt.cells (H : Tt w0 b r g m vp vq T vk vt w) : w.cell? ⟨g, 0, none⟩ = some (.int .i64 T.kind) ∧ w.cell? ⟨g, 1, none⟩ = some (.int .i64 T.n) ∧ w.cell? ⟨g, 2, none⟩ = some (.string T.s) ∧ w.cell? ⟨g, 3, none⟩ = some vk ∧ w.cell? ⟨g, 4, none⟩ = some vt :=
  ⟨H.tr.at_ 0, H.tr.at_ 1, H.tr.at_ 2, H.tr.at_ 3, H.tr.at_ 4⟩
end
/-- a step: the key is new, and its tree is put if q -/
structure Nx (T T' : Tn) (q : Bool) (k : ByteArray) (x : Tn) : Prop where
  no : q = false → T' = T
  yes : q = true → T.set k x = T'
  new : ¬ Tn.place T.keys k < T.keys.length
  fits : T.fits = true
  few : T.keys.length ≤ 10
theorem Nx.of {T : Tn} (q : Bool) (k : ByteArray) (x : Tn) (hf : T.fits = true) (hn : ¬ Tn.place T.keys k < T.keys.length) (hl : T.keys.length ≤ 10) : Nx T (Dm.put q k x T) q k x :=
  ⟨fun h => Dm.put_no h, fun h => (Dm.put_yes h).symm, hn, hf, hl⟩
section
variable {w0 : World} {b r g : Nat} {m : Ms} {vp vq : Value} {T T' : Tn} {vk vt : Value} {w : World} {q : Bool} {k : ByteArray}
/-- Set, asked from here -/
theorem Tt.set (H : Tt w0 b r g m vp vq T vk vt w) {x : Tn} {xk xq : Value} (hx : Tp w (fun y => g < y) x xk xq) (n : Nx T T' q k x) (hq : q = true) (hk : k.size ≤ 1000) :
    Calls Tryz.prog 59 #[.agg #[.int .i64 T.kind, .int .i64 T.n, .string T.s, vk, vt], .string k, .agg #[.int .i64 x.kind, .int .i64 x.n, .string x.s, xk, xq]] w fun e w' =>
      ∃ Ak ck At ct, e = .returned (.agg #[.int .i64 T'.kind, .int .i64 T'.n, .string T'.s, .slice Ak T'.keys.length ck, .slice At T'.kids.length ct]) ∧ Tt w0 b r g m vp vq T vk vt w' ∧ Tp w' (fun y => g < y) T' (.slice Ak T'.keys.length ck) (.slice At T'.kids.length ct) ∧ Below w.heap.size w w' := by
  have hf := n.few
  refine (rset11_at H.tp (by omega) (by have := (Tn.fits_eq n.fits).2; omega) k (by unfold maxLen; omega) hx n.fits n.new).mono ?_
  rintro e w' ⟨vk', vt', rfl, hp, hb⟩
  rw [n.yes hq] at hp ⊢
  have hgl := H.tr.lt
  have hp' : Tp w' (fun y => g < y) T' vk' vt' := hp.any (fun y hy => by rcases hy with h | h <;> omega)
  obtain ⟨Ak, ck, At, ct, rfl, rfl⟩ := Tt.shape hp'
  exact ⟨Ak, ck, At, ct, rfl, H.behind hb, hp', hb⟩
theorem Tt.leaf (H : Tt w0 b r g m vp vq T vk vt w) {kd i : Int} {s : ByteArray} (hkd : -9223372036854775808 ≤ kd ∧ kd ≤ 9223372036854775807) (hi : -9223372036854775808 ≤ i ∧ i ≤ 9223372036854775807) (hs : s.size ≤ maxLen) (n : Nx T T' q k (.mk kd i s [] [])) (hq : q = true) (hk : k.size ≤ 1000) :
    Calls Tryz.prog 59 #[.agg #[.int .i64 T.kind, .int .i64 T.n, .string T.s, vk, vt], .string k, .agg #[.int .i64 kd, .int .i64 i, .string s, .slice none 0 0, .slice none 0 0]] w fun e w' =>
      ∃ Ak ck At ct, e = .returned (.agg #[.int .i64 T'.kind, .int .i64 T'.n, .string T'.s, .slice Ak T'.keys.length ck, .slice At T'.kids.length ct]) ∧ Tt w0 b r g m vp vq T vk vt w' ∧ Tp w' (fun y => g < y) T' (.slice Ak T'.keys.length ck) (.slice At T'.kids.length ct) ∧ Below w.heap.size w w' :=
  H.set (x := .mk kd i s [] []) (Tp.leaf w _ hkd hi hs) n hq hk
end
theorem str_emp (s : ByteArray) : s.toList.isEmpty = decide (s = ⟨#[]⟩) := by
  have h := str_eq s ⟨#[]⟩
  rw [show (⟨#[]⟩ : ByteArray).toList = [] from ByteArray.toList_mk []] at h
  rw [← h]
  cases s.toList <;> rfl
theorem Lst.here {w : World} {h g : Nat} {kd : Int} {ks : List ByteArray} {L : List Tq} {vk vq : Value} {wr : World} (H : Lst w h g kd ks L vk vq wr) (hk : kd = 3 ∨ kd = 4) : Tp wr (fun b => g < b) (.mk kd 0 ⟨#[]⟩ ks (L.map (·.1))) vk vq := by
  refine Tp.of_own (base := g + 1) (L := L) (by show -9223372036854775808 ≤ kd ∧ kd ≤ 9223372036854775807; omega) (by show (-9223372036854775808 : Int) ≤ 0 ∧ (0 : Int) ≤ 9223372036854775807; omega) (by show (0 : Nat) ≤ maxLen; omega) H.keys H.sizes H.kids rfl (fun b hb => by omega) (fun x hx => ?_)
  exact (H.all x hx).any (fun b p => p.1)
theorem Box.peer_at {w : World} {b : Nat} {m : Ms} {A : Option Addr} {n c : Nat} {vq : Value} (H : Box w b m (.slice A n c) vq) {j : Nat} (hj : j < m.peers.length) {bp op : Nat} (hA : A = some ⟨bp, op, none⟩) :
    w.cell? ⟨bp, op + j * 2, none⟩ = some (fPeer m.peers[j]).1 ∧ w.cell? ⟨bp, op + j * 2 + 1, none⟩ = some (fPeer m.peers[j]).2 := by
  obtain ⟨A', c', e, h, _⟩ := H.peers.ex
  injection e with e1 e2 e3
  subst e1
  obtain ⟨b', o', e2, _, h1, h2⟩ := h.at_ hj
  rw [hA] at e2
  cases e2
  exact ⟨h1, h2⟩
theorem Box.pair_at {w : World} {b : Nat} {m : Ms} {A : Option Addr} {n c : Nat} {vp : Value} (H : Box w b m vp (.slice A n c)) {j : Nat} (hj : j < m.pairs.length) {bp op : Nat} (hA : A = some ⟨bp, op, none⟩) :
    w.cell? ⟨bp, op + j * 2, none⟩ = some (fPair m.pairs[j]).1 ∧ w.cell? ⟨bp, op + j * 2 + 1, none⟩ = some (fPair m.pairs[j]).2 := by
  obtain ⟨A', c', e, h, _⟩ := H.pairs.ex
  injection e with e1 e2 e3
  subst e1
  obtain ⟨b', o', e2, _, h1, h2⟩ := h.at_ hj
  rw [hA] at e2
  cases e2
  exact ⟨h1, h2⟩
theorem pos13 (n : Nat) : (!decide (n = 0)) = decide (0 < n) := by rw [Bool.eq_iff_iff]; simp; omega
theorem own_two13 (w : World) {z : Nat} (hz : w.heap.size = z) (cs : Array Value) {L : List Tq} (h : cs.toList = five L) (hL : L.length = 2 := by rfl) : (w.alloc (.cells cs 25)).ownsRow z 25 5 (.slice (some ⟨z, 0, none⟩) 2 2) 2 (five L) := by
  subst hz
  have h5 : cs.size = 10 := by rw [← Array.length_toList, h, five_length, hL]
  exact ⟨by rw [five_length, hL], .inr ⟨w.heap.size, 2, _, rfl, Nat.le_refl _, heap_alloc_new _ _, Nat.le_refl _, by unfold maxLen; omega, by rw [h5], by rw [← h, List.take_of_length_le (by rw [Array.length_toList, h5]; omega)]⟩⟩
theorem pair_own13 {w : World} {z : Nat} {p1 p2 : ByteArray} {P : Nat → Prop} (h : w.ownsRow z 25 5 (.slice (some ⟨z, 0, none⟩) 2 2) 2 (five [(Dm.text p1, .slice none 0 0, .slice none 0 0), (Dm.text p2, .slice none 0 0, .slice none 0 0)])) (h1 : p1.size ≤ maxLen) (h2 : p2.size ≤ maxLen) (hP : ∀ q, z ≤ q → P q) :
    Tp w P (Dm.pairT (p1, p2)) (.slice none 0 0) (.slice (some ⟨z, 0, none⟩) 2 2) := by
  refine Tp.of_own (t := Dm.pairT (p1, p2)) (base := z) (L := [(Dm.text p1, .slice none 0 0, .slice none 0 0), (Dm.text p2, .slice none 0 0, .slice none 0 0)]) (by show -9223372036854775808 ≤ (3 : Int) ∧ (3 : Int) ≤ 9223372036854775807; omega) (by show (-9223372036854775808 : Int) ≤ 0 ∧ (0 : Int) ≤ 9223372036854775807; omega) (by show (0 : Nat) ≤ maxLen; omega) (World.ownsRow_nil _ _ 9 1) (fun s hs => by cases hs) h rfl hP (fun x hx => ?_)
  rcases List.mem_cons.1 hx with rfl | hx
  · exact Tp.leaf _ _ (by omega) (by omega) h1
  · rcases List.mem_cons.1 hx with rfl | hx
    · exact Tp.leaf _ _ (by omega) (by omega) h2
    · cases hx
/-! the steps -/
theorem nx1 (m : Ms) : Nx Dm.base (Dm.t1 m) (!decide (m.code = 0)) Dm.kC (.mk 1 m.code ⟨#[]⟩ [] []) := Nx.of _ _ _ Dm.fits_base (Dm.n1 m) (by decide)
theorem nx2 (m : Ms) : Nx (Dm.t1 m) (Dm.t2 m) (m.has) Dm.kH (.mk 1 1 ⟨#[]⟩ [] []) := Nx.of _ _ _ (Dm.f1 m) (Dm.n2 m) (Nat.le_trans (Dm.l1 m) (by omega))
theorem nx3 (m : Ms) : Nx (Dm.t2 m) (Dm.t3 m) (!decide (m.id = 0)) Dm.kI (.mk 2 0 (Dm.idS m.id) [] []) := Nx.of _ _ _ (Dm.f2 m) (Dm.n3 m) (Nat.le_trans (Dm.l2 m) (by omega))
theorem nx4 (m : Ms) : Nx (Dm.t3 m) (Dm.t4 m) (!decide (m.key = ⟨#[]⟩)) Dm.kK (.mk 2 0 m.key [] []) := Nx.of _ _ _ (Dm.f3 m) (Dm.n4 m) (Nat.le_trans (Dm.l3 m) (by omega))
theorem nx5 (m : Ms) : Nx (Dm.t4 m) (Dm.t5 m) (!decide (m.pid = 0) || !decide (m.pad = 0)) Dm.kO (.mk 2 0 (Dm.peerS (m.pid, m.pad)) [] []) := Nx.of _ _ _ (Dm.f4 m) (Dm.n5 m) (Nat.le_trans (Dm.l4 m) (by omega))
theorem nx6 (m : Ms) : Nx (Dm.t5 m) (Dm.t6 m) (!decide (m.peers.length = 0)) Dm.kP (.mk 3 0 ⟨#[]⟩ [] (m.peers.map Dm.peerT)) := Nx.of _ _ _ (Dm.f5 m) (Dm.n6 m) (Nat.le_trans (Dm.l5 m) (by omega))
theorem nx7 (m : Ms) : Nx (Dm.t6 m) (Dm.t7 m) (true) Dm.kQ (.mk 2 0 (at_ m.kind).name [] []) := Nx.of _ _ _ (Dm.f6 m) (Dm.n7 m) (Nat.le_trans (Dm.l6 m) (by omega))
theorem nx8 (m : Ms) : Nx (Dm.t7 m) (Dm.t8 m) (!decide (m.rid = 0)) Dm.kR (.mk 1 m.rid ⟨#[]⟩ [] []) := Nx.of _ _ _ (Dm.f7 m) (Dm.n8 m) (Nat.le_trans (Dm.l7 m) (by omega))
theorem nx9 (m : Ms) : Nx (Dm.t8 m) (Dm.t9 m) (!decide (m.pairs.length = 0)) Dm.kT (.mk 3 0 ⟨#[]⟩ [] (m.pairs.map Dm.pairT)) := Nx.of _ _ _ (Dm.f8 m) (Dm.n9 m) (Nat.le_trans (Dm.l8 m) (by omega))
theorem nx10 (m : Ms) : Nx (Dm.t9 m) (Dm.tree m) (!decide (m.val = ⟨#[]⟩)) Dm.kV (.mk 2 0 m.val [] []) := Nx.of _ _ _ (Dm.f9 m) (Dm.n10 m) (Nat.le_trans (Dm.l9 m) (by omega))

section
variable {P : Program}
theorem step_append_cells {P : Program} {T E : TypeId} {z : Value} {size bytes : Nat} (ht : P.underlying T = some (.slice E)) (hinf : (P.info? E).map (fun i => (i.zero, i.size, i.bytes)) = some (some z, size, bytes)) (hzs : z.cells.size = size) (hsz : 0 < size) (hfew : bytes ≤ 128)
    {ops : Array Oper} {o : Oper} {a : Act} {w : World} {K : Act → World → Prop} {Q : Exit → Act → World → Prop} {F : Prop} (s x : Operand) (hgd : o.guard = none)
    (ho : o.op = .call { callee := .builtin .append, args := #[s, x], argTypes := #[T, T] }) (base : Nat) (v : Value) (n : Nat) (xs : List Value) (hs : a.eval s = v) (hown : w.ownsRow base E size v n xs) {A : Option Addr} (m c : Nat) (news : List Value)
    (hx : a.eval x = .slice A m c) (hl : news.length = m * size) (hc : A = none → c = 0) (hmc : m ≤ c) (hsee : Src w A news) (h1 : ∀ u ∈ news, u.oneCell' = true) (hn : n + m ≤ 1000000000000) (hbase : base ≤ w.heap.size)
    (h : ∀ v' w', w'.ownsRow base E size v' (n + m) (xs ++ news) → w.grownBy w' v.ownBlock → (v'.ownBlock = v.ownBlock ∨ v'.ownBlock = some w.heap.size) → K (a.put o.dst v') w') : if Region.wanted o (yielded ops a.tmps) = true then Oper.wp P o a w K Q else F := by
  have hw : Region.wanted o (yielded ops a.tmps) = true := by simp [Region.wanted, hgd]
  rw [if_pos hw]
  obtain ⟨v', w', hr, h2, h3, h4⟩ := run_append_cells ht hinf hzs hsz hfew (w := w) o.type base v n xs hown m c news hl hc hmc hsee h1 hn hbase
  unfold Oper.wp execOp
  simp only [ho, resolve, invoke, builtin, Sem.run_bind, Sem.run_pure, Result.andThen_ok, List.map_toArray, List.map_cons, List.map_nil, hs, hx, hr]
  exact h v' w' h2 h3 h4
end
end Go.Proofs.YtldjdoebappkoaaGreatDoor
