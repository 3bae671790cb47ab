/- The program's table in memory: messages behind pointers. -/
import Derived.Test.YtbhdgfpaoghnbaaDl22
import Derived.Test.YtbhdgfpaoghnbaaFc21
import Derived.Test.YtbhdgfpaoghnbaaRt22
import Derived.LaidEqlPtr
import Derived.Laws.StructEq
namespace Go.Proofs.Ytbhdgfpaoghnbaa
open Go.RowKit
set_option linter.unusedVariables false
set_option maxRecDepth 100000
set_option linter.unusedSimpArgs false

/-- an open message's cells; its parts stand in block g -/
abbrev fMs (o : Tm.One) (g : Nat) : Array Value := #[.int .u16 (o.sender : Int), .int .u32 (o.epoch : Int), .int .u32 (o.id : Int), .int .u16 (o.count : Int), .int .u8 (o.version : Int), .int .i64 (o.age : Int), pt g]
/-- the program's message in block b, its parts in block g, which have the blocks of F and G -/
structure MsAt (w : World) (F : Nat → Prop) (b g : Nat) (G : Nat → Prop) (o : Tm.One) : Prop where
  whole : Whole w b 82 (fMs o g)
  parts : Pt w G g o.s
  sub : ∀ x, G x → F x ∧ x ≠ b
  self : F b
  lt : ∀ x, F x → x < w.heap.size
def Mg (w : World) (F : Nat → Prop) (b : Nat) (o : Tm.One) : Prop := ∃ g G, MsAt w F b g G o
section
variable {w w' : World} {F F' : Nat → Prop} {b g : Nat} {G : Nat → Prop} {o : Tm.One}
theorem lt_kept {b : Nat} (h1 : b < w.heap.size) (h2 : w'.heap[b]? = w.heap[b]?) : b < w'.heap.size := by
  rcases Nat.lt_or_ge b w'.heap.size with h3 | h3
  · exact h3
  · rw [Array.getElem?_eq_none h3, Array.getElem?_eq_getElem h1] at h2; cases h2
theorem MsAt.keep (h : MsAt w F b g G o) (hk : ∀ x, F x → w'.heap[x]? = w.heap[x]?) : MsAt w' F b g G o :=
  ⟨h.whole.same (hk b h.self), h.parts.keep (fun x hx => hk x (h.sub x hx).1), h.sub, h.self, fun x hx => lt_kept (h.lt x hx) (hk x hx)⟩
theorem Mg.keep (h : Mg w F b o) (hk : ∀ x, F x → w'.heap[x]? = w.heap[x]?) : Mg w' F b o := by
  obtain ⟨g, G, h⟩ := h
  exact ⟨g, G, h.keep hk⟩
theorem Mg.self (h : Mg w F b o) : F b := by obtain ⟨g, G, h⟩ := h; exact h.self
theorem Mg.lt (h : Mg w F b o) : ∀ x, F x → x < w.heap.size := by obtain ⟨g, G, h⟩ := h; exact h.lt
theorem Mg.ok (h : Mg w F b o) : o.s.Ok := by obtain ⟨g, G, h⟩ := h; exact h.parts.ok
theorem Mg.whole (h : Mg w F b o) : ∃ g, Whole w b 82 (fMs o g) := by obtain ⟨g, G, h⟩ := h; exact ⟨g, h.whole⟩
/-- its parts turn -/
theorem MsAt.added (h : MsAt w F b g G o) {o' : Tm.One} (hf : fMs o' g = fMs o g) (hft : Foot G w w') (hp : Pt w' (Wide G w w') g o'.s) : Mg w' (Wide F w w') b o' ∧ Foot F w w' := by
  refine ⟨⟨g, Wide G w w', ⟨?_, hp, fun x hx => ?_, .inl h.self, fun x hx => ?_⟩⟩, hft.more (fun x _ hx => (h.sub x hx).1)⟩
  · rw [hf]
    exact h.whole.same (hft.block b h.whole.lt (fun e => (h.sub b e).2 rfl))
  · have hb := h.whole.lt
    rcases hx with hx | hx
    · exact ⟨.inl (h.sub x hx).1, (h.sub x hx).2⟩
    · exact ⟨.inr hx, by omega⟩
  · rcases hx with hx | hx
    · have := h.lt x hx; have := hft.size; omega
    · exact hx.2
/-- its age is set -/
theorem MsAt.aged (h : MsAt w F b g G o) (a : Nat) : MsAt (w.setCell ⟨b, 5, none⟩ (.int .i64 (a : Int))) F b g G { o with age := a } ∧ Foot F w (w.setCell ⟨b, 5, none⟩ (.int .i64 (a : Int))) := by
  have hft := (Foot.refl F w).setCell 5 (.int .i64 (a : Int)) h.self
  refine ⟨⟨by simpa using h.whole.put 5 _, h.parts.keep (fun x hx => Below.heap_setCell _ _ _ _ (h.sub x hx).2), h.sub, h.self, fun x hx => ?_⟩, hft⟩
  have := h.lt x hx
  rw [World.size_setCell]; exact this
end
/-- messages that share no block -/
structure Bog (w : World) (Fo : Nat → Nat → Prop) (L : List (Tm.One × Nat)) : Prop where
  mg : ∀ x ∈ L, Mg w (Fo x.2) x.2 x.1
  aside : ∀ x ∈ L, ∀ y ∈ L, x.2 ≠ y.2 → Aside (Fo x.2) (Fo y.2)
  once : (L.map (fun x => x.2)).Nodup
/-- where they stand -/
def snds (L : List (Tm.One × Nat)) : List Nat := L.map (fun x => x.2)
theorem snds_len (L : List (Tm.One × Nat)) : (snds L).length = L.length := by simp [snds]
/-- the program's table in block h, which has the blocks of F -/
structure TtAt (w : World) (F : Nat → Prop) (h : Nat) (vl : Value) (m : Tm.Lim) (L : List (Tm.One × Nat)) (Fo : Nat → Nat → Prop) : Prop where
  whole : Whole w h 76 #[.int .i64 (m.op : Int), .int .i64 (m.by_ : Int), .int .i64 (m.ex : Int), vl]
  row : w.ownsRow 0 77 1 vl L.length (pts (snds L))
  self : F h
  fr : ∀ b, vl.ownBlock = some b → F b ∧ b ≠ h
  bag : Bog w Fo L
  fo : ∀ x ∈ L, ∀ b, Fo x.2 b → F b ∧ b ≠ h ∧ vl.ownBlock ≠ some b
  lt : ∀ b, F b → b < w.heap.size
/-- the program's table in block h, which has the blocks of F -/
def Tt (w : World) (F : Nat → Prop) (h : Nat) (m : Tm.Lim) (l : List Tm.One) : Prop := ∃ vl L Fo, ones L = l ∧ TtAt w F h vl m L Fo
section
variable {w w' wr : World} {F : Nat → Prop} {h : Nat} {vl v : Value} {m : Tm.Lim} {L L' : List (Tm.One × Nat)} {l : List Tm.One} {Fo : Nat → Nat → Prop}
theorem Bog.keep (b : Bog w Fo L) (hk : ∀ x ∈ L, ∀ b, Fo x.2 b → w'.heap[b]? = w.heap[b]?) : Bog w' Fo L := ⟨fun x hx => (b.mg x hx).keep (hk x hx), b.aside, b.once⟩
theorem Bog.sub (b : Bog w Fo L) (hs : L'.Sublist L) : Bog w Fo L' := ⟨fun x hx => b.mg x (hs.subset hx), fun x hx y hy => b.aside x (hs.subset hx) y (hs.subset hy), (hs.map _).nodup b.once⟩
theorem TtAt.keep (r : TtAt w F h vl m L Fo) (hk : ∀ b, F b → w'.heap[b]? = w.heap[b]?) : TtAt w' F h vl m L Fo :=
  ⟨r.whole.same (hk h r.self), own_same r.row (fun b hb => hk b (r.fr b hb).1), r.self, r.fr, r.bag.keep (fun x hx b hb => hk b (r.fo x hx b hb).1), r.fo, fun b hb => lt_kept (r.lt b hb) (hk b hb)⟩
theorem Tt.keep (r : Tt w F h m l) (hk : ∀ b, F b → w'.heap[b]? = w.heap[b]?) : Tt w' F h m l := by
  obtain ⟨vl, L, Fo, e, r⟩ := r
  exact ⟨vl, L, Fo, e, r.keep hk⟩
theorem Tt.lt (r : Tt w F h m l) : ∀ b, F b → b < w.heap.size := by obtain ⟨vl, L, Fo, e, r⟩ := r; exact r.lt
theorem TtAt.more {G : Nat → Prop} (r : TtAt w F h vl m L Fo) (hG : ∀ b, F b → G b) (hl : ∀ b, G b → b < w.heap.size) : TtAt w G h vl m L Fo :=
  ⟨r.whole, r.row, hG _ r.self, fun b hb => ⟨hG _ (r.fr b hb).1, (r.fr b hb).2⟩, r.bag, fun x hx b hb => ⟨hG _ (r.fo x hx b hb).1, (r.fo x hx b hb).2⟩, hl⟩
theorem Tt.more {G : Nat → Prop} (r : Tt w F h m l) (hG : ∀ b, F b → G b) (hl : ∀ b, G b → b < w.heap.size) : Tt w G h m l := by
  obtain ⟨vl, L, Fo, e, r⟩ := r
  exact ⟨vl, L, Fo, e, r.more hG hl⟩
theorem TtAt.stay (r : TtAt w F h vl m L Fo) (hb : Below w.heap.size w w') : TtAt w' F h vl m L Fo := r.keep (fun b hb' => hb.block b (r.lt b hb'))
theorem TtAt.wide (r : TtAt w' F h vl m L Fo) (hz : w.heap.size ≤ w'.heap.size) : TtAt w' (Wide F w w') h vl m L Fo := r.more (fun b hb => .inl hb) (fun b hb => by
  rcases hb with hb | hb
  · exact r.lt b hb
  · exact hb.2)
theorem TtAt.shape (r : TtAt w F h vl m L Fo) : ∃ A c, vl = .slice A L.length c ∧ L.length ≤ c ∧ c ≤ maxLen := by
  obtain ⟨A, c, e, h1, h2, _⟩ := own_look r.row
  exact ⟨A, c, e, h1, h2⟩
/-- a pointer in the row -/
theorem TtAt.ptr {A : Option Addr} {n c : Nat} (r : TtAt w F h (.slice A n c) m L Fo) {i : Nat} (hi : i < L.length) : ∃ b, A = some ⟨b, 0, none⟩ ∧ F b ∧ b < w.heap.size ∧ w.cell? ⟨b, i, none⟩ = some (pt L[i].2) := by
  obtain ⟨A', c', e, h1, h2, h3, h4⟩ := own_look r.row
  injection e with e1 e2 e3
  subst e1
  obtain ⟨b, rfl, _, hlt, hc⟩ := h4 i (pt L[i].2) (by rw [pts_get]; unfold snds; rw [List.getElem?_map, List.getElem?_eq_getElem hi]; rfl)
  exact ⟨b, rfl, (r.fr b rfl).1, hlt, hc⟩
/-- the row is cut down -/
theorem TtAt.swap (r : TtAt w F h vl m L Fo) (hs : L'.Sublist L) (hw : wr.ownsRow 0 77 1 v L'.length (pts (snds L'))) (hv : v.ownBlock = vl.ownBlock) (hf : Foot (fun b => vl.ownBlock = some b) w wr) :
    TtAt (wr.setCell ⟨h, 3, none⟩ v) (Wide F w (wr.setCell ⟨h, 3, none⟩ v)) h v m L' Fo ∧ Foot F w (wr.setCell ⟨h, 3, none⟩ v) := by
  have hh := r.lt h r.self
  have hz : (wr.setCell ⟨h, 3, none⟩ v).heap.size = wr.heap.size := World.size_setCell ..
  have hnh : vl.ownBlock ≠ some h := fun e => (r.fr h e).2 rfl
  have hw2 : Whole wr h 76 _ := r.whole.same (hf.block h hh hnh)
  have hfF : Foot F w wr := hf.more (fun b _ e => (r.fr b e).1)
  refine ⟨⟨by simpa using hw2.put 3 v, own_same hw (fun b hb' => Below.heap_setCell _ _ _ _ (fun e => hnh (by rw [← hv, hb', e]))), .inl r.self, fun b hb' => ?_, (r.bag.sub hs).keep (fun x hx b hb' => ?_), fun x hx b hb' => ?_, ?_⟩, hfF.setCell 3 v r.self⟩
  · rw [hv] at hb'
    exact ⟨.inl (r.fr b hb').1, (r.fr b hb').2⟩
  · obtain ⟨h1, h2, h3⟩ := r.fo x (hs.subset hx) b hb'
    rw [Below.heap_setCell _ _ _ _ (fun e => h2 e), hf.block b (r.lt b h1) h3]
  · obtain ⟨h1, h2, h3⟩ := r.fo x (hs.subset hx) b hb'
    exact ⟨.inl h1, h2, by rw [hv]; exact h3⟩
  · intro b hb'
    rcases hb' with hb' | hb'
    · have := r.lt b hb'; have := hf.size; omega
    · exact hb'.2
/-- a message more -/
theorem TtAt.push {G : Nat → Prop} {o : Tm.One} {b : Nat} {ob : Obj} (r : TtAt w F h vl m L Fo) (hp : Mg w G b o) (hG1 : ∀ x, G x → ¬ F x)
    (ho : wr.ownsRow 0 77 1 v (L.length + 1) (pts (snds L) ++ [pt b])) (hgr : (w.alloc ob).grownBy wr vl.ownBlock) (hv : v.ownBlock = vl.ownBlock ∨ v.ownBlock = some (w.alloc ob).heap.size) :
    (∃ Fo', TtAt (wr.setCell ⟨h, 3, none⟩ v) (Wide (fun x => F x ∨ G x) w (wr.setCell ⟨h, 3, none⟩ v)) h v m (L ++ [(o, b)]) Fo') ∧ Foot F w (wr.setCell ⟨h, 3, none⟩ v) := by
  have hh := r.lt h r.self
  have hz : (wr.setCell ⟨h, 3, none⟩ v).heap.size = wr.heap.size := World.size_setCell ..
  have hz1 := hgr.size
  have ha : (w.alloc ob).heap.size = w.heap.size + 1 := World.size_alloc ..
  have hblk : ∀ x, x < w.heap.size → x ≠ h → vl.ownBlock ≠ some x → (wr.setCell ⟨h, 3, none⟩ v).heap[x]? = w.heap[x]? := fun x h1 h2 h3 => by
    rw [Below.heap_setCell _ _ _ _ (fun e => h2 e), hgr.block x (by omega) (fun e => h3 e.symm), Below.heap_alloc _ _ _ h1]
  have hvb : ∀ x, v.ownBlock = some x → (vl.ownBlock = some x) ∨ (w.heap.size < x ∧ x < wr.heap.size) := fun x hx => by
    rcases hv with e | e
    · exact .inl (by rw [← e]; exact hx)
    · have h1 := (ho.lt x hx).2
      rw [hx] at e
      injection e with e
      exact .inr (by omega)
  have hft : Foot F w (wr.setCell ⟨h, 3, none⟩ v) := (((Foot.refl F w).alloc ob).grown hgr (fun k hk _ => (r.fr k hk).1)).setCell 3 v r.self
  have hw : Whole wr h 76 _ := (r.whole.alloc ob).same (hgr.block h (by omega) (fun e => (r.fr h e.symm).2 rfl))
  have hne : ∀ x ∈ L, x.2 ≠ b := fun x hx e => hG1 b hp.self (r.fo x hx b (e ▸ (r.bag.mg x hx).self)).1
  have hbh : b ≠ h := fun e => hG1 b hp.self (e ▸ r.self)
  refine ⟨⟨fun n => if n = b then G else Fo n, ⟨by simpa using hw.put 3 v, ?_, .inl (.inl r.self), fun x hx => ?_, ⟨fun x hx => ?_, fun x hx y hy hne' => ?_, ?_⟩, fun x hx c hc => ?_, ?_⟩⟩, hft⟩
  · have e : pts (snds (L ++ [(o, b)])) = pts (snds L) ++ [pt b] := by simp [pts, snds]
    rw [e, List.length_append]
    refine own_same ho (fun x hx => Below.heap_setCell _ _ _ _ (fun e => ?_))
    rcases hvb x hx with h1 | h1
    · exact (r.fr x h1).2 e
    · have e : x = h := e
      omega
  · rcases hvb x hx with h1 | h1
    · exact ⟨.inl (.inl (r.fr x h1).1), (r.fr x h1).2⟩
    · exact ⟨.inr ⟨by omega, by omega⟩, by omega⟩
  · rcases List.mem_append.1 hx with hx | hx
    · rw [if_neg (hne x hx)]
      exact (r.bag.mg x hx).keep (fun c hc => by
        have := r.fo x hx c hc
        exact hblk c (r.lt c this.1) this.2.1 this.2.2)
    · obtain rfl : x = (o, b) := by simpa using hx
      rw [if_pos rfl]
      exact hp.keep (fun c hc => hblk c (hp.lt c hc) (fun e => hG1 c hc (e ▸ r.self)) (fun e => hG1 c hc (r.fr c e).1))
  · rcases List.mem_append.1 hx with hx | hx
    · rcases List.mem_append.1 hy with hy | hy
      · rw [if_neg (hne x hx), if_neg (hne y hy)]
        exact r.bag.aside x hx y hy hne'
      · obtain rfl : y = (o, b) := by simpa using hy
        rw [if_neg (hne x hx), if_pos rfl]
        exact fun c hc hg => hG1 c hg (r.fo x hx c hc).1
    · obtain rfl : x = (o, b) := by simpa using hx
      rcases List.mem_append.1 hy with hy | hy
      · rw [if_neg (hne y hy), if_pos rfl]
        exact fun c hg hc => hG1 c hg (r.fo y hy c hc).1
      · obtain rfl : y = (o, b) := by simpa using hy
        exact absurd rfl hne'
  · rw [List.map_append, List.nodup_append]
    refine ⟨r.bag.once, by simp, fun a ha c hc => ?_⟩
    obtain ⟨x, hx, rfl⟩ := List.mem_map.1 ha
    simp at hc
    subst hc
    exact hne x hx
  · rcases List.mem_append.1 hx with hx | hx
    · rw [if_neg (hne x hx)] at hc
      have := r.fo x hx c hc
      refine ⟨.inl (.inl this.1), this.2.1, fun e => ?_⟩
      rcases hvb c e with h1 | h1
      · exact this.2.2 h1
      · have := r.lt c this.1; omega
    · obtain rfl : x = (o, b) := by simpa using hx
      rw [if_pos rfl] at hc
      refine ⟨.inl (.inr hc), fun e => hG1 c hc (e ▸ r.self), fun e => ?_⟩
      rcases hvb c e with h1 | h1
      · exact hG1 c hc (r.fr c h1).1
      · have := hp.lt c hc; omega
  · intro c hc
    rcases hc with (hc | hc) | hc
    · have := r.lt c hc; omega
    · have := hp.lt c hc; omega
    · exact hc.2
/-- the list with the message in block b turned -/
def turnT (b : Nat) (f : Tm.One → Tm.One) (L : List (Tm.One × Nat)) : List (Tm.One × Nat) := L.map (fun x => if x.2 = b then (f x.1, x.2) else x)
theorem turnT_snds (b : Nat) (f : Tm.One → Tm.One) (L : List (Tm.One × Nat)) : snds (turnT b f L) = snds L := by
  unfold turnT snds
  rw [List.map_map]
  refine List.map_congr_left fun x _ => ?_
  simp only [Function.comp]
  split <;> rfl
theorem turnT_len (b : Nat) (f : Tm.One → Tm.One) (L : List (Tm.One × Nat)) : (turnT b f L).length = L.length := by simp [turnT]
theorem turnT_mem {b : Nat} {f : Tm.One → Tm.One} {x : Tm.One × Nat} (hx : x ∈ turnT b f L) : ∃ y ∈ L, y.2 = x.2 ∧ (y.2 = b → x.1 = f y.1) ∧ (y.2 ≠ b → x = y) := by
  obtain ⟨y, hy, rfl⟩ := List.mem_map.1 hx
  refine ⟨y, hy, ?_, fun e => by rw [if_pos e], fun e => by rw [if_neg e]⟩
  split <;> rfl
theorem sndT_uniq : ∀ (L : List (Tm.One × Nat)), (L.map (fun x => x.2)).Nodup → ∀ x ∈ L, ∀ y ∈ L, x.2 = y.2 → x = y
  | [], _, x, hx, _, _, _ => by cases hx
  | z :: L, hd, x, hx, y, hy, e => by
    rw [List.map_cons, List.nodup_cons] at hd
    rcases List.mem_cons.1 hx with rfl | hx'
    · rcases List.mem_cons.1 hy with rfl | hy'
      · rfl
      · exact absurd (List.mem_map.2 ⟨y, hy', e.symm⟩) hd.1
    · rcases List.mem_cons.1 hy with rfl | hy'
      · exact absurd (List.mem_map.2 ⟨x, hx', e⟩) hd.1
      · exact sndT_uniq L hd.2 x hx' y hy' e
/-- one of the messages turns -/
theorem TtAt.touch {b : Nat} {o : Tm.One} (r : TtAt w F h vl m L Fo) (ho : (o, b) ∈ L) (f : Tm.One → Tm.One) (hft : Foot (Fo b) w w') (hp : Mg w' (Wide (Fo b) w w') b (f o)) :
    TtAt w' (Wide F w w') h vl m (turnT b f L) (fun n => if n = b then Wide (Fo b) w w' else Fo n) ∧ Foot F w w' := by
  have hz := hft.size
  have hog := r.fo _ ho
  simp only at hog
  have hblk : ∀ x, x < w.heap.size → ¬ Fo b x → w'.heap[x]? = w.heap[x]? := fun x h1 h2 => hft.block x h1 h2
  have huniq : ∀ y ∈ L, y.2 = b → y.1 = o := fun y hy e => by
    have := sndT_uniq L r.bag.once y hy (o, b) ho e
    rw [this]
  refine ⟨⟨r.whole.same (hblk h (r.lt h r.self) (fun q => (hog h q).2.1 rfl)), ?_, .inl r.self, fun c hc => ⟨.inl (r.fr c hc).1, (r.fr c hc).2⟩, ⟨fun x hx => ?_, fun x hx y hy hne => ?_, ?_⟩, fun x hx c hc => ?_, ?_⟩, ?_⟩
  · rw [turnT_len, turnT_snds]
    exact own_same r.row (fun c hc => hblk c (r.lt c (r.fr c hc).1) (fun q => (hog c q).2.2 hc))
  · obtain ⟨y, hy, e, h1, h2⟩ := turnT_mem hx
    by_cases hg : y.2 = b
    · rw [if_pos (by rw [← e]; exact hg), ← e, hg, h1 hg, huniq y hy hg]
      exact hp
    · rw [if_neg (by rw [← e]; exact hg)]
      have := h2 hg
      subst this
      exact (r.bag.mg x hy).keep (fun c hc => hblk c ((r.bag.mg x hy).lt c hc) (r.bag.aside x hy _ ho hg c hc))
  · obtain ⟨x', hx', e1, _⟩ := turnT_mem hx
    obtain ⟨y', hy', e2, _⟩ := turnT_mem hy
    rw [← e1, ← e2] at hne ⊢
    by_cases h1 : x'.2 = b
    · have h2 : y'.2 ≠ b := fun q => hne (h1.trans q.symm)
      rw [if_pos h1, if_neg h2]
      have ha : Aside (Fo y'.2) (Fo b) := (r.bag.aside _ ho y' hy' (by rw [← h1]; exact hne)).symm
      exact (ha.wide (fun c hc => (r.bag.mg y' hy').lt c hc)).symm
    · by_cases h2 : y'.2 = b
      · rw [if_neg h1, if_pos h2]
        have ha : Aside (Fo x'.2) (Fo b) := r.bag.aside x' hx' _ ho h1
        exact ha.wide (fun c hc => (r.bag.mg x' hx').lt c hc)
      · rw [if_neg h1, if_neg h2]
        exact r.bag.aside x' hx' y' hy' hne
  · have := turnT_snds b f L
    unfold snds at this
    rw [this]; exact r.bag.once
  · obtain ⟨y, hy, e, _⟩ := turnT_mem hx
    rw [← e] at hc
    by_cases hg : y.2 = b
    · rw [if_pos hg] at hc
      rcases hc with hc | hc
      · have := hog c hc
        exact ⟨.inl this.1, this.2⟩
      · exact ⟨.inr hc, fun e => by have := r.lt h r.self; omega, fun e => by have := r.lt c (r.fr c e).1; omega⟩
    · rw [if_neg hg] at hc
      have := r.fo y hy c hc
      exact ⟨.inl this.1, this.2⟩
  · intro c hc
    rcases hc with hc | hc
    · have := r.lt c hc; omega
    · exact hc.2
  · exact hft.more (fun c _ q => (hog c q).1)
end
end Go.Proofs.Ytbhdgfpaoghnbaa
