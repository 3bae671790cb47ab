/- Contracts of package asm. -/
import Derived.Test.YtbhdgfpaoghnbaaPS
import Derived.Test.YtbhdgfpaoghnbaaDe22
import Derived.Test.YtbhdgfpaoghnbaaPM
import Derived.Test.YtbhdgfpaoghnbaaFc20
import Derived.Test.YtbhdgfpaoghnbaaFc22
namespace Go.Proofs.Ytbhdgfpaoghnbaa
open Go.RowKit
set_option linter.unusedVariables false
set_option maxRecDepth 100000
set_option linter.unusedSimpArgs false

/-- an empty record -/
abbrev nilS23 : Value := .agg #[.bool false, .int .u32 0, .int .u32 0, .int .u64 0]
/-- a record as a value -/
abbrev recV (s : Sn) : Value := .agg #[.bool s.any, .int .u32 (s.epoch : Int), .int .u32 (s.top : Int), .int .u64 (s.bits : Int)]
theorem look51 (w : World) : (zeroValue 51).run Try.prog w = .ok nilS23 w := by kernel_rfl
/-- the program's messages that come, in block g, with the table in block h and the records in block mb -/
structure AtAt (w : World) (F : Nat → Prop) (g h mb : Nat) (Ft : Nat → Prop) (f : Nat → Option Value) (m : Tm.Lim) (s : An.S) : Prop where
  whole : Whole w g 59 #[pt h, .map (some mb)]
  tab : Tt w Ft h m s.l
  mp : Mu Try.prog 32 .u16 65536 nilS23 w mb f
  val : ∀ i, i < 65536 → (f i).getD nilS23 = recV (s.mem i)
  self : F g
  fm : F mb ∧ mb ≠ g
  ft : ∀ b, Ft b → F b ∧ b ≠ g ∧ b ≠ mb
  lt : ∀ b, F b → b < w.heap.size
/-- the program's messages that come, in block g, which has the blocks of F -/
def At (w : World) (F : Nat → Prop) (g : Nat) (m : Tm.Lim) (s : An.S) : Prop := ∃ h mb Ft f, AtAt w F g h mb Ft f m s
section
variable {F F' Ft Ft' : Nat → Prop} {g h mb : Nat} {w w' : World} {m : Tm.Lim} {s : An.S} {f : Nat → Option Value} {l : List Tm.One}
theorem AtAt.keep (r : AtAt w F g h mb Ft f m s) (hk : ∀ b, F b → w'.heap[b]? = w.heap[b]?) : AtAt w' F g h mb Ft f m s :=
  ⟨r.whole.same (hk g r.self), r.tab.keep (fun b hb => hk b (r.ft b hb).1), r.mp.same (hk mb r.fm.1), r.val, r.self, r.fm, r.ft, fun b hb => lt_kept (r.lt b hb) (hk b hb)⟩
theorem At.keep (r : At w F g m s) (hk : ∀ b, F b → w'.heap[b]? = w.heap[b]?) : At w' F g m s := by
  obtain ⟨h, mb, Ft, f, r⟩ := r
  exact ⟨h, mb, Ft, f, r.keep hk⟩
theorem At.lt (r : At w F g m s) : ∀ b, F b → b < w.heap.size := by obtain ⟨h, mb, Ft, f, r⟩ := r; exact r.lt
theorem AtAt.stay (r : AtAt w F g h mb Ft f m s) (hb : Below w.heap.size w w') : AtAt w' F g h mb Ft f m s := r.keep (fun b hb' => hb.block b (r.lt b hb'))
theorem AtAt.more (r : AtAt w F g h mb Ft f m s) (hF : ∀ b, F b → F' b) (hl : ∀ b, F' b → b < w.heap.size) : AtAt w F' g h mb Ft f m s :=
  ⟨r.whole, r.tab, r.mp, r.val, hF _ r.self, ⟨hF _ r.fm.1, r.fm.2⟩, fun b hb => ⟨hF _ (r.ft b hb).1, (r.ft b hb).2⟩, hl⟩
/-- the table turns -/
theorem AtAt.turn (r : AtAt w F g h mb Ft f m s) (hft : Foot Ft w w') (ht : Tt w' Ft' h m l) (hs : ∀ b, Ft' b → Wide Ft w w' b) :
    AtAt w' (fun b => F b ∨ Ft' b) g h mb Ft' f m ⟨l, s.mem⟩ ∧ Foot F w w' ∧ ∀ b, (F b ∨ Ft' b) → Wide F w w' b := by
  have hg : w'.heap[g]? = w.heap[g]? := hft.block g (r.lt g r.self) (fun q => (r.ft g q).2.1 rfl)
  have hm : w'.heap[mb]? = w.heap[mb]? := hft.block mb (r.lt mb r.fm.1) (fun q => (r.ft mb q).2.2 rfl)
  refine ⟨⟨r.whole.same hg, ht, r.mp.same hm, r.val, .inl r.self, ⟨.inl r.fm.1, r.fm.2⟩, fun b hb => ⟨.inr hb, ?_⟩, fun b hb => ?_⟩, hft.more (fun b _ q => (r.ft b q).1), fun b hb => ?_⟩
  · rcases hs b hb with q | q
    · exact (r.ft b q).2
    · have h1 := r.lt g r.self
      have h2 := r.lt mb r.fm.1
      exact ⟨by omega, by omega⟩
  · rcases hb with hb | hb
    · have := r.lt b hb; have := hft.size; omega
    · exact ht.lt b hb
  · rcases hb with hb | hb
    · exact .inl hb
    · rcases hs b hb with q | q
      · exact .inl (r.ft b q).1
      · exact .inr q
/-- a record is set -/
theorem AtAt.mark (r : AtAt w F g h mb Ft f m s) {i : Nat} {x : Sn} (hm : Mu Try.prog 32 .u16 65536 nilS23 w' mb (setU f i (recV x))) (hg : w.grownBy w' (some mb)) (hz : w'.heap.size = w.heap.size) :
    AtAt w' F g h mb Ft (setU f i (recV x)) m ⟨s.l, An.upd s.mem i x⟩ := by
  have hk : ∀ b, b < w.heap.size → b ≠ mb → w'.heap[b]? = w.heap[b]? := fun b h1 h2 => hg.block b h1 (fun e => h2 (by injection e))
  refine ⟨r.whole.same (hk g (r.lt g r.self) (fun e => r.fm.2 e.symm)), r.tab.keep (fun b hb => hk b (r.lt b (r.ft b hb).1) (r.ft b hb).2.2), hm, fun j hj => ?_, r.self, r.fm, r.ft, fun b hb => by rw [hz]; exact r.lt b hb⟩
  show (if j = i then some (recV x) else f j).getD nilS23 = recV (if j = i then x else s.mem j)
  by_cases e : j = i
  · rw [if_pos e, if_pos e]; rfl
  · rw [if_neg e, if_neg e]; exact r.val j hj
end
/-- what Take answers -/
def AtakePost (w : World) (F : Nat → Prop) (h : Nat) (m : Tm.Lim) (R : An.R) (e : Ending) (w' : World) : Prop :=
  ∃ v F', e = .returned (.tuple #[v, .bool R.ok, .int .i64 (R.err : Int)]) ∧ w'.ownsRow w.heap.size 5 1 v R.told.length (ints .u8 R.told) ∧ At w' F' h m R.s ∧ (∀ b, F' b → Wide F w w' b) ∧ (∀ k, v.ownBlock = some k → ¬ F' k) ∧ Foot F w w'
theorem amade23_any {w : World} {g h : Nat} (hc : w.cell? ⟨g, 0, none⟩ = some (pt h)) :
    Calls Try.prog 15 #[pt g] w fun e w' => e = .returned (.bool true) ∧ w' = w := by
  go_enter Try.func15, Try.ntmps15
  go_wp2_with fail
  go_ret
  exact ⟨rfl, rfl⟩
theorem amade23_nil (w : World) : Calls Try.prog 15 #[.pointer none] w fun e w' => e = .returned (.bool false) ∧ w' = w := by
  go_enter Try.func15, Try.ntmps15
  go_wp2_with fail
  go_ret
  exact ⟨rfl, rfl⟩
theorem anew23_bad (a b c : Int) (wa : -9223372036854775808 ≤ a ∧ a ≤ 9223372036854775807) (wb : -9223372036854775808 ≤ b ∧ b ≤ 9223372036854775807) (wc : -9223372036854775808 ≤ c ∧ c ≤ 9223372036854775807) (hbad : a < 1 ∨ 16 < a ∨ b < 1 ∨ 65536 < b ∨ c < 1 ∨ 32 < c) (w : World) :
    Calls Try.prog 7 #[.agg #[.int .i64 a, .int .i64 b, .int .i64 c]] w fun e w' => e = .returned (.tuple #[.pointer none, .int .i64 1]) ∧ Below w.heap.size w w' := by
  obtain ⟨w0, hw0⟩ : ∃ W, w.alloc (.cells #[.int .i64 a, .int .i64 b, .int .i64 c] 23) = W := ⟨_, rfl⟩
  have HB0 : Hid (Below w.heap.size w w0) := Lib.hid (by rw [← hw0]; exact (Below.refl _ _).alloc (Nat.le_refl _) _)
  have hx : Whole w0 w.heap.size 23 #[.int .i64 a, .int .i64 b, .int .i64 c] := by rw [← hw0]; exact Whole.made _ _ _
  have c0 := hx.at_ 0
  have c1 := hx.at_ 1
  have c2 := hx.at_ 2
  have TN := Lib.hid (fun W => tnew22_bad a b c wa wb wc hbad W)
  clear hx hbad wa wb wc
  go_enter Try.func7, Try.ntmps7
  go_wp2_with fail
  refine (TN.out _).mono ?_
  rintro e w1 ⟨rfl, hb1⟩
  have HB1 := Lib.hid (HB0.out.trans (hb1.mono HB0.out.size))
  clear hb1
  go_wp2_with fail
  go_ret2
  exact ⟨rfl, HB1.out⟩
theorem anew23_any (m : Tm.Lim) (hm : m.Ok) (w : World) :
    Calls Try.prog 7 #[.agg #[.int .i64 (m.op : Int), .int .i64 (m.by_ : Int), .int .i64 (m.ex : Int)]] w fun e w' => ∃ h, e = .returned (.tuple #[.pointer (some ⟨h, 0, none⟩), .int .i64 0]) ∧ At w' (fun b => w.heap.size ≤ b ∧ b < w'.heap.size) h m An.zero ∧ Below w.heap.size w w' := by
  obtain ⟨w0, hw0⟩ : ∃ W, w.alloc (.cells #[.int .i64 (m.op : Int), .int .i64 (m.by_ : Int), .int .i64 (m.ex : Int)] 23) = W := ⟨_, rfl⟩
  have HB0 : Hid (Below w.heap.size w w0) := Lib.hid (by rw [← hw0]; exact (Below.refl _ _).alloc (Nat.le_refl _) _)
  have hx : Whole w0 w.heap.size 23 #[.int .i64 (m.op : Int), .int .i64 (m.by_ : Int), .int .i64 (m.ex : Int)] := by rw [← hw0]; exact Whole.made _ _ _
  have c0 := hx.at_ 0
  have c1 := hx.at_ 1
  have c2 := hx.at_ 2
  have TN := Lib.hid (fun W => tnew22_any m hm W)
  clear hx hm
  go_enter Try.func7, Try.ntmps7
  go_wp2_with fail
  refine (TN.out _).mono ?_
  rintro e w1 ⟨h, rfl, ht, hb1⟩
  have HT := Lib.hid ht
  have HB1 := Lib.hid hb1
  have HM := Lib.hid (Mu.made Try.prog 32 .u16 65536 nilS23 w1)
  have hmk : (Instr.makeMap 57 none).run Try.prog w1 = .ok (.map (some w1.heap.size)) (w1.alloc (.map #[] 0)) := run_makeMap _ w1
  clear hb1 ht
  go_wp2_with fail
  go_ret2
  have hwh := Whole.made (w1.alloc (.map #[] 0)) 59 #[.pointer (some ⟨h, 0, none⟩), .map (some w1.heap.size)]
  have hB2 : Below w1.heap.size w1 ((w1.alloc (.map #[] 0)).alloc (.cells #[.pointer (some ⟨h, 0, none⟩), .map (some w1.heap.size)] 59)) := ((Below.refl _ _).alloc (Nat.le_refl _) _).alloc (by simp) _
  have hlt := HT.out.lt
  have hz0 := HB0.out.size
  have hz1 := HB1.out.size
  have ha : (w1.alloc (.map #[] 0)).heap.size = w1.heap.size + 1 := World.size_alloc ..
  rw [ha] at hwh
  have hb : ((w1.alloc (.map #[] 0)).alloc (.cells #[.pointer (some ⟨h, 0, none⟩), .map (some w1.heap.size)] 59)).heap.size = w1.heap.size + 2 := by rw [World.size_alloc, ha]
  refine ⟨_, rfl, ⟨h, w1.heap.size, _, fun _ => none, hwh, HT.out.keep (fun b hb' => hB2.block b (hlt b hb')), HM.out.same (Below.heap_alloc _ _ _ HM.out.lt), fun i _ => rfl, ⟨by omega, by omega⟩, ⟨⟨by omega, by omega⟩, by omega⟩, fun b hb' => ?_, fun b hb' => hb'.2⟩, ?_⟩
  · have hb2 := hlt b hb'
    have hb3 : w0.heap.size ≤ b := hb'.1
    exact ⟨⟨by omega, by omega⟩, by omega, by omega⟩
  · exact HB0.out.trans ((HB1.out.trans (hB2.mono hz1)).mono hz0)
theorem atick23_any {w : World} {F : Nat → Prop} {h : Nat} {m : Tm.Lim} {s : An.S} (r : At w F h m s) (hm : m.Ok) (hok : s.Ok m) :
    Calls Try.prog 8 #[.pointer (some ⟨h, 0, none⟩)] w fun e w' => e = .returned (.tuple #[]) ∧ At w' (Wide F w w') h m (An.tick m s) ∧ Foot F w w' := by
  obtain ⟨b, mb, Ft, f, r⟩ := r
  have c0 : w.cell? ⟨h, 0, none⟩ = some (pt b) := r.whole.at_ 0
  have MA := Lib.hid (amade23_any c0)
  have TT := Lib.hid (ttick22_any r.tab hm hok.tab)
  have HR := Lib.hid r
  clear r hm hok
  go_enter Try.func8, Try.ntmps8
  go_wp2_with fail
  refine (MA.out).mono ?_
  rintro e w1 ⟨rfl, rfl⟩
  go_wp2_with fail
  refine (TT.out).mono ?_
  rintro e w2 ⟨rfl, ht, hf⟩
  have HT := Lib.hid ht
  have HF := Lib.hid hf
  clear ht hf
  go_wp2_with fail
  go_end0
  obtain ⟨q1, q2, q3⟩ := HR.out.turn HF.out HT.out (fun _ q => q)
  exact ⟨rfl, ⟨_, _, _, _, q1.more q3 (fun b q => by
    rcases q with q | q
    · have := HR.out.lt b q; have := HF.out.size; omega
    · exact q.2)⟩, q2⟩
theorem aheld23_nil (w : World) : Calls Try.prog 13 #[.pointer none] w fun e w' => e = .returned (.int .i64 0) ∧ Below w.heap.size w w' := by
  go_enter Try.func13, Try.ntmps13
  go_wp2_with fail
  refine (amade23_nil w).mono ?_
  rintro e w1 ⟨rfl, rfl⟩
  go_wp2_with fail
  go_ret
  exact ⟨rfl, Below.refl _ _⟩
/-- what a record is, looked up -/
theorem AtAt.look {w : World} {F Ft : Nat → Prop} {g h mb : Nat} {f : Nat → Option Value} {m : Tm.Lim} {s : An.S} (r : AtAt w F g h mb Ft f m s) {sn : Nat} (hsn : sn < 65536) :
    (Instr.lookup 57 (.map (some mb)) (.int .u16 (sn : Int)) false).run Try.prog w = .ok (recV (s.mem sn)) w := by
  have := r.mp.look Try.underlying32 Try.underlying57 lit16_wf (look51 w) hsn
  rw [r.val sn hsn] at this
  exact this
/-- a new variable that holds a record -/
theorem varR23 (w : World) (s : Sn) : ∃ g w0 w1, w.heap.size = g ∧ w.alloc (.cells #[.bool false, .int .u32 0, .int .u32 0, .int .u64 0] 51) = w0 ∧ Whole w0 g 51 #[.bool false, .int .u32 0, .int .u32 0, .int .u64 0] ∧ w0.setRow g #[.bool s.any, .int .u32 (s.epoch : Int), .int .u32 (s.top : Int), .int .u64 (s.bits : Int)] = w1 ∧
    Whole w1 g 51 #[.bool s.any, .int .u32 (s.epoch : Int), .int .u32 (s.top : Int), .int .u64 (s.bits : Int)] ∧ Below w.heap.size w w1 ∧ Below w.heap.size w w0 := by
  obtain ⟨g, w0, hg, hal, hs, hx, hb⟩ := varS w
  exact ⟨g, w0, _, hg, hal, hx, rfl, hx.row _, below_row hb (by omega) _, hb⟩
theorem amem23_any {w : World} {F : Nat → Prop} {h : Nat} {m : Tm.Lim} {s : An.S} (r : At w F h m s) (hok : s.Ok m) (sn : Nat) (hsn : sn < 65536) :
    Calls Try.prog 12 #[.pointer (some ⟨h, 0, none⟩), .int .u16 (sn : Int)] w fun e w' => e = .returned (.agg #[.bool (s.mem sn).any, .int .u32 ((s.mem sn).epoch : Int), .int .u32 ((s.mem sn).top : Int), .int .u64 ((s.mem sn).bits : Int)]) ∧ Below w.heap.size w w' := by
  obtain ⟨b, mb, Ft, f, r⟩ := r
  obtain ⟨x, hx⟩ : ∃ x, Hid (s.mem sn = x) := ⟨_, Lib.hid rfl⟩
  obtain ⟨y, w0, w1, hy, hal, hW0, hrow, hW1, hB1, hB0⟩ := varR23 w x
  have r0 := r.stay hB0
  have hlk := r0.look hsn
  rw [hx.out] at hlk ⊢
  have c0 : w0.cell? ⟨h, 0, none⟩ = some (pt b) := r0.whole.at_ 0
  have c1 : w0.cell? ⟨h, 1, none⟩ = some (.map (some mb)) := r0.whole.at_ 1
  have MA := Lib.hid (amade23_any c0)
  have HB1 := Lib.hid hB1
  have HW0 := Lib.hid hW0
  have HW1x := Lib.hid hW1
  clear r r0 hok hW0 hW1 hB1 hB0
  go_enter Try.func12, Try.ntmps12
  go_wp2_with fail
  refine (MA.out).mono ?_
  rintro e wx ⟨rfl, rfl⟩
  go_wp2_with (refine wpList_store_whole rfl rfl rfl rfl rfl HW0.out (seenI rfl) rfl (by simp [Value.oneCell']) ?_)
  refine bodyPost_ret (v := recV x) ?_ rfl ⟨rfl, ?_⟩
  · exact results_seen rfl rfl (HW0.out.row _) rfl
  · rw [hrow]; exact HB1.out
theorem take_kind23 {m : Tm.Lim} {s : An.S} {sn : Nat} {g : Gd} (h : g.kind ≠ 1) : An.take m s sn g = ⟨[], false, 9, s⟩ := by unfold An.take; rw [if_pos h]
theorem take_old23 {m : Tm.Lim} {s : An.S} {sn : Nat} {g : Gd} (h : ¬ g.kind ≠ 1) (hf : ¬ (s.mem sn).fresh g.epoch g.id = 0) : An.take m s sn g = ⟨[], false, (s.mem sn).fresh g.epoch g.id, s⟩ := by unfold An.take; rw [if_neg h, if_pos hf]
theorem take_open23 {m : Tm.Lim} {s : An.S} {sn : Nat} {g : Gd} {P : Tm.R} (h : ¬ g.kind ≠ 1) (hf : (s.mem sn).fresh g.epoch g.id = 0) (hp : Tm.put m s.l sn g = P) (ho : P.ok = false) : An.take m s sn g = ⟨P.told, false, P.err, ⟨P.l, s.mem⟩⟩ := by
  unfold An.take; rw [if_neg h, if_neg (by simpa using hf), hp, ho]; rfl
theorem take_all23 {m : Tm.Lim} {s : An.S} {sn : Nat} {g : Gd} {P : Tm.R} (h : ¬ g.kind ≠ 1) (hf : (s.mem sn).fresh g.epoch g.id = 0) (hp : Tm.put m s.l sn g = P) (ho : P.ok = true) : An.take m s sn g = ⟨P.told, true, P.err, ⟨P.l, An.upd s.mem sn ((s.mem sn).mark g.epoch g.id)⟩⟩ := by
  unfold An.take; rw [if_neg h, if_neg (by simpa using hf), hp, ho]; rfl
/-- the record of a sender, and its words -/
theorem AtakePost.none {w w' : World} {F : Nat → Prop} {h : Nat} {m : Tm.Lim} {s : An.S} (er : Nat) (r : At w F h m s) (hb : Below w.heap.size w w') : AtakePost w F h m ⟨[], false, er, s⟩ (.returned (.tuple #[.slice none 0 0, .bool false, .int .i64 (er : Int)])) w' :=
  ⟨_, F, rfl, World.ownsRow_nil _ _ _ _, r.keep (fun b q => hb.block b (r.lt b q)), fun b q => .inl q, (fun k q => by cases q), Foot.of_below hb⟩
section
variable {w W w4 w5 : World} {F Ft Ft' : Nat → Prop} {g h mb n : Nat} {f : Nat → Option Value} {m : Tm.Lim} {s : An.S} {v : Value} {told : List Nat} {l : List Tm.One} {ok : Bool} {err : Nat}
theorem AtAt.fin4 (r : AtAt w F g h mb Ft f m s) (hb : Below w.heap.size w W) (ho : w4.ownsRow W.heap.size 5 1 v told.length (ints .u8 told)) (ht : Tt w4 Ft' h m l) (hs : ∀ b, Ft' b → Wide Ft W w4 b) (hn : ∀ k, v.ownBlock = some k → ¬ Ft' k) (hf : Foot Ft W w4) :
    AtAt w4 (fun b => F b ∨ Ft' b) g h mb Ft' f m ⟨l, s.mem⟩ ∧ Foot F w w4 ∧ (∀ b, (F b ∨ Ft' b) → Wide F w w4 b) ∧ w4.ownsRow w.heap.size 5 1 v told.length (ints .u8 told) ∧ (∀ k, v.ownBlock = some k → ¬ (F k ∨ Ft' k)) ∧ (∀ k, v.ownBlock = some k → k ≠ mb) := by
  obtain ⟨q1, q2, q3⟩ := (r.stay hb).turn hf ht hs
  have hz := hb.size
  refine ⟨q1, (Foot.of_below hb).trans q2 (fun _ _ q => q), fun b q => ?_, own_lower ho hz, fun k q => ?_, fun k q => ?_⟩
  · rcases q3 b q with q | q
    · exact .inl q
    · exact .inr ⟨by omega, q.2⟩
  · have h1 := (ho.lt k q).1
    rintro (e | e)
    · have := r.lt k e; omega
    · exact hn k q e
  · have h1 := (ho.lt k q).1
    have h2 := r.lt mb r.fm.1
    omega
theorem AtAt.fin_open (r : AtAt w F g h mb Ft f m s) (hb : Below w.heap.size w W) (ho : w4.ownsRow W.heap.size 5 1 v told.length (ints .u8 told)) (ht : Tt w4 Ft' h m l) (hs : ∀ b, Ft' b → Wide Ft W w4 b) (hn : ∀ k, v.ownBlock = some k → ¬ Ft' k) (hf : Foot Ft W w4) :
    AtakePost w F g m ⟨told, ok, err, ⟨l, s.mem⟩⟩ (.returned (.tuple #[v, .bool ok, .int .i64 (err : Int)])) w4 := by
  obtain ⟨q1, q2, q3, q4, q5, _⟩ := r.fin4 hb ho ht hs hn hf
  exact ⟨v, _, rfl, q4, ⟨_, _, _, _, q1⟩, q3, q5, q2⟩
theorem AtAt.fin_all {i : Nat} {x : Sn} (r : AtAt w F g h mb Ft f m s) (hb : Below w.heap.size w W) (ho : w4.ownsRow W.heap.size 5 1 v told.length (ints .u8 told)) (ht : Tt w4 Ft' h m l) (hs : ∀ b, Ft' b → Wide Ft W w4 b) (hn : ∀ k, v.ownBlock = some k → ¬ Ft' k) (hf : Foot Ft W w4)
    {w4' : World} (hb4 : Below w4.heap.size w4 w4') (hm : Mu Try.prog 32 .u16 65536 nilS23 w5 mb (setU f i (recV x))) (hg : w4'.grownBy w5 (some mb)) (hz : w5.heap.size = w4'.heap.size) :
    AtakePost w F g m ⟨told, ok, err, ⟨l, An.upd s.mem i x⟩⟩ (.returned (.tuple #[v, .bool ok, .int .i64 (err : Int)])) w5 := by
  obtain ⟨q1, q2, q3, q4, q5, q6⟩ := r.fin4 hb ho ht hs hn hf
  have h5 := (q1.stay hb4).mark hm hg hz
  have hz4 := hb4.size
  have hz3 := q2.size
  refine ⟨v, _, rfl, own_same (own_below q4 hb4) (fun k q => hg.block k (by have := (q4.lt k q).2; omega) (fun e => q6 k q (by injection e))), ⟨_, _, _, _, h5⟩, fun b q => ?_, q5, (q2.trans (Foot.of_below hb4) (fun _ _ q => q)).grown hg (fun k hk _ => by injection hk with hk; rw [← hk]; exact r.fm.1)⟩
  rcases q3 b q with q | q
  · exact .inl q
  · exact .inr ⟨q.1, by omega⟩
end
set_option maxHeartbeats 4000000 in
theorem atake23_any {w : World} {F : Nat → Prop} {h B : Nat} {m : Tm.Lim} {s : An.S} {v : Value} {g : Gd} (r : At w F h m s) (hm : m.Ok) (hok : s.Ok m) (sn : Nat) (hsn : sn < 65536) (H : Gv w B g v) (hk : ∀ W, Foot F w W → Gv W B g v) (hl : g.body.length ≤ 1000000) :
    Calls Try.prog 9 #[.pointer (some ⟨h, 0, none⟩), .int .u16 (sn : Int), v] w (AtakePost w F h m (An.take m s sn g)) := by
  have HATR := Lib.hid r
  obtain ⟨b, mb, Ft, f, r⟩ := r
  have hgo := H.ok
  obtain ⟨bx, A, c, w0, rfl, hbx, hal, hsz0, hGx, hbx0⟩ := boxedG H
  have HB0 : Hid (Below w.heap.size w w0) := Lib.hid (by rw [hbx]; exact hbx0)
  have r0 := r.stay HB0.out
  have HR := Lib.hid r
  have hXW := hGx.whole
  have a0 : w0.cell? ⟨h, 0, none⟩ = some (pt b) := r0.whole.at_ 0
  have a1 : w0.cell? ⟨h, 1, none⟩ = some (.map (some mb)) := r0.whole.at_ 1
  have MA := Lib.hid (amade23_any a0)
  have hlk := r0.look hsn
  obtain ⟨x, hx⟩ : ∃ x, Hid (s.mem sn = x) := ⟨_, Lib.hid rfl⟩
  have hxo : x.Ok := by rw [← hx.out]; exact hok.mem sn
  rw [hx.out] at hlk
  obtain ⟨y, w1, w2, hy, hal1, hW1, hrow, hW2, hB2, hB1⟩ := varR23 w0 x
  have HB2 := Lib.hid hB2
  have HG2 : Hid (Below w.heap.size w w2) := Lib.hid (HB0.out.trans (HB2.out.mono HB0.out.size))
  obtain ⟨P, hP⟩ : ∃ P, Hid (Tm.put m s.l sn g = P) := ⟨_, Lib.hid rfl⟩
  have TP := Lib.hid (fun W (hW : Below w2.heap.size w2 W) => tput22_any ((r0.stay HB2.out).stay hW).tab hm hok.tab sn hsn (hk W (Foot.of_below (HG2.out.trans (hW.mono HG2.out.size)))) (fun W' hf => hk W' ((Foot.of_below (F := F) (HG2.out.trans (hW.mono HG2.out.size))).trans hf (fun k _ q => (r.ft k q).1))) hl)
  rw [hP.out] at TP
  have HXY : Hid (∀ W : World, W.heap[y]? = w2.heap[y]? → Whole W y 51 #[.bool x.any, .int .u32 (x.epoch : Int), .int .u32 (x.top : Int), .int .u64 (x.bits : Int)]) := Lib.hid (fun W hW => hW2.same hW)
  have HHW : Hid (∀ W : World, W.heap[h]? = w0.heap[h]? → W.cell? ⟨h, 0, none⟩ = some (pt b) ∧ W.cell? ⟨h, 1, none⟩ = some (.map (some mb))) := Lib.hid (fun W hW => ⟨(r0.whole.same hW).at_ 0, (r0.whole.same hW).at_ 1⟩)
  have HYZ : Hid (w0.heap.size = y ∧ w.heap.size = bx ∧ bx < y ∧ y < w2.heap.size ∧ h < bx ∧ mb < bx ∧ ∀ k, Ft k → k < bx ∧ k ≠ h ∧ k ≠ mb) := Lib.hid ⟨hy, hbx, by have := hGx.lt; omega, hW2.lt, by have := r.lt h r.self; omega, by have := r.lt mb r.fm.1; omega, fun k q => ⟨by have := r.lt k (r.ft k q).1; omega, (r.ft k q).2⟩⟩
  have HW1 := Lib.hid hW1
  obtain ⟨b0, b1, b2, b3⟩ := cellsS hW2
  obtain ⟨R, hR⟩ : ∃ R, Hid (x.fresh g.epoch g.id = R) := ⟨_, Lib.hid rfl⟩
  obtain ⟨X, hX⟩ : ∃ X, Hid (x.mark g.epoch g.id = X) := ⟨_, Lib.hid rfl⟩
  have CF : Hid (∀ W, Calls Try.prog 17 #[.agg #[.bool x.any, .int .u32 (x.epoch : Int), .int .u32 (x.top : Int), .int .u64 (x.bits : Int)], .int .u32 (g.epoch : Int), .int .u32 (g.id : Int)] W fun e w' => e = .returned (.int .i64 (R : Int)) ∧ Below W.heap.size W w') := Lib.hid (fun W => by
    have := cfresh20_any (w := W) (v := x.any) hxo.epoch hxo.top hxo.bits hgo.epoch hgo.id
    rw [← hR.out]; exact this)
  have CM : Hid (∀ W, Calls Try.prog 19 #[.agg #[.bool x.any, .int .u32 (x.epoch : Int), .int .u32 (x.top : Int), .int .u64 (x.bits : Int)], .int .u32 (g.epoch : Int), .int .u32 (g.id : Int)] W fun e w' => e = .returned (recV X) ∧ Below W.heap.size W w') := Lib.hid (fun W => by
    have := cmark20_any (w := W) (v := x.any) hxo.epoch hxo.top hxo.bits hgo.epoch hgo.id
    rw [← hX.out]; exact this)
  have HTK := Lib.hid (take_kind23 (m := m) (s := s) (sn := sn) (g := g))
  have HTO := Lib.hid (take_old23 (m := m) (s := s) (sn := sn) (g := g))
  have HTP := Lib.hid (fun P => take_open23 (m := m) (s := s) (sn := sn) (g := g) (P := P))
  have HTA := Lib.hid (fun P => take_all23 (m := m) (s := s) (sn := sn) (g := g) (P := P))
  rw [hx.out, hR.out] at HTO
  rw [hx.out, hR.out] at HTP
  rw [hx.out, hR.out, hX.out] at HTA
  have hkd256 := hgo.kind
  obtain ⟨T, hT⟩ : ∃ T, Hid (An.take m s sn g = T) := ⟨_, Lib.hid rfl⟩
  rw [hT.out] at HTK HTO HTP HTA ⊢
  obtain ⟨kd, hkd⟩ : ∃ x, Hid (g.kind = x) := ⟨_, Lib.hid rfl⟩
  obtain ⟨ve, hve⟩ : ∃ x, Hid (g.version = x) := ⟨_, Lib.hid rfl⟩
  obtain ⟨ep, hep⟩ : ∃ x, Hid (g.epoch = x) := ⟨_, Lib.hid rfl⟩
  obtain ⟨di, hdi⟩ : ∃ x, Hid (g.id = x) := ⟨_, Lib.hid rfl⟩
  obtain ⟨ix, hix⟩ : ∃ x, Hid (g.index = x) := ⟨_, Lib.hid rfl⟩
  obtain ⟨co, hco⟩ : ∃ x, Hid (g.count = x) := ⟨_, Lib.hid rfl⟩
  obtain ⟨ln, hln⟩ : ∃ x, Hid (g.body.length = x) := ⟨_, Lib.hid rfl⟩
  rw [hkd.out, hve.out, hep.out, hdi.out, hix.out, hco.out, hln.out] at hal hXW
  rw [hkd.out, hve.out, hep.out, hdi.out, hix.out, hco.out, hln.out] at TP
  rw [hep.out, hdi.out] at CF CM
  rw [hkd.out] at HTK HTO HTP HTA hkd256
  rw [hkd.out, hve.out, hep.out, hdi.out, hix.out, hco.out, hln.out]
  have HX : Hid (∀ W : World, W.heap[bx]? = w0.heap[bx]? → W.cell? ⟨bx, 0, none⟩ = some (.int .u8 (kd : Int)) ∧ W.cell? ⟨bx, 1, none⟩ = some (.int .u8 (ve : Int)) ∧ W.cell? ⟨bx, 2, none⟩ = some (.int .u32 (ep : Int)) ∧ W.cell? ⟨bx, 3, none⟩ = some (.int .u32 (di : Int)) ∧
      W.cell? ⟨bx, 4, none⟩ = some (.int .u16 (ix : Int)) ∧ W.cell? ⟨bx, 5, none⟩ = some (.int .u16 (co : Int)) ∧ W.cell? ⟨bx, 6, none⟩ = some (.slice A ln c)) := Lib.hid (fun W hW => by
    have hh := hXW.same hW
    exact ⟨hh.at_ 0, hh.at_ 1, hh.at_ 2, hh.at_ 3, hh.at_ 4, hh.at_ 5, hh.at_ 6⟩)
  obtain ⟨c0, c1, c2, c3, c4, c5, c6⟩ := HX.out w0 rfl
  have HSN := Lib.hid hsn
  clear r r0 hgo hGx hbx0 hk H hm hok hxo hW1 hW2 hB2 hB1 hl hXW hsn hsz0
  by_cases hkn : kd ≠ 1
  · have HD := Lib.hid (fun W (hW : Below w.heap.size w W) => AtakePost.none (er := 9) HATR.out hW)
    have hne : ((kd : Int) != 1) = true := by simp; omega
    rw [HTK.out hkn]
    clear b0 b1 b2 b3 hkd256
    go_enter Try.func9, Try.ntmps9
    go_wp2_with fail
    refine (MA.out).mono ?_
    rintro e wx ⟨rfl, rfl⟩
    go_wp2_with fail
    go_ret3
    exact HD.out _ HB0.out
  have hne1 : ((kd : Int) != 1) = false := by simp; omega
  by_cases hr : R = 0
  case neg =>
    have HD := Lib.hid (fun W (hW : Below w.heap.size w W) => AtakePost.none (er := R) HATR.out hW)
    have hne : ((R : Int) != 0) = true := by simp; omega
    rw [HTO.out hkn hr]
    clear hkd256 hr hkn
    go_enter Try.func9, Try.ntmps9
    go_wp2_with fail
    refine (MA.out).mono ?_
    rintro e wx ⟨rfl, rfl⟩
    obtain ⟨c20, c21, c22, c23, c24, c25, c26⟩ := HX.out w2 (HB2.out.block bx (by have := HYZ.out; omega))
    go_wp2_with (refine wpList_store_whole rfl rfl rfl rfl rfl HW1.out (seenI rfl) rfl (by simp [Value.oneCell']) ?_)
    refine (CF.out _).mono ?_
    rintro e w3 ⟨rfl, hb3⟩
    have HB3 := Lib.hid (HG2.out.trans (hb3.mono HG2.out.size))
    clear hb3 c20 c21 c22 c23 c24 c25 c26 b0 b1 b2 b3
    go_wp2_with fail
    go_ret3
    exact HD.out _ HB3.out
  subst hr
  obtain ⟨pt_, po, pe, pl⟩ := P
  have FO := Lib.hid (fun (W w4 : World) (v : Value) (Ft' : Nat → Prop) hb ho ht hs hn hf => HR.out.fin_open (W := W) (w4 := w4) (v := v) (Ft' := Ft') (told := pt_) (l := pl) (ok := false) (err := pe) hb ho ht hs hn hf)
  have FA := Lib.hid (fun (W w4 : World) (v : Value) (Ft' : Nat → Prop) hb ho ht hs hn hf (w4' w5 : World) hb4 hm hg hz => HR.out.fin_all (i := sn) (x := X) (W := W) (w4 := w4) (v := v) (Ft' := Ft') (told := pt_) (l := pl) (ok := true) (err := pe) hb ho ht hs hn hf (w4' := w4') (w5 := w5) hb4 hm hg hz)
  cases po with
  | false =>
    rw [HTP.out _ hkn rfl hP.out rfl]
    clear hkd256 hkn
    go_enter Try.func9, Try.ntmps9
    go_wp2_with fail
    refine (MA.out).mono ?_
    rintro e wx ⟨rfl, rfl⟩
    obtain ⟨c20, c21, c22, c23, c24, c25, c26⟩ := HX.out w2 (HB2.out.block bx (by have := HYZ.out; omega))
    go_wp2_with (refine wpList_store_whole rfl rfl rfl rfl rfl HW1.out (seenI rfl) rfl (by simp [Value.oneCell']) ?_)
    refine (CF.out _).mono ?_
    rintro e w3 ⟨rfl, hb3⟩
    have HS3 := Lib.hid hb3
    have HB3 := Lib.hid (HG2.out.trans (hb3.mono HG2.out.size))
    clear hb3 c20 c21 c22 c23 c24 c25 c26 b0 b1 b2 b3
    have hx3 : w3.heap[bx]? = wx.heap[bx]? := (HS3.out.block bx (by have := HYZ.out; omega)).trans (HB2.out.block bx (by have := HYZ.out; omega))
    have hh3 : w3.heap[h]? = wx.heap[h]? := (HS3.out.block h (by have := HYZ.out; omega)).trans (HB2.out.block h (by have := HYZ.out; omega))
    have HX3 := Lib.hid hx3
    have HH3 := Lib.hid hh3
    obtain ⟨c0, c1, c2, c3, c4, c5, c6⟩ := HX.out w3 hx3
    obtain ⟨a0, a1⟩ := HHW.out w3 hh3
    clear hx3 hh3
    go_upto_region 9 with fail
    refine wp_region_plan (S := fun W => W.cell? ⟨h, 0, none⟩ = some (pt b) ∧ W.cell? ⟨bx, 0, none⟩ = some (.int .u8 (kd : Int)) ∧ W.cell? ⟨bx, 1, none⟩ = some (.int .u8 (ve : Int)) ∧ W.cell? ⟨bx, 2, none⟩ = some (.int .u32 (ep : Int)) ∧ W.cell? ⟨bx, 3, none⟩ = some (.int .u32 (di : Int)) ∧
      W.cell? ⟨bx, 4, none⟩ = some (.int .u16 (ix : Int)) ∧ W.cell? ⟨bx, 5, none⟩ = some (.int .u16 (co : Int)) ∧ W.cell? ⟨bx, 6, none⟩ = some (.slice A ln c)) [(0, true), (1, true), (2, true), (3, true), (4, true), (5, true), (6, false), (7, true), (8, true), (9, true), (10, true), (11, true), (12, true), (13, true)] (by kernel_rfl) (by kernel_rfl) rfl (by kernel_rfl) (fun _ _ _ _ _ h => h) ⟨a0, c0, c1, c2, c3, c4, c5, c6⟩ ?_
    iterate 6
      refine along_take (v := ?_) rfl (by rfl) ?_ ?_
      rotate_left
      · intro W hW; obtain ⟨s0, s1, s2, s3, s4, s5, s6, s7⟩ := hW; go_simp; try with_reducible rfl
      simp only [Act.put, List.setIfInBounds_toArray, List.set_cons_zero, List.set_cons_succ]
    refine along_step rfl (fun K hK => ?_)
    go_simp
    refine (TP.out _ HS3.out.drew).mono ?_
    rintro e w4 ⟨v4, Ft', rfl, ho, ht, hs, hn, hf⟩
    have hbz : bx < w3.heap.size ∧ h < w3.heap.size ∧ y < w3.heap.size ∧ mb < w3.heap.size := by have h1 := HS3.out.size; have h2 := HYZ.out; omega
    have hfb : ¬ Ft bx ∧ ¬ Ft h ∧ ¬ Ft y ∧ ¬ Ft mb := by
      have h2 := HYZ.out.2.2.2.2.2.2
      have h3 := HYZ.out
      exact ⟨fun q => by have := (h2 bx q).1; omega, fun q => (h2 h q).2.1 rfl, fun q => by have := (h2 y q).1; omega, fun q => (h2 mb q).2.2 rfl⟩
    have hx4 : w4.heap[bx]? = wx.heap[bx]? := (hf.block bx hbz.1 hfb.1).trans HX3.out
    have hh4 : w4.heap[h]? = wx.heap[h]? := (hf.block h hbz.2.1 hfb.2.1).trans HH3.out
    have hy4 : w4.heap[y]? = w2.heap[y]? := (hf.block y hbz.2.2.1 hfb.2.2.1).trans (HS3.out.block y HYZ.out.2.2.2.1)
    have HX4 := Lib.hid hx4
    have HH4 := Lib.hid hh4
    have HY4 := Lib.hid hy4
    clear c0 c1 c2 c3 c4 c5 c6 a0 a1
    obtain ⟨c0, c1, c2, c3, c4, c5, c6⟩ := HX.out w4 hx4
    obtain ⟨a0, a1⟩ := HHW.out w4 hh4
    clear hx4 hh4 hy4 hbz hfb
    refine hK.out _ _ ⟨a0, c0, c1, c2, c3, c4, c5, c6⟩ ?_
    clear hK K
    have HO := Lib.hid ho
    have HT4 := Lib.hid ht
    have HS4 := Lib.hid hs
    have HN4 := Lib.hid hn
    have HF4 := Lib.hid hf
    clear ho ht hs hn hf
    try simp only [Act.put, List.setIfInBounds_toArray, List.set_cons_zero, List.set_cons_succ]
    iterate 7
      refine along_take (v := ?_) rfl (by rfl) ?_ ?_
      rotate_left
      · intro W hW; clear hW; go_simp; try with_reducible rfl
      simp only [Act.put, List.setIfInBounds_toArray, List.set_cons_zero, List.set_cons_succ]
    refine along_done ?_
    have HB3d : Hid (Below w.heap.size w w3.drew) := Lib.hid HB3.out.drew
    clear c0 c1 c2 c3 c4 c5 c6 a0 a1
    go_wp2_with fail
    go_ret3
    exact FO.out _ _ _ _ HB3d.out HO.out HT4.out HS4.out HN4.out HF4.out
  | true =>
    rw [HTA.out _ hkn rfl hP.out rfl]
    clear hkd256 hkn
    go_enter Try.func9, Try.ntmps9
    go_wp2_with fail
    refine (MA.out).mono ?_
    rintro e wx ⟨rfl, rfl⟩
    obtain ⟨c20, c21, c22, c23, c24, c25, c26⟩ := HX.out w2 (HB2.out.block bx (by have := HYZ.out; omega))
    go_wp2_with (refine wpList_store_whole rfl rfl rfl rfl rfl HW1.out (seenI rfl) rfl (by simp [Value.oneCell']) ?_)
    refine (CF.out _).mono ?_
    rintro e w3 ⟨rfl, hb3⟩
    have HS3 := Lib.hid hb3
    have HB3 := Lib.hid (HG2.out.trans (hb3.mono HG2.out.size))
    clear hb3 c20 c21 c22 c23 c24 c25 c26 b0 b1 b2 b3
    have hx3 : w3.heap[bx]? = wx.heap[bx]? := (HS3.out.block bx (by have := HYZ.out; omega)).trans (HB2.out.block bx (by have := HYZ.out; omega))
    have hh3 : w3.heap[h]? = wx.heap[h]? := (HS3.out.block h (by have := HYZ.out; omega)).trans (HB2.out.block h (by have := HYZ.out; omega))
    have HX3 := Lib.hid hx3
    have HH3 := Lib.hid hh3
    obtain ⟨c0, c1, c2, c3, c4, c5, c6⟩ := HX.out w3 hx3
    obtain ⟨a0, a1⟩ := HHW.out w3 hh3
    clear hx3 hh3
    go_upto_region 9 with fail
    refine wp_region_plan (S := fun W => W.cell? ⟨h, 0, none⟩ = some (pt b) ∧ W.cell? ⟨bx, 0, none⟩ = some (.int .u8 (kd : Int)) ∧ W.cell? ⟨bx, 1, none⟩ = some (.int .u8 (ve : Int)) ∧ W.cell? ⟨bx, 2, none⟩ = some (.int .u32 (ep : Int)) ∧ W.cell? ⟨bx, 3, none⟩ = some (.int .u32 (di : Int)) ∧
      W.cell? ⟨bx, 4, none⟩ = some (.int .u16 (ix : Int)) ∧ W.cell? ⟨bx, 5, none⟩ = some (.int .u16 (co : Int)) ∧ W.cell? ⟨bx, 6, none⟩ = some (.slice A ln c)) [(0, true), (1, true), (2, true), (3, true), (4, true), (5, true), (6, false), (7, true), (8, true), (9, true), (10, true), (11, true), (12, true), (13, true)] (by kernel_rfl) (by kernel_rfl) rfl (by kernel_rfl) (fun _ _ _ _ _ h => h) ⟨a0, c0, c1, c2, c3, c4, c5, c6⟩ ?_
    iterate 6
      refine along_take (v := ?_) rfl (by rfl) ?_ ?_
      rotate_left
      · intro W hW; obtain ⟨s0, s1, s2, s3, s4, s5, s6, s7⟩ := hW; go_simp; try with_reducible rfl
      simp only [Act.put, List.setIfInBounds_toArray, List.set_cons_zero, List.set_cons_succ]
    refine along_step rfl (fun K hK => ?_)
    go_simp
    refine (TP.out _ HS3.out.drew).mono ?_
    rintro e w4 ⟨v4, Ft', rfl, ho, ht, hs, hn, hf⟩
    have hbz : bx < w3.heap.size ∧ h < w3.heap.size ∧ y < w3.heap.size ∧ mb < w3.heap.size := by have h1 := HS3.out.size; have h2 := HYZ.out; omega
    have hfb : ¬ Ft bx ∧ ¬ Ft h ∧ ¬ Ft y ∧ ¬ Ft mb := by
      have h2 := HYZ.out.2.2.2.2.2.2
      have h3 := HYZ.out
      exact ⟨fun q => by have := (h2 bx q).1; omega, fun q => (h2 h q).2.1 rfl, fun q => by have := (h2 y q).1; omega, fun q => (h2 mb q).2.2 rfl⟩
    have hx4 : w4.heap[bx]? = wx.heap[bx]? := (hf.block bx hbz.1 hfb.1).trans HX3.out
    have hh4 : w4.heap[h]? = wx.heap[h]? := (hf.block h hbz.2.1 hfb.2.1).trans HH3.out
    have hy4 : w4.heap[y]? = w2.heap[y]? := (hf.block y hbz.2.2.1 hfb.2.2.1).trans (HS3.out.block y HYZ.out.2.2.2.1)
    have HX4 := Lib.hid hx4
    have HH4 := Lib.hid hh4
    have HY4 := Lib.hid hy4
    clear c0 c1 c2 c3 c4 c5 c6 a0 a1
    obtain ⟨c0, c1, c2, c3, c4, c5, c6⟩ := HX.out w4 hx4
    obtain ⟨a0, a1⟩ := HHW.out w4 hh4
    clear hx4 hh4 hy4 hbz hfb
    refine hK.out _ _ ⟨a0, c0, c1, c2, c3, c4, c5, c6⟩ ?_
    clear hK K
    have HO := Lib.hid ho
    have HT4 := Lib.hid ht
    have HS4 := Lib.hid hs
    have HN4 := Lib.hid hn
    have HF4 := Lib.hid hf
    clear ho ht hs hn hf
    try simp only [Act.put, List.setIfInBounds_toArray, List.set_cons_zero, List.set_cons_succ]
    iterate 7
      refine along_take (v := ?_) rfl (by rfl) ?_ ?_
      rotate_left
      · intro W hW; clear hW; go_simp; try with_reducible rfl
      simp only [Act.put, List.setIfInBounds_toArray, List.set_cons_zero, List.set_cons_succ]
    refine along_done ?_
    have HB3d : Hid (Below w.heap.size w w3.drew) := Lib.hid HB3.out.drew
    have HMS : Hid (∀ W, Below w4.heap.size w4 W → ∃ w', (Instr.mapUpdate 57 (.map (some mb)) (.int .u16 (sn : Int)) (recV X)).run Try.prog W = .ok () w' ∧ Mu Try.prog 32 .u16 65536 nilS23 w' mb (setU f sn (recV X)) ∧ W.grownBy w' (some mb) ∧ w'.heap.size = W.heap.size) := Lib.hid (fun W hW => by
      have h5 := ((HR.out.fin4 HB3d.out HO.out HT4.out HS4.out HN4.out HF4.out).1.stay hW).mp
      exact h5.store Try.underlying32 Try.underlying57 lit16_wf (Nat.lt_of_le_of_lt (cntU_le f 65536) (by unfold maxLen; omega)) HSN.out (recV X))
    clear c0 c1 c2 c3 c4 c5 c6 a0 a1
    go_upto_region 11 with fail
    refine wp_region_last (S := fun W => Below w4.heap.size w4 W) 11 [(0, true), (1, true), (2, true), (3, true), (4, true), (5, true), (6, true), (7, true), (8, true), (9, true), (10, false), (11, false)] (by kernel_rfl) (by kernel_rfl) rfl (by kernel_rfl) (by rfl) (fun _ _ _ _ _ h => h) (Below.refl _ _).drew ?_
    iterate 10
      refine alongL_take (v := ?_) rfl (by rfl) ?_ ?_
      rotate_left
      · intro W hW
        obtain ⟨s0, s1, s2, s3, s4, s5, s6⟩ := HX.out W ((hW.block bx (by have h1 := HF4.out.size; have h2 := HS3.out.size; have h3 := HYZ.out; have h4 : w3.drew.heap.size = w3.heap.size := rfl; omega)).trans HX4.out)
        obtain ⟨t0, t1⟩ := HHW.out W ((hW.block h (by have h1 := HF4.out.size; have h2 := HS3.out.size; have h3 := HYZ.out; have h4 : w3.drew.heap.size = w3.heap.size := rfl; omega)).trans HH4.out)
        obtain ⟨u0, u1, u2, u3⟩ := cellsS (HXY.out W ((hW.block y (by have h1 := HF4.out.size; have h2 := HS3.out.size; have h3 := HYZ.out; have h4 : w3.drew.heap.size = w3.heap.size := rfl; omega)).trans HY4.out))
        clear hW; go_simp; try with_reducible rfl
      simp only [Act.put, List.setIfInBounds_toArray, List.set_cons_zero, List.set_cons_succ]
    refine alongL_step rfl (fun K hK => ?_)
    go_simp
    refine (CM.out _).mono ?_
    rintro e w5 ⟨rfl, hb5⟩
    have HS5 : Hid (Below w4.heap.size w4 w5) := Lib.hid ((Below.refl _ _).drew.trans hb5)
    refine hK.out _ _ HS5.out ?_
    clear hK K hb5
    try simp only [Act.put, List.setIfInBounds_toArray, List.set_cons_zero, List.set_cons_succ]
    refine alongL_last rfl (fun K hK => ?_)
    obtain ⟨w6, hr6, hm6, hg6, hz6⟩ := HMS.out w5 HS5.out
    have HM6 := Lib.hid hm6
    have HG6 := Lib.hid hg6
    have HZ6 := Lib.hid hz6
    clear hm6 hg6 hz6
    go_simp
    refine hK.out _ _ ?_
    clear hK K
    go_wp2_with fail
    go_ret3
    exact FA.out _ _ _ _ HB3d.out HO.out HT4.out HS4.out HN4.out HF4.out _ _ HS5.out HM6.out HG6.out HZ6.out
end Go.Proofs.Ytbhdgfpaoghnbaa
