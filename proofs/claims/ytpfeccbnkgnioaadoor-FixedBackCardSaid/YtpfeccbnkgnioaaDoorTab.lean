/- The table of kinds, a variable of the program: what its list says a walk may read. -/
import Derived.Test.YtpfeccbnkgnioaaDoorRows
import Derived.Test.YtpfeccbnkgnioaaDoorMv
import Derived.LaidMore
import Derived.LaidLaws
import Derived.Lib.LaidTab
import Derived.Stop.Joined
namespace Go.Proofs.YtpfeccbnkgnioaaDoor
open Go.ChangeShapes Go.WideShapes Go.ChangeAt Go.RowKit
set_option linter.unusedVariables false
set_option maxRecDepth 100000
open Gm

/-- the table lies where the program has it -/
def Tab (w : World) : Prop := ∀ i, i < 13 → w.cell? ⟨0, i * 5, none⟩ = some (.string (ent i).name) ∧ w.cell? ⟨0, i * 5 + 1, none⟩ = some (.int .u16 ((ent i).own : Int)) ∧ w.cell? ⟨0, i * 5 + 2, none⟩ = some (.int .u16 ((ent i).ifHas : Int)) ∧
  w.cell? ⟨0, i * 5 + 3, none⟩ = some (.int .u16 ((ent i).full : Int)) ∧ w.cell? ⟨0, i * 5 + 4, none⟩ = some (.int .u16 ((ent i).ans : Int))
theorem Tab.lt {w : World} (h : Tab w) : 0 < w.heap.size := by
  have h0 := (h 0 (by decide)).1
  rcases Nat.lt_or_ge 0 w.heap.size with h1 | h1
  · exact h1
  · simp [World.cell?, Array.getElem?_eq_none h1] at h0
theorem Tab.below {w w' : World} {B : Nat} (h : Tab w) (hb : Below B w w') (hB : 0 < B) : Tab w' := fun i hi => by
  have c := fun j => hb.cell (p := ⟨0, j, none⟩) hB
  rw [c, c, c, c, c]
  exact h i hi
theorem Tab.kept {w w' : World} (h : Tab w) (hb : Below w.heap.size w w') : Tab w' := h.below hb h.lt

def enData (e : En) : DataW Unit := .agg [.lit (.string e.name.data.toList), .lit (.int .u16 (e.own : Int)), .lit (.int .u16 (e.ifHas : Int)), .lit (.int .u16 (e.full : Int)), .lit (.int .u16 (e.ans : Int))]
theorem laid_rows : (Rows.laid_annulet_msg_kinds : DataW Unit) = .agg (tbl.map enData) := rfl

/-- out of the row's list -/
theorem tab_of_laid {W : World} (h : laidMetH Tryd.prog [("annulet/msg.kinds", Rows.laid_annulet_msg_kinds)] W) : Tab W := by
  rw [MakeChecks.laidMetH_plain _ _ _ (by kernel_rfl)] at h
  obtain ⟨ps, ⟨g, t, cs, fuel, p, q, hg, ht, hv, hd, _, _⟩, _⟩ := h
  obtain rfl := Option.some.inj ((show Tryd.prog.globalNamed "annulet/msg.kinds" = some 0 by kernel_rfl).symm.trans hg)
  obtain rfl := Option.some.inj ((show (Tryd.prog.globals[0]?).map (·.type) = some 95 by kernel_rfl).symm.trans ht)
  obtain ⟨xs, m, rfl, hx, hlen, hn, hel⟩ := DataW.trod_array Tryd.underlying95 hd
  have c5 : Tryd.prog.cellsOf 72 = 5 := by kernel_rfl
  have c1 : Tryd.prog.cellsOf 9 = 1 := by kernel_rfl
  have c2 : Tryd.prog.cellsOf 64 = 1 := by kernel_rfl
  have c3 : Tryd.prog.cellsOf 70 = 1 := by kernel_rfl
  have c65 : Tryd.prog.cellsOf 95 = 65 := by kernel_rfl
  rw [c65] at hlen
  rw [laid_rows] at hx
  simp only [Prod.mk.injEq, DataW.agg.injEq] at hx
  have hx := hx.1
  intro i hi
  have h1 := hel i hi
  rw [c5] at h1
  have hi' : i < xs.length := by omega
  rw [List.getElem?_eq_getElem hi'] at h1
  obtain ⟨ys, n, _, hy, hl, hm, hf⟩ := DataW.trod_struct Tryd.underlying72 h1
  have hd1 : xs[i].1 = enData (ent i) := by
    have := congrArg (·[i]?) hx
    simp only [List.getElem?_map, List.getElem?_eq_getElem hi', Option.map_some] at this
    rw [List.getElem?_eq_getElem (show i < tbl.length from hi)] at this
    simp only [Option.map_some, Option.some.injEq] at this
    rw [← this]
    unfold ent
    rw [List.getD, List.getElem?_eq_getElem (show i < tbl.length from hi)]
    rfl
  have hd2 := hd1.symm.trans (congrArg Prod.fst hy)
  simp only [enData, DataW.agg.injEq] at hd2
  rw [c5] at hl
  match ys, hm with
  | [y0, y1, y2, y3, y4], _ =>
  have hcell : ∀ j, W.cell? ⟨0, j, none⟩ = cs[j]? := fun j => World.var?_cell hg hv j
  generalize hds : (cs.toList.drop (i * 5)).take 5 = dsl at *
  match dsl, hl with
  | [d0, d1, d2, d3, d4], _ =>
  have g0 : DataW.trod _ Tryd.prog W 0 _ false n 9 [d0] = some y0 := trod_field hf 0 _ rfl 9 0 1 rfl rfl c1
  have g1 : DataW.trod _ Tryd.prog W 0 _ false n 64 [d1] = some y1 := trod_field hf 1 _ rfl 64 1 1 rfl rfl c2
  have g2 : DataW.trod _ Tryd.prog W 0 _ false n 64 [d2] = some y2 := trod_field hf 2 _ rfl 64 2 1 rfl rfl c2
  have g3 : DataW.trod _ Tryd.prog W 0 _ false n 64 [d3] = some y3 := trod_field hf 3 _ rfl 64 3 1 rfl rfl c2
  have g4 : DataW.trod _ Tryd.prog W 0 _ false n 70 [d4] = some y4 := trod_field hf 4 _ rfl 70 4 1 rfl rfl c3
  obtain ⟨s0, e0, f0, _⟩ := DataW.trod_string Tryd.underlying9 g0
  obtain ⟨s1, e1, f1, _⟩ := DataW.trod_int Tryd.underlying64 g1
  obtain ⟨s2, e2, f2, _⟩ := DataW.trod_int Tryd.underlying64 g2
  obtain ⟨s3, e3, f3, _⟩ := DataW.trod_int Tryd.underlying64 g3
  obtain ⟨s4, e4, f4, _⟩ := DataW.trod_int Tryd.underlying70 g4
  subst f0 f1 f2 f3 f4
  simp only [List.map_cons, List.map_nil, List.cons.injEq, DataW.lit.injEq, Lit.int.injEq, Lit.string.injEq, true_and, and_true] at hd2
  obtain ⟨q0, q1, q2, q3, q4⟩ := hd2
  simp only [List.cons.injEq, and_true] at e0 e1 e2 e3 e4
  have at_ : ∀ j (hj : j < 5), cs[i * 5 + j]? = [d0, d1, d2, d3, d4][j]? := fun j hj => by
    rw [← hds]
    simp [hj]
  have qs : s0 = (ent i).name := by
    apply ByteArray.ext
    apply Array.toList_inj.1
    exact q0.symm
  refine ⟨?_, ?_, ?_, ?_, ?_⟩
  · rw [hcell]; have := at_ 0 (by decide); simp at this; rw [this, e0, qs]
  · rw [hcell, at_ 1 (by decide)]; simp [e1, q1]
  · rw [hcell, at_ 2 (by decide)]; simp [e2, q2]
  · rw [hcell, at_ 3 (by decide)]; simp [e3, q3]
  · rw [hcell, at_ 4 (by decide)]; simp [e4, q4]
end Go.Proofs.YtpfeccbnkgnioaaDoor
