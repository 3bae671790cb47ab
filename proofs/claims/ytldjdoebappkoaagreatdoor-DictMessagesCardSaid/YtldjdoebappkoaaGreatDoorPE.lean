/- Texts Gm, Mv, Tab, Kinds, Ref8, Key8, St, in one. -/
import Derived.Test.YtldjdoebappkoaaGreatDoorPA
import Derived.Test.YtldjdoebappkoaaGreatDoorPB
import Derived.Test.YtldjdoebappkoaaGreatDoorRows
import Derived.LaidMore
import Derived.LaidLaws
import Derived.Lib.LaidTab
import Derived.Stop.Joined
import Derived.PlainAid
import Derived.Laws.StructEq
/- Plain mathematics of messages: which fields a kind has, keys, what is bare, the same, right. -/
namespace Go.Proofs.YtldjdoebappkoaaGreatDoor
open Go.RowKit
set_option linter.unusedVariables false
namespace Gm

/-- a message -/
structure Ms where
  kind : Int
  rid : Nat
  code : Nat
  has : Bool
  id : Nat
  key : ByteArray
  val : ByteArray
  pid : Nat
  pad : Nat
  peers : List (Nat × Nat)
  pairs : List (ByteArray × ByteArray)

/-- chapter 8: a key -/
def isKey (s : ByteArray) : Bool := decide (0 < s.size) && decide (s.size ≤ 96) && Tm.valid (nums s) && decide ((Tm.parts (nums s)).length ≤ 32)

def oCode (m : Ms) : Bool := decide (m.kind = 12)
def oHas (m : Ms) : Bool := decide (m.kind = 2 ∨ m.kind = 4 ∨ m.kind = 9 ∨ m.kind = 10)
def oId (m : Ms) : Bool := decide (m.kind = 1)
def oPeer (m : Ms) : Bool := decide (m.kind = 5) || (decide (m.kind = 4) && m.has)
def oPeers (m : Ms) : Bool := decide (m.kind = 2 ∨ m.kind = 4)
def oKey (m : Ms) : Bool := decide (m.kind = 7 ∨ m.kind = 8)
def oVal (m : Ms) : Bool := decide (m.kind = 7) || (decide (m.kind = 9) && m.has)
def oPairs (m : Ms) : Bool := decide (m.kind = 10)
def known (k : Int) : Bool := decide (0 < k) && decide (k < 13)

/-- only if -/
def oi {α : Type} (b : Bool) (x z : α) : α := bif b then x else z
theorem oi_true {α : Type} (x z : α) : oi true x z = x := rfl
theorem oi_false {α : Type} (x z : α) : oi false x z = z := rfl
theorem oi_oi {α : Type} (b : Bool) (x z : α) : oi b (oi b x z) z = oi b x z := by cases b <;> rfl

/-- a message without what its kind does not have -/
def bareBy (c h i p ps k v pr : Bool) (m : Ms) : Ms where
  kind := m.kind
  rid := m.rid
  code := oi c m.code 0
  has := oi h m.has false
  id := oi i m.id 0
  key := oi k m.key ⟨#[]⟩
  val := oi v m.val ⟨#[]⟩
  pid := oi p m.pid 0
  pad := oi p m.pad 0
  peers := oi ps m.peers []
  pairs := oi pr m.pairs []
def bare (m : Ms) : Ms := bareBy (oCode m) (oHas m) (oId m) (oPeer m) (oPeers m) (oKey m) (oVal m) (oPairs m) m

/-- all fields but the lists -/
def same1 (a b : Ms) : Bool := decide (a.kind = b.kind) && decide (a.rid = b.rid) && decide (a.code = b.code) && decide (a.has = b.has) && decide (a.id = b.id) && decide (a.key = b.key) && decide (a.val = b.val) && (decide (a.pid = b.pid) && decide (a.pad = b.pad))
def same (a b : Ms) : Bool := same1 a b && decide (a.peers = b.peers) && decide (a.pairs = b.pairs)
theorem same_iff {a b : Ms} : same a b = true ↔ a = b := by
  cases a; cases b
  simp [same, same1, and_assoc]
theorem same_refl (a : Ms) : same a a = true := same_iff.2 rfl

def isLong (m : Ms) : Bool := decide (512 < m.val.size) || decide (16 < m.peers.length) || decide (8 < m.pairs.length) || m.pairs.any fun p => decide (512 < p.2.size)
def isShort (m : Ms) : Bool := (decide (m.kind = 2) && decide (m.peers.length = 0)) || (decide (m.kind = 10) && decide (m.pairs.length = 0)) || (decide (m.kind = 12) && decide (m.code = 0))
def badKey (m : Ms) : Bool := (oKey m && !isKey m.key) || m.pairs.any fun p => !isKey p.1
/-- chapter 8: whether a message may be, and why not -/
def right (m : Ms) : Nat :=
  bif !known m.kind then 9 else bif !same m (bare m) then 1 else bif badKey m then 7 else bif isLong m then 5 else bif isShort m then 2 else 0

theorem o_bare (m : Ms) : oCode (bare m) = oCode m ∧ oHas (bare m) = oHas m ∧ oId (bare m) = oId m ∧ oPeer (bare m) = oPeer m ∧ oPeers (bare m) = oPeers m ∧ oKey (bare m) = oKey m ∧ oVal (bare m) = oVal m ∧ oPairs (bare m) = oPairs m := by
  refine ⟨rfl, rfl, rfl, ?_, rfl, rfl, ?_, rfl⟩
  · show (decide (m.kind = 5) || (decide (m.kind = 4) && oi (oHas m) m.has false)) = (decide (m.kind = 5) || (decide (m.kind = 4) && m.has))
    unfold oHas
    by_cases h : m.kind = 4
    · simp [h, oi_true]
    · simp [h]
  · show (decide (m.kind = 7) || (decide (m.kind = 9) && oi (oHas m) m.has false)) = (decide (m.kind = 7) || (decide (m.kind = 9) && m.has))
    unfold oHas
    by_cases h : m.kind = 9
    · simp [h, oi_true]
    · simp [h]
theorem bare_bare (m : Ms) : bare (bare m) = bare m := by
  obtain ⟨h1, h2, h3, h4, h5, h6, h7, h8⟩ := o_bare m
  have e : bare (bare m) = bareBy (oCode (bare m)) (oHas (bare m)) (oId (bare m)) (oPeer (bare m)) (oPeers (bare m)) (oKey (bare m)) (oVal (bare m)) (oPairs (bare m)) (bare m) := rfl
  rw [e, h1, h2, h3, h4, h5, h6, h7, h8]
  unfold bare bareBy
  simp only [oi_oi]
theorem right_bare (m : Ms) : right (bare m) ≠ 1 := by
  unfold right
  rw [bare_bare, same_refl]
  simp only [cond_eq_ite]
  repeat' split
  all_goals simp_all
theorem right_zero {m : Ms} (h : right m = 0) : same m (bare m) = true := by
  unfold right at h
  cases hk : known m.kind <;> cases hs : same m (bare m) <;> simp_all

/-! ### sets of fields as numbers -/
def mask (c h i p ps k v pr : Bool) : Nat := c.toNat + 2 * h.toNat + 4 * i.toNat + 8 * p.toNat + 16 * ps.toNat + 32 * k.toNat + 64 * v.toNat + 128 * pr.toNat
def own (m : Ms) : Nat := mask (oCode m) (oHas m) (oId m) (oPeer m) (oPeers m) (oKey m) (oVal m) (oPairs m)
def uCode (m : Ms) : Bool := !decide (m.code = 0)
def uId (m : Ms) : Bool := !decide (m.id = 0)
def uPeer (m : Ms) : Bool := !(decide (m.pid = 0) && decide (m.pad = 0))
def uPeers (m : Ms) : Bool := decide (0 < m.peers.length)
def uKey (m : Ms) : Bool := !decide (m.key = ⟨#[]⟩)
def uVal (m : Ms) : Bool := !decide (m.val = ⟨#[]⟩)
def uPairs (m : Ms) : Bool := decide (0 < m.pairs.length)
def used (m : Ms) : Nat := mask (uCode m) m.has (uId m) (uPeer m) (uPeers m) (uKey m) (uVal m) (uPairs m)
theorem mask_lt (c h i p ps k v pr : Bool) : mask c h i p ps k v pr < 256 := by
  cases c <;> cases h <;> cases i <;> cases p <;> cases ps <;> cases k <;> cases v <;> cases pr <;> decide
theorem mask_bits (c h i p ps k v pr : Bool) :
    bits .and .u16 ((mask c h i p ps k v pr : Nat) : Int) 1 = ((c.toNat : Nat) : Int) ∧ bits .and .u16 ((mask c h i p ps k v pr : Nat) : Int) 2 = ((2 * h.toNat : Nat) : Int) ∧ bits .and .u16 ((mask c h i p ps k v pr : Nat) : Int) 4 = ((4 * i.toNat : Nat) : Int) ∧
    bits .and .u16 ((mask c h i p ps k v pr : Nat) : Int) 8 = ((8 * p.toNat : Nat) : Int) ∧ bits .and .u16 ((mask c h i p ps k v pr : Nat) : Int) 16 = ((16 * ps.toNat : Nat) : Int) ∧ bits .and .u16 ((mask c h i p ps k v pr : Nat) : Int) 32 = ((32 * k.toNat : Nat) : Int) ∧
    bits .and .u16 ((mask c h i p ps k v pr : Nat) : Int) 64 = ((64 * v.toNat : Nat) : Int) ∧ bits .and .u16 ((mask c h i p ps k v pr : Nat) : Int) 128 = ((128 * pr.toNat : Nat) : Int) := by
  revert c h i p ps k v pr
  decide +kernel

theorem own_cases (m : Ms) : (oCode m, oHas m, oId m, oPeer m, oPeers m, oKey m, oVal m, oPairs m) ∈ ([(false, false, false, false, false, false, false, false), (false, false, true, false, false, false, false, false), (false, true, false, false, true, false, false, false),
    (false, true, false, false, true, false, false, false), (false, true, false, true, true, false, false, false), (false, false, false, true, false, false, false, false), (false, false, false, false, false, true, true, false), (false, false, false, false, false, true, false, false),
    (false, true, false, false, false, false, false, false), (false, true, false, false, false, false, true, false), (false, true, false, false, false, false, false, true), (true, false, false, false, false, false, false, false)] : List (Bool × Bool × Bool × Bool × Bool × Bool × Bool × Bool)) := by
  have hc : m.kind = 1 ∨ m.kind = 2 ∨ m.kind = 4 ∨ m.kind = 5 ∨ m.kind = 7 ∨ m.kind = 8 ∨ m.kind = 9 ∨ m.kind = 10 ∨ m.kind = 12 ∨ (m.kind ≠ 1 ∧ m.kind ≠ 2 ∧ m.kind ≠ 4 ∧ m.kind ≠ 5 ∧ m.kind ≠ 7 ∧ m.kind ≠ 8 ∧ m.kind ≠ 9 ∧ m.kind ≠ 10 ∧ m.kind ≠ 12) := by omega
  unfold oCode oHas oId oPeer oPeers oKey oVal oPairs
  rcases hc with h | h | h | h | h | h | h | h | h | ⟨h1, h2, h4, h5, h7, h8, h9, h10, h12⟩
  case inr => simp_all
  all_goals (rw [h]; cases m.has <;> decide)
theorem andNot_table : ∀ o ∈ ([(false, false, false, false, false, false, false, false), (false, false, true, false, false, false, false, false), (false, true, false, false, true, false, false, false),
    (false, true, false, false, true, false, false, false), (false, true, false, true, true, false, false, false), (false, false, false, true, false, false, false, false), (false, false, false, false, false, true, true, false), (false, false, false, false, false, true, false, false),
    (false, true, false, false, false, false, false, false), (false, true, false, false, false, false, true, false), (false, true, false, false, false, false, false, true), (true, false, false, false, false, false, false, false)] : List (Bool × Bool × Bool × Bool × Bool × Bool × Bool × Bool)),
    ∀ c h i p ps k v pr : Bool, bits .andNot .u16 ((mask c h i p ps k v pr : Nat) : Int) ((mask o.1 o.2.1 o.2.2.1 o.2.2.2.1 o.2.2.2.2.1 o.2.2.2.2.2.1 o.2.2.2.2.2.2.1 o.2.2.2.2.2.2.2 : Nat) : Int) =
      ((mask (c && !o.1) (h && !o.2.1) (i && !o.2.2.1) (p && !o.2.2.2.1) (ps && !o.2.2.2.2.1) (k && !o.2.2.2.2.2.1) (v && !o.2.2.2.2.2.2.1) (pr && !o.2.2.2.2.2.2.2) : Nat) : Int) := by
  decide +kernel
/-- the fields that are used though the kind does not have them -/
def extra (m : Ms) : Nat := mask (uCode m && !oCode m) (m.has && !oHas m) (uId m && !oId m) (uPeer m && !oPeer m) (uPeers m && !oPeers m) (uKey m && !oKey m) (uVal m && !oVal m) (uPairs m && !oPairs m)
theorem extra_bits (m : Ms) : bits .andNot .u16 ((used m : Nat) : Int) ((own m : Nat) : Int) = ((extra m : Nat) : Int) :=
  andNot_table _ (own_cases m) (uCode m) m.has (uId m) (uPeer m) (uPeers m) (uKey m) (uVal m) (uPairs m)
theorem mask_zero {c h i p ps k v pr : Bool} : mask c h i p ps k v pr = 0 ↔ c = false ∧ h = false ∧ i = false ∧ p = false ∧ ps = false ∧ k = false ∧ v = false ∧ pr = false := by
  cases c <;> cases h <;> cases i <;> cases p <;> cases ps <;> cases k <;> cases v <;> cases pr <;> decide
theorem extra_zero {m : Ms} : extra m = 0 ↔ same m (bare m) = true := by
  unfold extra
  rw [mask_zero, same_iff]
  have key : ∀ (a o : Bool), (a && !o) = false ↔ (o = false → a = false) := by decide
  simp only [key]
  constructor
  · rintro ⟨h1, h2, h3, h4, h5, h6, h7, h8⟩
    have e : ∀ {α : Type} (o : Bool) (x z : α), (o = false → x = z) → oi o x z = x := by
      intro α o x z h
      cases o
      · exact (h rfl).symm
      · rfl
    cases m with
    | mk kind rid code has id keyy val pid pad peers pairs =>
    simp only [bare, bareBy, Ms.mk.injEq, true_and]
    refine ⟨(e _ _ _ fun h => ?_).symm, (e _ _ _ fun h => ?_).symm, (e _ _ _ fun h => ?_).symm, (e _ _ _ fun h => ?_).symm, (e _ _ _ fun h => ?_).symm, (e _ _ _ fun h => ?_).symm, (e _ _ _ fun h => ?_).symm, (e _ _ _ fun h => ?_).symm, (e _ _ _ fun h => ?_).symm⟩
    · simpa [uCode] using h1 h
    · exact h2 h
    · simpa [uId] using h3 h
    · simpa [uKey] using h6 h
    · simpa [uVal] using h7 h
    · have := h4 h; simp [uPeer] at this; exact this.1
    · have := h4 h; simp [uPeer] at this; exact this.2
    · have := h5 h; simpa [uPeers] using this
    · have := h8 h; simpa [uPairs] using this
  · intro h
    refine ⟨fun o => ?_, fun o => ?_, fun o => ?_, fun o => ?_, fun o => ?_, fun o => ?_, fun o => ?_, fun o => ?_⟩
    · have e := congrArg Ms.code h; rw [show (bare m).code = oi (oCode m) m.code 0 from rfl, o, oi_false] at e; simp [uCode, e]
    · have e := congrArg Ms.has h; rw [show (bare m).has = oi (oHas m) m.has false from rfl, o, oi_false] at e; exact e
    · have e := congrArg Ms.id h; rw [show (bare m).id = oi (oId m) m.id 0 from rfl, o, oi_false] at e; simp [uId, e]
    · have e := congrArg Ms.pid h; have f := congrArg Ms.pad h
      rw [show (bare m).pid = oi (oPeer m) m.pid 0 from rfl, o, oi_false] at e
      rw [show (bare m).pad = oi (oPeer m) m.pad 0 from rfl, o, oi_false] at f
      simp [uPeer, e, f]
    · have e := congrArg Ms.peers h; rw [show (bare m).peers = oi (oPeers m) m.peers [] from rfl, o, oi_false] at e; simp [uPeers, e]
    · have e := congrArg Ms.key h; rw [show (bare m).key = oi (oKey m) m.key ⟨#[]⟩ from rfl, o, oi_false] at e; simp [uKey, e]
    · have e := congrArg Ms.val h; rw [show (bare m).val = oi (oVal m) m.val ⟨#[]⟩ from rfl, o, oi_false] at e; simp [uVal, e]
    · have e := congrArg Ms.pairs h; rw [show (bare m).pairs = oi (oPairs m) m.pairs [] from rfl, o, oi_false] at e; simp [uPairs, e]

/-! ### the table of kinds -/
/-- name, own fields, own fields if Has, full fields, answers -/
structure En where
  name : ByteArray
  own : Nat
  ifHas : Nat
  full : Nat
  ans : Nat
def tbl : List En := [⟨⟨#[63]⟩, 0, 0, 0, 0⟩, ⟨⟨#[102, 105, 110, 100]⟩, 4, 0, 0, 4100⟩, ⟨⟨#[104, 111, 112]⟩, 18, 0, 16, 0⟩, ⟨⟨#[97, 115, 107]⟩, 0, 0, 0, 16⟩, ⟨⟨#[116, 101, 108, 108]⟩, 18, 8, 0, 0⟩, ⟨⟨#[110, 111, 116, 101]⟩, 8, 0, 0, 64⟩, ⟨⟨#[111, 107, 97, 121]⟩, 0, 0, 0, 0⟩,
  ⟨⟨#[112, 117, 116]⟩, 96, 0, 0, 4160⟩, ⟨⟨#[103, 101, 116]⟩, 32, 0, 0, 4608⟩, ⟨⟨#[103, 111, 116]⟩, 2, 64, 0, 0⟩, ⟨⟨#[109, 111, 118, 101]⟩, 130, 0, 128, 64⟩, ⟨⟨#[112, 105, 110, 103]⟩, 0, 0, 0, 64⟩, ⟨⟨#[110, 97, 121]⟩, 1, 0, 1, 0⟩]
def ent (i : Nat) : En := tbl.getD i ⟨⟨#[63]⟩, 0, 0, 0, 0⟩
/-- the table's row for a kind, row 0 for what is none -/
def at_ (k : Int) : En := ent (bif known k then k.toNat else 0)
theorem ent_bounds (i : Nat) : (ent i).own < 256 ∧ (ent i).ifHas < 256 ∧ (ent i).full < 256 ∧ (ent i).ans < 8192 ∧ (ent i).name.size < 5 := by
  by_cases h : i < 13
  · rcases i with _ | _ | _ | _ | _ | _ | _ | _ | _ | _ | _ | _ | _ | i <;> (first | decide | omega)
  · unfold ent
    rw [List.getD, List.getElem?_eq_none (by simpa [tbl] using h)]
    decide
theorem kinds (k : Int) : k = 1 ∨ k = 2 ∨ k = 3 ∨ k = 4 ∨ k = 5 ∨ k = 6 ∨ k = 7 ∨ k = 8 ∨ k = 9 ∨ k = 10 ∨ k = 11 ∨ k = 12 ∨ (known k = false ∧ (k < 1 ∨ 12 < k)) := by
  unfold known
  by_cases h : 0 < k ∧ k < 13
  · omega
  · right; right; right; right; right; right; right; right; right; right; right; right
    refine ⟨?_, by omega⟩
    rw [Bool.and_eq_false_iff]
    simp
    omega
theorem own_at (m : Ms) : (bif m.has then bits .or .u16 (((at_ m.kind).own : Nat) : Int) (((at_ m.kind).ifHas : Nat) : Int) else (((at_ m.kind).own : Nat) : Int)) = ((own m : Nat) : Int) := by
  unfold own oCode oHas oId oPeer oPeers oKey oVal oPairs
  generalize m.has = b
  generalize m.kind = k
  rcases kinds k with rfl | rfl | rfl | rfl | rfl | rfl | rfl | rfl | rfl | rfl | rfl | rfl | ⟨h1, h⟩
  iterate 12 (cases b <;> decide +kernel)
  rw [show at_ k = ent 0 by unfold at_; rw [h1]; rfl]
  have a1 : ¬ k = 12 := by omega
  have a2 : ¬ k = 2 := by omega
  have a3 : ¬ k = 4 := by omega
  have a4 : ¬ k = 9 := by omega
  have a5 : ¬ k = 10 := by omega
  have a6 : ¬ k = 1 := by omega
  have a7 : ¬ k = 5 := by omega
  have a8 : ¬ k = 7 := by omega
  have a9 : ¬ k = 8 := by omega
  simp only [a1, a2, a3, a4, a5, a6, a7, a8, a9, or_self]
  cases b <;> decide +kernel
theorem short_table : ∀ k ∈ ([1, 2, 3, 4, 5, 6, 7, 8, 9, 10, 11, 12] : List Int), ∀ c h i p ps ke v pr : Bool, (bits .andNot .u16 (((at_ k).full : Nat) : Int) ((mask c h i p ps ke v pr : Nat) : Int) = 0) ↔ ((k = 2 → ps = true) ∧ (k = 10 → pr = true) ∧ (k = 12 → c = true)) := by
  decide +kernel
theorem short_at {m : Ms} (hk : known m.kind = true) : (bits .andNot .u16 (((at_ m.kind).full : Nat) : Int) ((used m : Nat) : Int) = 0) ↔ isShort m = false := by
  have hm : m.kind ∈ ([1, 2, 3, 4, 5, 6, 7, 8, 9, 10, 11, 12] : List Int) := by
    rcases kinds m.kind with h | h | h | h | h | h | h | h | h | h | h | h | ⟨h, _⟩
    case inr => rw [hk] at h; cases h
    all_goals (rw [h]; decide)
  unfold used
  rw [short_table _ hm]
  unfold isShort
  rw [Bool.or_eq_false_iff, Bool.or_eq_false_iff, Bool.and_eq_false_iff, Bool.and_eq_false_iff, Bool.and_eq_false_iff]
  simp only [decide_eq_false_iff_not, uPeers, uPairs, uCode, decide_eq_true_iff, Bool.not_eq_true', ← Nat.pos_iff_ne_zero]
  constructor
  · rintro ⟨a, b, c⟩
    refine ⟨⟨?_, ?_⟩, ?_⟩
    · by_cases h : m.kind = 2
      · exact .inr (a h)
      · exact .inl h
    · by_cases h : m.kind = 10
      · exact .inr (b h)
      · exact .inl h
    · by_cases h : m.kind = 12
      · exact .inr (by have := c h; omega)
      · exact .inl h
  · rintro ⟨⟨a, b⟩, c⟩
    exact ⟨fun h => a.resolve_left (fun n => n h), fun h => b.resolve_left (fun n => n h), fun h => by have := c.resolve_left (fun n => n h); omega⟩
/-- chapter 8: which kinds answer which -/
def answers (k r : Int) : Bool := (decide (k = 1) && (decide (r = 2) || decide (r = 12))) || (decide (k = 3) && decide (r = 4)) || ((decide (k = 5) || decide (k = 10) || decide (k = 11)) && decide (r = 6)) || (decide (k = 7) && (decide (r = 6) || decide (r = 12))) || (decide (k = 8) && (decide (r = 9) || decide (r = 12)))
def asks (k : Int) : Bool := decide (k = 1 ∨ k = 3 ∨ k = 5 ∨ k = 7 ∨ k = 8 ∨ k = 10 ∨ k = 11)
theorem at_none {k : Int} (h : known k = false) : at_ k = ent 0 := by unfold at_; rw [h]; rfl
theorem asks_at (k : Int) : (!decide ((at_ k).ans = 0)) = asks k := by
  rcases kinds k with rfl | rfl | rfl | rfl | rfl | rfl | rfl | rfl | rfl | rfl | rfl | rfl | ⟨h1, h⟩
  iterate 12 decide +kernel
  rw [at_none h1, show (ent 0).ans = 0 from rfl]
  unfold asks
  symm
  simp
  omega
theorem ans_shift (k : Int) (r : Nat) (hr : r < 13) : (bits .and .u16 ((((at_ k).ans : Nat) : Int) / ((2 ^ r : Nat) : Int)) 1 != 0) = answers k (r : Int) := by
  have hl : r = 0 ∨ r = 1 ∨ r = 2 ∨ r = 3 ∨ r = 4 ∨ r = 5 ∨ r = 6 ∨ r = 7 ∨ r = 8 ∨ r = 9 ∨ r = 10 ∨ r = 11 ∨ r = 12 := by omega
  rcases kinds k with rfl | rfl | rfl | rfl | rfl | rfl | rfl | rfl | rfl | rfl | rfl | rfl | ⟨h1, h⟩
  iterate 12 (rcases hl with rfl | rfl | rfl | rfl | rfl | rfl | rfl | rfl | rfl | rfl | rfl | rfl | rfl <;> decide +kernel)
  rw [at_none h1, show (ent 0).ans = 0 from rfl]
  have e : answers k (r : Int) = false := by
    unfold answers
    have a1 : ¬ k = 1 := by omega
    have a2 : ¬ k = 3 := by omega
    have a3 : ¬ k = 5 := by omega
    have a4 : ¬ k = 10 := by omega
    have a5 : ¬ k = 11 := by omega
    have a6 : ¬ k = 7 := by omega
    have a7 : ¬ k = 8 := by omega
    simp [a1, a2, a3, a4, a5, a6, a7]
  rw [e]
  rcases hl with rfl | rfl | rfl | rfl | rfl | rfl | rfl | rfl | rfl | rfl | rfl | rfl | rfl <;> decide +kernel
theorem answers_none (k : Int) {r : Int} (h : r < 1 ∨ 12 < r) : answers k r = false := by
  unfold answers
  have a1 : ¬ r = 2 := by omega
  have a2 : ¬ r = 12 := by omega
  have a3 : ¬ r = 4 := by omega
  have a4 : ¬ r = 6 := by omega
  have a5 : ¬ r = 9 := by omega
  simp [a1, a2, a3, a4, a5]
theorem known_of {x : Int} (h1 : 0 < x) (h2 : x < 13) : known x = true := by unfold known; simp [h1, h2]
/-- the kind of a name: the first row with it, from row i on -/
def kindFrom (s : ByteArray) : Nat → Nat → Nat
  | 0, _ => 0
  | n + 1, i => if (ent i).name = s then i else kindFrom s n (i + 1)
def kindOf (s : ByteArray) : Nat := kindFrom s 12 1
theorem kindOf_all (s : ByteArray) : kindOf s = kindFrom s 13 0 := by
  show kindFrom s 12 1 = if (ent 0).name = s then 0 else kindFrom s 12 1
  split
  · rename_i h
    subst h
    decide +kernel
  · rfl
theorem kindFrom_hit {s : ByteArray} {n i : Nat} (h : (ent i).name = s) : kindFrom s (n + 1) i = i := by unfold kindFrom; rw [if_pos h]
theorem kindFrom_miss {s : ByteArray} {n i : Nat} (h : ¬ (ent i).name = s) : kindFrom s (n + 1) i = kindFrom s n (i + 1) := by conv => lhs; unfold kindFrom; rw [if_neg h]
theorem at_nat {i : Nat} (hi : i < 13) : at_ (i : Int) = ent i := by
  unfold at_
  by_cases h : 0 < i
  · rw [known_of (by omega) (by omega)]; rfl
  · have : i = 0 := by omega
    subst this
    rfl
theorem str_eq (a b : ByteArray) : (a.toList == b.toList) = decide (a = b) := by
  rw [Bool.eq_iff_iff, beq_iff_eq, decide_eq_true_iff]
  exact ⟨fun h => toList_inj h, fun h => by rw [h]⟩
end Gm
end Go.Proofs.YtldjdoebappkoaaGreatDoor
/- Messages in memory. -/
namespace Go.Proofs.YtldjdoebappkoaaGreatDoor
open Go.ChangeShapes Go.WideShapes Go.ChangeAt Go.RowKit
set_option linter.unusedVariables false

def fPeer (p : Nat × Nat) : Value × Value := (.int .u64 (p.1 : Int), .int .u16 (p.2 : Int))
def fPair (p : ByteArray × ByteArray) : Value × Value := (.string p.1, .string p.2)
theorem fPeer_one (p : Nat × Nat) : (fPeer p).1.oneCell' = true ∧ (fPeer p).2.oneCell' = true := ⟨rfl, rfl⟩
theorem fPair_one (p : ByteArray × ByteArray) : (fPair p).1.oneCell' = true ∧ (fPair p).2.oneCell' = true := ⟨rfl, rfl⟩
theorem peerT2 : ElemT2 Tryz.prog 33 32 (.agg #[.int .u64 0, .int .u16 0]) 16 := ⟨Tryz.underlying33, by kernel_rfl, rfl, by decide⟩
theorem pairT2 : ElemT2 Tryz.prog 34 65 (.agg #[.string ByteArray.empty, .string ByteArray.empty]) 32 := ⟨Tryz.underlying34, by kernel_rfl, rfl, by decide⟩

namespace Gm
/-- the numbers and lengths fit -/
structure Ok (m : Ms) : Prop where
  kind : -9223372036854775808 ≤ m.kind ∧ m.kind ≤ 9223372036854775807
  rid : m.rid < 4294967296
  code : m.code < 256
  id : m.id < 18446744073709551616
  key : m.key.size ≤ maxLen
  val : m.val.size ≤ maxLen
  pid : m.pid < 18446744073709551616
  pad : m.pad < 65536
  peers : ∀ p ∈ m.peers, p.1 < 18446744073709551616 ∧ p.2 < 65536
  pairs : ∀ p ∈ m.pairs, p.1.size ≤ maxLen ∧ p.2.size ≤ maxLen
theorem Ok.bareBy {m : Ms} (h : Ok m) (c h' i p ps k v pr : Bool) : Ok (bareBy c h' i p ps k v pr m) := by
  obtain ⟨h1, h2, h3, h4, h5, h6, h7, h8, h9, h10⟩ := h
  have z : (⟨#[]⟩ : ByteArray).size ≤ maxLen := Nat.zero_le _
  exact ⟨h1, h2, by cases c <;> simp [Gm.bareBy, oi]; exact h3, by cases i <;> simp [Gm.bareBy, oi]; exact h4, by cases k <;> simp only [Gm.bareBy, oi, cond] <;> assumption, by cases v <;> simp only [Gm.bareBy, oi, cond] <;> assumption,
    by cases p <;> simp [Gm.bareBy, oi]; exact h7, by cases p <;> simp [Gm.bareBy, oi]; exact h8, by cases ps <;> simp [Gm.bareBy, oi]; exact fun a b hab => h9 (a, b) hab, by cases pr <;> simp [Gm.bareBy, oi]; exact fun a b hab => h10 (a, b) hab⟩
theorem Ok.bare {m : Ms} (h : Ok m) : Ok (bare m) := h.bareBy _ _ _ _ _ _ _ _
end Gm
open Gm

/-- the value is the message -/
structure Mv (w : World) (B : Nat) (m : Ms) (v : Value) : Prop where
  ex : ∃ vp vq, v = .agg #[.int .i64 m.kind, .int .u32 (m.rid : Int), .int .u8 (m.code : Int), .bool m.has, .int .u64 (m.id : Int), .string m.key, .string m.val, .int .u64 (m.pid : Int), .int .u16 (m.pad : Int), vp, vq] ∧ Sl fPeer w B vp m.peers ∧ Sl fPair w B vq m.pairs
  ok : Ok m
section
variable {w w' : World} {B B' : Nat} {m : Ms} {v : Value}
theorem Mv.below (h : Mv w B m v) (hb : Below B w w') : Mv w' B m v := by
  obtain ⟨⟨p, q, h1, h2, h3⟩, h4⟩ := h
  exact ⟨⟨p, q, h1, h2.below hb, h3.below hb⟩, h4⟩
theorem Mv.more (h : Mv w B m v) (hB : B ≤ B') : Mv w B' m v := by
  obtain ⟨⟨p, q, h1, h2, h3⟩, h4⟩ := h
  exact ⟨⟨p, q, h1, h2.more hB, h3.more hB⟩, h4⟩
theorem Mv.all (h : Mv w B m v) : Mv w w.heap.size m v := by
  obtain ⟨⟨p, q, h1, h2, h3⟩, h4⟩ := h
  exact ⟨⟨p, q, h1, h2.all, h3.all⟩, h4⟩
theorem Mv.kept (h : Mv w B m v) (hb : Below w.heap.size w w') : Mv w' w'.heap.size m v := (h.all.below hb).more hb.size
/-- a boxed message: block g holds its cells -/
def Bx (w : World) (g : Nat) (m : Ms) (vp vq : Value) : Prop :=
  Whole w g 36 #[.int .i64 m.kind, .int .u32 (m.rid : Int), .int .u8 (m.code : Int), .bool m.has, .int .u64 (m.id : Int), .string m.key, .string m.val, .int .u64 (m.pid : Int), .int .u16 (m.pad : Int), vp, vq]
variable {g : Nat} {vp vq : Value}
theorem Bx.cells (h : Bx w g m vp vq) : w.cell? ⟨g, 0, none⟩ = some (.int .i64 m.kind) ∧ w.cell? ⟨g, 1, none⟩ = some (.int .u32 (m.rid : Int)) ∧ w.cell? ⟨g, 2, none⟩ = some (.int .u8 (m.code : Int)) ∧ w.cell? ⟨g, 3, none⟩ = some (.bool m.has) ∧
    w.cell? ⟨g, 4, none⟩ = some (.int .u64 (m.id : Int)) ∧ w.cell? ⟨g, 5, none⟩ = some (.string m.key) ∧ w.cell? ⟨g, 6, none⟩ = some (.string m.val) ∧ w.cell? ⟨g, 7, none⟩ = some (.int .u64 (m.pid : Int)) ∧ w.cell? ⟨g, 8, none⟩ = some (.int .u16 (m.pad : Int)) ∧
    w.cell? ⟨g, 9, none⟩ = some vp ∧ w.cell? ⟨g, 10, none⟩ = some vq :=
  ⟨h.at_ 0, h.at_ 1, h.at_ 2, h.at_ 3, h.at_ 4, h.at_ 5, h.at_ 6, h.at_ 7, h.at_ 8, h.at_ 9, h.at_ 10⟩
theorem Bx.below (h : Bx w g m vp vq) (hb : Below B w w') (hg : g < B) : Bx w' g m vp vq := Whole.below h hb hg
end

/-- a boxed message and what it leads to -/
structure Box (w : World) (b : Nat) (m : Ms) (vp vq : Value) : Prop where
  bx : Bx w b m vp vq
  peers : Sl fPeer w b vp m.peers
  pairs : Sl fPair w b vq m.pairs
  ok : Ok m
section
variable {w w' : World} {B b : Nat} {m : Ms} {v vp vq : Value}
theorem Box.below (h : Box w b m vp vq) (hb : Below B w w') (hg : b < B) : Box w' b m vp vq := ⟨h.bx.below hb hg, h.peers.below (hb.mono (by omega)), h.pairs.below (hb.mono (by omega)), h.ok⟩
theorem Box.lt (h : Box w b m vp vq) : b < w.heap.size := Whole.lt h.bx
theorem Box.kept (h : Box w b m vp vq) (hb : Below w.heap.size w w') : Box w' b m vp vq := h.below hb h.lt
theorem Box.drew (h : Box w b m vp vq) : Box w.drew b m vp vq := h.below (Below.refl _ _).drew h.lt
theorem Box.mv (h : Box w b m vp vq) : Mv w b m (.agg #[.int .i64 m.kind, .int .u32 (m.rid : Int), .int .u8 (m.code : Int), .bool m.has, .int .u64 (m.id : Int), .string m.key, .string m.val, .int .u64 (m.pid : Int), .int .u16 (m.pad : Int), vp, vq]) := ⟨⟨vp, vq, rfl, h.peers, h.pairs⟩, h.ok⟩
theorem Box.cells (h : Box w b m vp vq) : w.cell? ⟨b, 0, none⟩ = some (.int .i64 m.kind) ∧ w.cell? ⟨b, 1, none⟩ = some (.int .u32 (m.rid : Int)) ∧ w.cell? ⟨b, 2, none⟩ = some (.int .u8 (m.code : Int)) ∧ w.cell? ⟨b, 3, none⟩ = some (.bool m.has) ∧
    w.cell? ⟨b, 4, none⟩ = some (.int .u64 (m.id : Int)) ∧ w.cell? ⟨b, 5, none⟩ = some (.string m.key) ∧ w.cell? ⟨b, 6, none⟩ = some (.string m.val) ∧ w.cell? ⟨b, 7, none⟩ = some (.int .u64 (m.pid : Int)) ∧ w.cell? ⟨b, 8, none⟩ = some (.int .u16 (m.pad : Int)) ∧
    w.cell? ⟨b, 9, none⟩ = some vp ∧ w.cell? ⟨b, 10, none⟩ = some vq := h.bx.cells
set_option maxRecDepth 100000 in
theorem boxed (H : Mv w B m v) : ∃ b vp vq w0, v = .agg #[.int .i64 m.kind, .int .u32 (m.rid : Int), .int .u8 (m.code : Int), .bool m.has, .int .u64 (m.id : Int), .string m.key, .string m.val, .int .u64 (m.pid : Int), .int .u16 (m.pad : Int), vp, vq] ∧ w.heap.size = b ∧ w.alloc (.cells #[.int .i64 m.kind, .int .u32 (m.rid : Int), .int .u8 (m.code : Int), .bool m.has, .int .u64 (m.id : Int), .string m.key, .string m.val, .int .u64 (m.pid : Int), .int .u16 (m.pad : Int), vp, vq] 36) = w0 ∧ w0.heap.size = b + 1 ∧ Box w0 b m vp vq ∧ Below b w w0 := by
  obtain ⟨vp, vq, rfl, hp, hq⟩ := H.ex
  have B0 : Below w.heap.size w (w.alloc (.cells #[.int .i64 m.kind, .int .u32 (m.rid : Int), .int .u8 (m.code : Int), .bool m.has, .int .u64 (m.id : Int), .string m.key, .string m.val, .int .u64 (m.pid : Int), .int .u16 (m.pad : Int), vp, vq] 36)) := (Below.refl _ _).alloc (Nat.le_refl _) _
  exact ⟨_, vp, vq, _, rfl, rfl, rfl, by simp, ⟨Whole.made _ _ _, hp.all.below B0, hq.all.below B0, H.ok⟩, B0⟩
end
theorem msgI {cs : Array Value} (h : cs.size = 11) : (Tryz.prog.info? 36).map (·.size) = some cs.size := by rw [h]; kernel_rfl

theorem trod_field {H : Type} {enc : TypeId × Value → H} {P : Program} {w : World} {base : Nat} {spare : Nat → Bool} {held : Bool} {n : Nat} {fs : Array Field} {cs : List Value} {xs : List (DataW H × List MemPlace)}
    (hx : ∀ (i : Nat) (f : Field), fs[i]? = some f → DataW.trod enc P w base spare held n f.type ((cs.drop f.offset).take (P.cellsOf f.type)) = xs[i]?) (i : Nat) (f : Field) (hi : fs[i]? = some f) (ty off c : Nat) (h1 : f.type = ty) (h2 : f.offset = off) (h3 : P.cellsOf ty = c) :
    DataW.trod enc P w base spare held n ty ((cs.drop off).take c) = xs[i]? := by
  subst h1 h2 h3
  exact hx i f hi

set_option maxRecDepth 100000 in
/-- an argument that is a message -/
theorem open_msg {H : Type} {enc : TypeId × Value → H} {w : World} {base : Nat} {spare : Nat → Bool} {held : Bool} {r : Reach} {b0 : Nat} {v : Value} {d : DataW H} {ps : List MemPlace}
    (hv : Value.okWide Tryz.prog w r b0 36 v) (hd : DataW.Trod enc Tryz.prog w base spare held 36 v d ps) : ∃ m, Mv w w.heap.size m v := by
  obtain ⟨cs, rfl, hsz, _⟩ : ∃ cs, v = .agg cs ∧ cs.size = Tryz.prog.cellsOf 36 ∧ Row.okWide Tryz.prog w r b0 36 cs := by simpa [Value.okWide, Tryz.underlying36] using hv
  rw [show Tryz.prog.cellsOf 36 = 11 by kernel_rfl] at hsz
  obtain ⟨fuel, hf⟩ := hd
  obtain ⟨xs, n, _, _, _, hlen, hx⟩ := DataW.trod_struct Tryz.underlying36 hf
  obtain ⟨l⟩ := cs
  match l, hsz with
  | [c0, c1, c2, c3, c4, c5, c6, c7, c8, c9, c10], _ =>
  match xs, hlen with
  | [x0, x1, x2, x3, x4, x5, x6, x7, x8, x9], _ =>
  have one : ∀ t, t ∈ [3, 28, 5, 4, 29, 9, 30, 33, 34] → Tryz.prog.cellsOf t = 1 := by
    intro t ht
    simp at ht
    rcases ht with rfl | rfl | rfl | rfl | rfl | rfl | rfl | rfl | rfl <;> kernel_rfl
  have two2 : Tryz.prog.cellsOf 32 = 2 := by kernel_rfl
  have two3 : Tryz.prog.cellsOf 65 = 2 := by kernel_rfl
  have h0 : DataW.trod enc Tryz.prog w base spare held n 3 [c0] = some x0 := trod_field hx 0 _ rfl 3 0 1 rfl rfl (one _ (by decide))
  have h1 : DataW.trod enc Tryz.prog w base spare held n 28 [c1] = some x1 := trod_field hx 1 _ rfl 28 1 1 rfl rfl (one _ (by decide))
  have h2 : DataW.trod enc Tryz.prog w base spare held n 5 [c2] = some x2 := trod_field hx 2 _ rfl 5 2 1 rfl rfl (one _ (by decide))
  have h3 : DataW.trod enc Tryz.prog w base spare held n 4 [c3] = some x3 := trod_field hx 3 _ rfl 4 3 1 rfl rfl (one _ (by decide))
  have h4 : DataW.trod enc Tryz.prog w base spare held n 29 [c4] = some x4 := trod_field hx 4 _ rfl 29 4 1 rfl rfl (one _ (by decide))
  have h5 : DataW.trod enc Tryz.prog w base spare held n 9 [c5] = some x5 := trod_field hx 5 _ rfl 9 5 1 rfl rfl (one _ (by decide))
  have h6 : DataW.trod enc Tryz.prog w base spare held n 9 [c6] = some x6 := trod_field hx 6 _ rfl 9 6 1 rfl rfl (one _ (by decide))
  have h7 : DataW.trod enc Tryz.prog w base spare held n 32 [c7, c8] = some x7 := trod_field hx 7 _ rfl 32 7 2 rfl rfl two2
  have h8 : DataW.trod enc Tryz.prog w base spare held n 33 [c9] = some x8 := trod_field hx 8 _ rfl 33 9 1 rfl rfl (one _ (by decide))
  have h9 : DataW.trod enc Tryz.prog w base spare held n 34 [c10] = some x9 := trod_field hx 9 _ rfl 34 10 1 rfl rfl (one _ (by decide))
  obtain ⟨z0, e0, _, w0⟩ := DataW.trod_int Tryz.underlying3 h0
  obtain ⟨z1, e1, _, w1⟩ := DataW.trod_int Tryz.underlying28 h1
  obtain ⟨z2, e2, _, w2⟩ := DataW.trod_int Tryz.underlying5 h2
  obtain ⟨z3, e3, _⟩ := DataW.trod_bool Tryz.underlying4 h3
  obtain ⟨z4, e4, _, w4⟩ := DataW.trod_int Tryz.underlying29 h4
  obtain ⟨z5, e5, _, w5⟩ := DataW.trod_string Tryz.underlying9 h5
  obtain ⟨z6, e6, _, w6⟩ := DataW.trod_string Tryz.underlying9 h6
  obtain ⟨ys, n', _, _, _, hlen7, hx7⟩ := DataW.trod_struct Tryz.underlying32 h7
  match ys, hlen7 with
  | [y0, y1], _ =>
  have g0 : DataW.trod enc Tryz.prog w base spare held n' 29 [c7] = some y0 := trod_field hx7 0 _ rfl 29 0 1 rfl rfl (one _ (by decide))
  have g1 : DataW.trod enc Tryz.prog w base spare held n' 30 [c8] = some y1 := trod_field hx7 1 _ rfl 30 1 1 rfl rfl (one _ (by decide))
  obtain ⟨z7, e7, _, w7⟩ := DataW.trod_int Tryz.underlying29 g0
  obtain ⟨z8, e8, _, w8⟩ := DataW.trod_int Tryz.underlying30 g1
  obtain ⟨vp, lp, ep, hp, op⟩ := open_two (f := fPeer) (ok := fun p => p.1 < 18446744073709551616 ∧ p.2 < 65536) Tryz.underlying33 Tryz.underlying32 two2 rfl rfl (one _ (by decide)) (one _ (by decide)) (fun n v0 v1 x0 x1 k0 k1 => by
    obtain ⟨a, ea, _, wa⟩ := DataW.trod_int Tryz.underlying29 k0
    obtain ⟨b, eb, _, wb⟩ := DataW.trod_int Tryz.underlying30 k1
    have ba := bounds_u64 wa
    have bb := bounds_u16 wb
    simp at ea eb
    subst ea eb
    obtain ⟨a, rfl⟩ : ∃ q : Nat, a = (q : Int) := ⟨a.toNat, by omega⟩
    obtain ⟨b, rfl⟩ : ∃ q : Nat, b = (q : Int) := ⟨b.toNat, by omega⟩
    exact ⟨(a, b), rfl, by omega, by omega⟩) h8
  obtain ⟨vq, lq, eq, hq, oq⟩ := open_two (f := fPair) (ok := fun p => p.1.size ≤ maxLen ∧ p.2.size ≤ maxLen) Tryz.underlying34 Tryz.underlying65 two3 rfl rfl (one _ (by decide)) (one _ (by decide)) (fun n v0 v1 x0 x1 k0 k1 => by
    obtain ⟨a, ea, _, wa⟩ := DataW.trod_string Tryz.underlying9 k0
    obtain ⟨b, eb, _, wb⟩ := DataW.trod_string Tryz.underlying9 k1
    simp at ea eb
    subst ea eb
    exact ⟨(a, b), rfl, wa, wb⟩) h9
  simp only [List.cons.injEq, and_true] at e0 e1 e2 e3 e4 e5 e6 e7 e8 ep eq
  subst e0 e1 e2 e3 e4 e5 e6 e7 e8 ep eq
  have b0' := bounds_i64 w0
  have b1 := bounds_u32 w1
  have b2 := bounds_u8 w2
  have b4 := bounds_u64 w4
  have b7 := bounds_u64 w7
  have b8 := bounds_u16 w8
  obtain ⟨z1, rfl⟩ : ∃ q : Nat, z1 = (q : Int) := ⟨z1.toNat, by omega⟩
  obtain ⟨z2, rfl⟩ : ∃ q : Nat, z2 = (q : Int) := ⟨z2.toNat, by omega⟩
  obtain ⟨z4, rfl⟩ : ∃ q : Nat, z4 = (q : Int) := ⟨z4.toNat, by omega⟩
  obtain ⟨z7, rfl⟩ : ∃ q : Nat, z7 = (q : Int) := ⟨z7.toNat, by omega⟩
  obtain ⟨z8, rfl⟩ : ∃ q : Nat, z8 = (q : Int) := ⟨z8.toNat, by omega⟩
  have k1 : z1 < 4294967296 := by omega
  have k2 : z2 < 256 := by omega
  have k4 : z4 < 18446744073709551616 := by omega
  have k7 : z7 < 18446744073709551616 := by omega
  have k8 : z8 < 65536 := by omega
  exact ⟨⟨z0, z1, z2, z3, z4, z5, z6, z7, z8, lp, lq⟩, ⟨_, _, rfl, hp, hq⟩, ⟨b0', k1, k2, k4, w5, w6, k7, k8, op, oq⟩⟩
end Go.Proofs.YtldjdoebappkoaaGreatDoor
/- The table of kinds, a variable of the program: what its list says a walk may read. -/
namespace Go.Proofs.YtldjdoebappkoaaGreatDoor
open Go.ChangeShapes Go.WideShapes Go.ChangeAt Go.RowKit
set_option linter.unusedVariables false
set_option maxRecDepth 100000
open Gm

/-- the table lies where the program has it -/
def Tab (w : World) : Prop := ∀ i, i < 13 → w.cell? ⟨0, i * 5, none⟩ = some (.string (ent i).name) ∧ w.cell? ⟨0, i * 5 + 1, none⟩ = some (.int .u16 ((ent i).own : Int)) ∧ w.cell? ⟨0, i * 5 + 2, none⟩ = some (.int .u16 ((ent i).ifHas : Int)) ∧
  w.cell? ⟨0, i * 5 + 3, none⟩ = some (.int .u16 ((ent i).full : Int)) ∧ w.cell? ⟨0, i * 5 + 4, none⟩ = some (.int .u16 ((ent i).ans : Int))
theorem Tab.lt {w : World} (h : Tab w) : 0 < w.heap.size := by
  have h0 := (h 0 (by decide)).1
  rcases Nat.lt_or_ge 0 w.heap.size with h1 | h1
  · exact h1
  · simp [World.cell?, Array.getElem?_eq_none h1] at h0
theorem Tab.below {w w' : World} {B : Nat} (h : Tab w) (hb : Below B w w') (hB : 0 < B) : Tab w' := fun i hi => by
  have c := fun j => hb.cell (p := ⟨0, j, none⟩) hB
  rw [c, c, c, c, c]
  exact h i hi
theorem Tab.kept {w w' : World} (h : Tab w) (hb : Below w.heap.size w w') : Tab w' := h.below hb h.lt

def enData (e : En) : DataW Unit := .agg [.lit (.string e.name.data.toList), .lit (.int .u16 (e.own : Int)), .lit (.int .u16 (e.ifHas : Int)), .lit (.int .u16 (e.full : Int)), .lit (.int .u16 (e.ans : Int))]
theorem laid_rows : (Rows.laid_annulet_msg_kinds : DataW Unit) = .agg (tbl.map enData) := rfl

/-- out of the row's list -/
theorem tab_of_laid {W : World} (h : laidMetH Tryz.prog [("annulet/msg.kinds", Rows.laid_annulet_msg_kinds)] W) : Tab W := by
  rw [MakeChecks.laidMetH_plain _ _ _ (by kernel_rfl)] at h
  obtain ⟨ps, ⟨g, t, cs, fuel, p, q, hg, ht, hv, hd, _, _⟩, _⟩ := h
  obtain rfl := Option.some.inj ((show Tryz.prog.globalNamed "annulet/msg.kinds" = some 0 by kernel_rfl).symm.trans hg)
  obtain rfl := Option.some.inj ((show (Tryz.prog.globals[0]?).map (·.type) = some 97 by kernel_rfl).symm.trans ht)
  obtain ⟨xs, m, rfl, hx, hlen, hn, hel⟩ := DataW.trod_array Tryz.underlying97 hd
  have c5 : Tryz.prog.cellsOf 89 = 5 := by kernel_rfl
  have c1 : Tryz.prog.cellsOf 9 = 1 := by kernel_rfl
  have c2 : Tryz.prog.cellsOf 80 = 1 := by kernel_rfl
  have c3 : Tryz.prog.cellsOf 87 = 1 := by kernel_rfl
  have c65 : Tryz.prog.cellsOf 97 = 65 := by kernel_rfl
  rw [c65] at hlen
  rw [laid_rows] at hx
  simp only [Prod.mk.injEq, DataW.agg.injEq] at hx
  have hx := hx.1
  intro i hi
  have h1 := hel i hi
  rw [c5] at h1
  have hi' : i < xs.length := by omega
  rw [List.getElem?_eq_getElem hi'] at h1
  obtain ⟨ys, n, _, hy, hl, hm, hf⟩ := DataW.trod_struct Tryz.underlying89 h1
  have hd1 : xs[i].1 = enData (ent i) := by
    have := congrArg (·[i]?) hx
    simp only [List.getElem?_map, List.getElem?_eq_getElem hi', Option.map_some] at this
    rw [List.getElem?_eq_getElem (show i < tbl.length from hi)] at this
    simp only [Option.map_some, Option.some.injEq] at this
    rw [← this]
    unfold ent
    rw [List.getD, List.getElem?_eq_getElem (show i < tbl.length from hi)]
    rfl
  have hd2 := hd1.symm.trans (congrArg Prod.fst hy)
  simp only [enData, DataW.agg.injEq] at hd2
  rw [c5] at hl
  match ys, hm with
  | [y0, y1, y2, y3, y4], _ =>
  have hcell : ∀ j, W.cell? ⟨0, j, none⟩ = cs[j]? := fun j => World.var?_cell hg hv j
  generalize hds : (cs.toList.drop (i * 5)).take 5 = dsl at *
  match dsl, hl with
  | [d0, d1, d2, d3, d4], _ =>
  have g0 : DataW.trod _ Tryz.prog W 0 _ false n 9 [d0] = some y0 := trod_field hf 0 _ rfl 9 0 1 rfl rfl c1
  have g1 : DataW.trod _ Tryz.prog W 0 _ false n 80 [d1] = some y1 := trod_field hf 1 _ rfl 80 1 1 rfl rfl c2
  have g2 : DataW.trod _ Tryz.prog W 0 _ false n 80 [d2] = some y2 := trod_field hf 2 _ rfl 80 2 1 rfl rfl c2
  have g3 : DataW.trod _ Tryz.prog W 0 _ false n 80 [d3] = some y3 := trod_field hf 3 _ rfl 80 3 1 rfl rfl c2
  have g4 : DataW.trod _ Tryz.prog W 0 _ false n 87 [d4] = some y4 := trod_field hf 4 _ rfl 87 4 1 rfl rfl c3
  obtain ⟨s0, e0, f0, _⟩ := DataW.trod_string Tryz.underlying9 g0
  obtain ⟨s1, e1, f1, _⟩ := DataW.trod_int Tryz.underlying80 g1
  obtain ⟨s2, e2, f2, _⟩ := DataW.trod_int Tryz.underlying80 g2
  obtain ⟨s3, e3, f3, _⟩ := DataW.trod_int Tryz.underlying80 g3
  obtain ⟨s4, e4, f4, _⟩ := DataW.trod_int Tryz.underlying87 g4
  subst f0 f1 f2 f3 f4
  simp only [List.map_cons, List.map_nil, List.cons.injEq, DataW.lit.injEq, Lit.int.injEq, Lit.string.injEq, true_and, and_true] at hd2
  obtain ⟨q0, q1, q2, q3, q4⟩ := hd2
  simp only [List.cons.injEq, and_true] at e0 e1 e2 e3 e4
  have at_ : ∀ j (hj : j < 5), cs[i * 5 + j]? = [d0, d1, d2, d3, d4][j]? := fun j hj => by
    rw [← hds]
    simp [hj]
  have qs : s0 = (ent i).name := by
    apply ByteArray.ext
    apply Array.toList_inj.1
    exact q0.symm
  refine ⟨?_, ?_, ?_, ?_, ?_⟩
  · rw [hcell]; have := at_ 0 (by decide); simp at this; rw [this, e0, qs]
  · rw [hcell, at_ 1 (by decide)]; simp [e1, q1]
  · rw [hcell, at_ 2 (by decide)]; simp [e2, q2]
  · rw [hcell, at_ 3 (by decide)]; simp [e3, q3]
  · rw [hcell, at_ 4 (by decide)]; simp [e4, q4]
end Go.Proofs.YtldjdoebappkoaaGreatDoor
/- Contracts of msg.isKind, entryOf, ownFields, Name, Kind, Asks, Answers. -/
namespace Go.Proofs.YtldjdoebappkoaaGreatDoor
open Go.RowKit
set_option linter.unusedVariables false
set_option maxRecDepth 100000
open Gm

theorem iskind_any (k : Int) (hk : -9223372036854775808 ≤ k ∧ k ≤ 9223372036854775807) (w : World) :
    Calls Tryz.prog 48 #[.int .i64 k] w fun e w' => e = .returned (.bool (known k)) ∧ w' = w := by
  go_enter Tryz.func48, Tryz.ntmps48
  go_wp2_with fail
  all_goals
    go_ret
    refine ⟨ret_bool ?_, rfl⟩
    unfold known
    simp_all
    try omega

/-- a row of the table as cells -/
def enV (e : En) : Array Value := #[.string e.name, .int .u16 (e.own : Int), .int .u16 (e.ifHas : Int), .int .u16 (e.full : Int), .int .u16 (e.ans : Int)]
theorem entI (e : En) : (Tryz.prog.info? 89).map (·.size) = some (enV e).size := by kernel_rfl
theorem enV_one (e : En) : (enV e).all (·.oneCell') = true := by simp [enV, Value.oneCell']
set_option maxRecDepth 100000 in
theorem entry_any (k : Int) (hk : -9223372036854775808 ≤ k ∧ k ≤ 9223372036854775807) (w : World) (T : Tab w) :
    Calls Tryz.prog 53 #[.int .i64 k] w fun e w' => e = .returned (.agg (enV (at_ k))) ∧ Below w.heap.size w w' := by
  have hlt := T.lt
  have W0 := Whole.made w 89 #[Value.string { data := #[] }, Value.int IntKind.u16 0, Value.int IntKind.u16 0, Value.int IntKind.u16 0, Value.int IntKind.u16 0]
  have B0 : Below w.heap.size w (w.alloc (.cells #[Value.string { data := #[] }, Value.int IntKind.u16 0, Value.int IntKind.u16 0, Value.int IntKind.u16 0, Value.int IntKind.u16 0] 89)) := (Below.refl _ _).alloc (Nat.le_refl _) _
  have T0 := T.kept B0
  have Hb := Lib.hid (fun cs => below_row B0 (Nat.le_refl w.heap.size) cs)
  obtain ⟨b, hb⟩ : ∃ b, w.heap.size = b := ⟨_, rfl⟩
  rw [hb] at W0 Hb
  obtain ⟨w0, hw0⟩ : ∃ w0, w.alloc (.cells #[Value.string { data := #[] }, Value.int IntKind.u16 0, Value.int IntKind.u16 0, Value.int IntKind.u16 0, Value.int IntKind.u16 0] 89) = w0 := ⟨_, rfl⟩
  rw [hw0] at W0 T0 Hb
  have HW := Lib.hid W0
  have HT := Lib.hid T0
  clear T B0 W0 T0
  cases hkn : known k
  · have hat : at_ k = ent 0 := by unfold at_; rw [hkn]; rfl
    rw [hat]
    obtain ⟨h0, h1, h2, h3, h4⟩ := HT.out 0 (by decide)
    go_enter Tryz.func53, Tryz.ntmps53
    go_wp2_with fail
    refine (iskind_any k hk _).mono ?_
    rintro e w1 ⟨rfl, rfl⟩
    rw [hkn]
    go_wp2_with (refine wpList_store_whole (cs' := enV (ent 0)) rfl rfl rfl rfl rfl HW.out (entI _) rfl (enV_one _) ?_)
    refine bodyPost_ret (v := .agg (enV (ent 0))) ?_ rfl ⟨rfl, by rw [hb]; exact Hb.out _⟩
    exact results_cell_row rfl _ _ _ _ _ (0, 0) _ rfl (HW.out.row _) Tryz.underlying89 rfl (entI _)
  · obtain ⟨i, rfl⟩ : ∃ i : Nat, k = (i : Int) := ⟨k.toNat, by unfold known at hkn; simp at hkn; omega⟩
    have hi : i < 13 := by unfold known at hkn; simp at hkn; omega
    have hat : at_ (i : Int) = ent i := by unfold at_; rw [hkn]; rfl
    rw [hat]
    obtain ⟨h0, h1, h2, h3, h4⟩ := HT.out i hi
    obtain ⟨E, HE⟩ : ∃ E, Hid (ent i = E) := ⟨_, rfl⟩
    rw [HE.out] at h0 h1 h2 h3 h4 ⊢
    clear hat
    go_enter Tryz.func53, Tryz.ntmps53
    go_wp2_with fail
    refine (iskind_any i hk _).mono ?_
    rintro e w1 ⟨rfl, rfl⟩
    rw [hkn]
    go_wp2_with (refine wpList_store_whole (cs' := enV E) rfl rfl rfl rfl rfl HW.out (entI _) rfl (enV_one _) ?_)
    refine bodyPost_ret (v := .agg (enV E)) ?_ rfl ⟨rfl, by rw [hb]; exact Hb.out _⟩
    exact results_cell_row rfl _ _ _ _ _ (0, 0) _ rfl (HW.out.row _) Tryz.underlying89 rfl (entI _)
/-- a new variable for a row of the table -/
theorem ent_box (w : World) : ∃ b w0, w.heap.size = b ∧ w.alloc (.cells #[Value.string { data := #[] }, Value.int IntKind.u16 0, Value.int IntKind.u16 0, Value.int IntKind.u16 0, Value.int IntKind.u16 0] 89) = w0 ∧
    Whole w0 b 89 #[Value.string { data := #[] }, Value.int IntKind.u16 0, Value.int IntKind.u16 0, Value.int IntKind.u16 0, Value.int IntKind.u16 0] ∧ ∀ cs, Below b w (w0.setRow b cs) :=
  ⟨_, _, rfl, rfl, Whole.made _ _ _, fun cs => below_row ((Below.refl _ _).alloc (Nat.le_refl _) _) (Nat.le_refl _) cs⟩

set_option maxRecDepth 100000 in
theorem own_any {w : World} {B : Nat} {m : Ms} {v : Value} (H : Mv w B m v) (T : Tab w) :
    Calls Tryz.prog 47 #[v] w fun e w' => e = .returned (.int .u16 (Gm.own m : Int)) ∧ Below w.heap.size w w' := by
  obtain ⟨b, vp, vq, w0, rfl, hb, hal, hsz, hx, hb0⟩ := boxed H
  have hT := T.kept (by rw [hb]; exact hb0)
  have ho := own_at m
  have hk := hx.ok.kind
  have c0 := hx.cells.1
  have HX := Lib.hid hx
  have HB := Lib.hid hb0
  clear T hx hb0 H
  have HO := Lib.hid ho
  clear ho
  go_enter Tryz.func47, Tryz.ntmps47
  go_wp2_with fail
  refine (entry_any m.kind hk w0 hT).mono ?_
  rintro e w1 ⟨rfl, hb1⟩
  obtain ⟨b2, w2, hb2, hal2, hW, hN⟩ := ent_box w1
  have HB2 := Lib.hid (hb1.trans ((hN (enV (at_ m.kind))).mono (by rw [← hb2]; exact hb1.size)))
  have c3 := (HX.out.kept HB2.out).cells.2.2.2.1
  obtain ⟨E, HE⟩ : ∃ E, Hid (at_ m.kind = E) := ⟨_, rfl⟩
  rw [HE.out] at c3 HO HB2 ⊢
  have d1 : (w2.setRow b2 (enV E)).cell? ⟨b2, 1, none⟩ = some (.int .u16 (E.own : Int)) := (hW.row (enV E)).at_ 1
  have d2 : (w2.setRow b2 (enV E)).cell? ⟨b2, 2, none⟩ = some (.int .u16 (E.ifHas : Int)) := (hW.row (enV E)).at_ 2
  have HW := Lib.hid hW
  have HF := Lib.hid (HB.out.trans (HB2.out.mono (by omega)))
  clear hb1 hN hW hT c0
  cases hh : m.has
  · rw [hh] at c3 HO
    go_wp2_with (refine wpList_store_whole (cs' := enV E) rfl rfl rfl rfl rfl HW.out (entI _) rfl (enV_one _) ?_)
    go_ret
    exact ⟨ret_int HO.out, by rw [hb]; exact HF.out⟩
  · rw [hh] at c3 HO
    go_wp2_with (refine wpList_store_whole (cs' := enV E) rfl rfl rfl rfl rfl HW.out (entI _) rfl (enV_one _) ?_)
    go_ret
    exact ⟨ret_int HO.out, by rw [hb]; exact HF.out⟩
theorem ent_field (E : En) (w : World) : (Instr.field 89 (.agg (enV E)) 0).run Tryz.prog w = .ok (.string E.name) w ∧ (Instr.field 89 (.agg (enV E)) 3).run Tryz.prog w = .ok (.int .u16 (E.full : Int)) w ∧ (Instr.field 89 (.agg (enV E)) 4).run Tryz.prog w = .ok (.int .u16 (E.ans : Int)) w :=
  ⟨by kernel_rfl, by kernel_rfl, by kernel_rfl⟩

set_option maxRecDepth 100000 in
theorem name_any (k : Int) (hk : -9223372036854775808 ≤ k ∧ k ≤ 9223372036854775807) (w : World) (T : Tab w) :
    Calls Tryz.prog 38 #[.int .i64 k] w fun e w' => e = .returned (.string (at_ k).name) ∧ Below w.heap.size w w' := by
  go_enter Tryz.func38, Tryz.ntmps38
  go_wp2_with fail
  refine (entry_any k hk w T).mono ?_
  rintro e w1 ⟨rfl, hb1⟩
  have HB := Lib.hid hb1
  clear hb1
  obtain ⟨f0, f3, f4⟩ := ent_field (at_ k) w1
  go_wp2_with fail
  go_ret
  exact ⟨rfl, HB.out⟩

set_option maxRecDepth 100000 in
theorem kind_any (s : ByteArray) (w : World) (T : Tab w) :
    Calls Tryz.prog 25 #[.string s] w fun e w' => e = .returned (.int .i64 (kindOf s : Int)) ∧ Below w.heap.size w w' := by
  have HT := Lib.hid T
  clear T
  have HK := Lib.hid (kindOf_all s)
  obtain ⟨K, hK⟩ : ∃ K, Hid (kindOf s = K) := ⟨_, rfl⟩
  rw [hK.out] at HK ⊢
  go_enter Tryz.func25, Tryz.ntmps25
  go_wp2_with fail
  go_loopw [4] (fun v wr => ∃ (i : Nat), i ≤ 13 ∧ v = .int .i64 i ∧ Hid (Tab wr) ∧ Hid (Below w.heap.size w wr) ∧ Hid (K = kindFrom s (13 - i) i)) (fun v _ => 13 - (intOf v).toNat)
  case atStart => exact ⟨0, by omega, rfl, HT, Lib.hid (Below.refl _ _), HK⟩
  case round =>
    obtain ⟨i, hi, rfl, HT2, HB, HI⟩ := hrel
    by_cases hlt : i < 13
    · have C := Lib.hid (entry_any i (by omega) wr HT2.out)
      rw [at_nat hlt] at C
      have hst := str_eq (ent i).name s
      obtain ⟨n, hn⟩ : ∃ n, Hid (13 - i = n + 1) := ⟨12 - i, by show 13 - i = 12 - i + 1; omega⟩
      rw [hn.out] at HI
      have HI2 : Hid (K = if (ent i).name = s then i else kindFrom s n (i + 1)) := HI
      obtain ⟨E, hE⟩ : ∃ E, Hid (ent i = E) := ⟨_, rfl⟩
      rw [hE.out] at C hst HI2
      clear HI
      cases hd : decide (E.name = s)
      · rw [hd] at hst
        rw [decide_eq_false_iff_not] at hd
        rw [if_neg hd] at HI2
        go_wp2_with fail
        refine C.out.mono ?_
        rintro e w1 ⟨rfl, hb1⟩
        obtain ⟨f0, f3, f4⟩ := ent_field E w1
        have HT3 := Lib.hid (HT2.out.kept hb1)
        have HB3 := Lib.hid (HB.out.trans (hb1.mono HB.out.size))
        clear hb1
        go_wp2_with fail
        go_roundw
        case rel => exact ⟨i + 1, by omega, by go_num, HT3, HB3, by rw [show 13 - (i + 1) = n by have := hn.out; omega]; exact HI2⟩
        case measure => simp [intOf]; omega
      · rw [hd] at hst
        rw [decide_eq_true_iff] at hd
        rw [if_pos hd] at HI2
        go_wp2_with fail
        refine C.out.mono ?_
        rintro e w1 ⟨rfl, hb1⟩
        obtain ⟨f0, f3, f4⟩ := ent_field E w1
        have HB3 := Lib.hid (HB.out.trans (hb1.mono HB.out.size))
        clear hb1
        go_wp2_with fail
        go_ret
        exact ⟨ret_int (by rw [HI2.out]), HB3.out⟩
    · have h13 : i = 13 := by omega
      subst h13
      have HI2 : Hid (K = 0) := HI
      go_wp2_with fail
      go_ret
      exact ⟨ret_int (by rw [HI2.out]; rfl), HB.out⟩
end Go.Proofs.YtldjdoebappkoaaGreatDoor
/- Contracts of the reference of layer 8: names, Name, Kind, Answers, Asks. -/
namespace Go.Proofs.YtldjdoebappkoaaGreatDoor
open Go.RowKit
set_option linter.unusedVariables false
set_option maxRecDepth 100000
open Gm

/-- the row of names -/
def nameV : Array Value := (List.range 13).map (fun i => Value.string (ent i).name) |>.toArray
theorem nameV_eq : nameV = #[.string ⟨#[63]⟩, .string ⟨#[102, 105, 110, 100]⟩, .string ⟨#[104, 111, 112]⟩, .string ⟨#[97, 115, 107]⟩, .string ⟨#[116, 101, 108, 108]⟩, .string ⟨#[110, 111, 116, 101]⟩, .string ⟨#[111, 107, 97, 121]⟩, .string ⟨#[112, 117, 116]⟩, .string ⟨#[103, 101, 116]⟩, .string ⟨#[103, 111, 116]⟩, .string ⟨#[109, 111, 118, 101]⟩, .string ⟨#[112, 105, 110, 103]⟩, .string ⟨#[110, 97, 121]⟩] := rfl

theorem names_any (w : World) :
    Calls Tryz.prog 55 #[] w fun e w' => ∃ g, e = .returned (.slice (some ⟨g, 0, none⟩) 13 13) ∧ (∀ i, i < 13 → w'.cell? ⟨g, i, none⟩ = some (.string (ent i).name)) ∧ Below w.heap.size w w' := by
  go_enter Tryz.func55, Tryz.ntmps55
  go_wp2_with fail
  go_ret
  refine ⟨_, rfl, fun i hi => ?_, (Below.refl _ _).alloc (Nat.le_refl _) _⟩
  rw [← nameV_eq, (Whole.made w _ nameV).at_ i]
  simp [nameV, hi]

set_option maxRecDepth 100000 in
theorem rname_any (k : Int) (hk : -9223372036854775808 ≤ k ∧ k ≤ 9223372036854775807) (w : World) :
    Calls Tryz.prog 63 #[.int .i64 k] w fun e w' => e = .returned (.string (at_ k).name) ∧ Below w.heap.size w w' := by
  cases hkn : known k
  · rw [at_none hkn]
    have h : k < 1 ∨ 12 < k := by unfold known at hkn; simp at hkn; omega
    go_enter Tryz.func63, Tryz.ntmps63
    rcases h with h | h
    · go_wp2_with fail
      go_ret
      exact ⟨rfl, Below.refl _ _⟩
    · have h' : ¬ k < 1 := by omega
      go_wp2_with fail
      go_ret
      exact ⟨rfl, Below.refl _ _⟩
  · obtain ⟨i, rfl⟩ : ∃ i : Nat, k = (i : Int) := ⟨k.toNat, by unfold known at hkn; simp at hkn; omega⟩
    have hi : 0 < i ∧ i < 13 := by unfold known at hkn; simp at hkn; omega
    rw [at_nat hi.2]
    go_enter Tryz.func63, Tryz.ntmps63
    go_wp2_with fail
    refine (names_any w).mono ?_
    rintro e w1 ⟨g, rfl, hc, hb1⟩
    have hci := hc i hi.2
    have HB := Lib.hid hb1
    clear hb1 hc
    go_wp2_with fail
    go_ret
    exact ⟨rfl, HB.out⟩

set_option maxRecDepth 100000 in
theorem rkind_any (s : ByteArray) (w : World) :
    Calls Tryz.prog 18 #[.string s] w fun e w' => e = .returned (.int .i64 (kindOf s : Int)) ∧ Below w.heap.size w w' := by
  have HK : Hid (kindOf s = kindFrom s 12 1) := rfl
  obtain ⟨K, hK⟩ : ∃ K, Hid (kindOf s = K) := ⟨_, rfl⟩
  rw [hK.out] at HK ⊢
  go_enter Tryz.func18, Tryz.ntmps18
  go_wp2_with fail
  go_loopw [3] (fun v wr => ∃ (i : Nat), 1 ≤ i ∧ i ≤ 13 ∧ v = .int .i64 i ∧ Hid (Below w.heap.size w wr) ∧ Hid (K = kindFrom s (13 - i) i)) (fun v _ => 13 - (intOf v).toNat)
  case atStart => exact ⟨1, by omega, by omega, rfl, Lib.hid (Below.refl _ _), HK⟩
  case round =>
    obtain ⟨i, hi0, hi, rfl, HB, HI⟩ := hrel
    by_cases hlt : i < 13
    · have C := Lib.hid (names_any wr)
      have hst := str_eq (ent i).name s
      obtain ⟨n, hn⟩ : ∃ n, Hid (13 - i = n + 1) := ⟨12 - i, by show 13 - i = 12 - i + 1; omega⟩
      rw [hn.out] at HI
      have HI2 : Hid (K = if (ent i).name = s then i else kindFrom s n (i + 1)) := HI
      clear HI
      cases hd : decide ((ent i).name = s)
      · rw [hd] at hst
        rw [decide_eq_false_iff_not] at hd
        rw [if_neg hd] at HI2
        go_wp2_with fail
        refine C.out.mono ?_
        rintro e w1 ⟨g, rfl, hc, hb1⟩
        have hci := hc i hlt
        have HB3 := Lib.hid (HB.out.trans (hb1.mono HB.out.size))
        clear hb1 hc
        obtain ⟨E, hE⟩ : ∃ E, Hid (ent i = E) := ⟨_, rfl⟩
        rw [hE.out] at hst hci hd
        go_wp2_with fail
        go_roundw
        case rel => exact ⟨i + 1, by omega, by omega, by go_num, HB3, by rw [show 13 - (i + 1) = n by have := hn.out; omega]; exact HI2⟩
        case measure => simp [intOf]; omega
      · rw [hd] at hst
        rw [decide_eq_true_iff] at hd
        rw [if_pos hd] at HI2
        go_wp2_with fail
        refine C.out.mono ?_
        rintro e w1 ⟨g, rfl, hc, hb1⟩
        have hci := hc i hlt
        have HB3 := Lib.hid (HB.out.trans (hb1.mono HB.out.size))
        clear hb1 hc
        obtain ⟨E, hE⟩ : ∃ E, Hid (ent i = E) := ⟨_, rfl⟩
        rw [hE.out] at hst hci hd
        clear hd
        go_wp2_with fail
        go_ret
        exact ⟨ret_int (by rw [HI2.out]), HB3.out⟩
    · have h13 : i = 13 := by omega
      subst h13
      have HI2 : Hid (K = 0) := HI
      go_wp2_with fail
      go_ret
      exact ⟨ret_int (by rw [HI2.out]; rfl), HB.out⟩

/-- is it answered by any kind from i on? -/
def asksFrom (k : Int) : Nat → Nat → Bool
  | 0, _ => false
  | n + 1, i => Gm.answers k (i : Int) || asksFrom k n (i + 1)
theorem asks_from (k : Int) : asks k = asksFrom k 12 1 := by
  rcases kinds k with rfl | rfl | rfl | rfl | rfl | rfl | rfl | rfl | rfl | rfl | rfl | rfl | ⟨h1, h⟩
  iterate 12 decide +kernel
  have a1 : ¬ k = 1 := by omega
  have a2 : ¬ k = 3 := by omega
  have a3 : ¬ k = 5 := by omega
  have a4 : ¬ k = 10 := by omega
  have a5 : ¬ k = 11 := by omega
  have a6 : ¬ k = 7 := by omega
  have a7 : ¬ k = 8 := by omega
  have e : ∀ r, Gm.answers k r = false := fun r => by unfold Gm.answers; simp [a1, a2, a3, a4, a5, a6, a7]
  simp only [asksFrom, e]
  unfold asks
  simp [a1, a2, a3, a4, a5, a6, a7]
end Go.Proofs.YtldjdoebappkoaaGreatDoor
/- Contracts of msg.Key and of the reference's Key. -/
namespace Go.Proofs.YtldjdoebappkoaaGreatDoor
open Go.RowKit
set_option linter.unusedVariables false
set_option maxRecDepth 100000
open Gm

theorem empty_of {s : ByteArray} (h : s.size = 0) : s = ⟨#[]⟩ := by
  apply ByteArray.ext
  apply Array.toList_inj.1
  exact List.eq_nil_of_length_eq_zero (by rw [Array.length_toList]; exact h)
theorem not_empty {s : ByteArray} (h : s.size ≠ 0) : (s.toList == []) = false := by
  have := str_eq s ⟨#[]⟩
  rw [show (⟨#[]⟩ : ByteArray).toList = [] from ByteArray.toList_mk []] at this
  rw [this, decide_eq_false_iff_not]
  intro e
  rw [e] at h
  exact h rfl

set_option maxRecDepth 100000 in
theorem key_any (s : ByteArray) (hs : s.size ≤ maxLen) (w : World) :
    Calls Tryz.prog 49 #[.string s] w fun e w' => e = .returned (.bool (isKey s)) ∧ Below w.heap.size w w' := by
  unfold maxLen at hs
  by_cases h0 : s.size = 0
  · have := empty_of h0
    subst this
    rw [show isKey ⟨#[]⟩ = false by rfl]
    clear h0 hs
    go_enter Tryz.func49, Tryz.ntmps49
    go_wp2_with fail
    go_ret
    exact ⟨rfl, Below.refl _ _⟩
  · have hne := not_empty h0
    by_cases h96 : 96 < s.size
    · have HK : Hid (isKey s = false) := Lib.hid (by unfold isKey; simp; intro _ h; omega)
      rw [HK.out]
      go_enter Tryz.func49, Tryz.ntmps49
      go_wp2_with fail
      go_ret
      exact ⟨rfl, Below.refl _ _⟩
    · have T := Txt.nums s
      have hl : (nums s).length ≤ 96 := by rw [← T.size]; omega
      have C1 := Lib.hid (fun W => valid_any T (by omega) W)
      have C2 := Lib.hid (fun W => count_any T (by omega) W)
      have hp := Tm.parts_length_le (nums s)
      have HK : Hid (isKey s = (Tm.valid (nums s) && decide ((Tm.parts (nums s)).length ≤ 32))) := Lib.hid (by
        unfold isKey
        rw [decide_eq_true (show 0 < s.size by omega), decide_eq_true (show s.size ≤ 96 by omega)]
        rfl)
      obtain ⟨n, hn⟩ : ∃ n, Hid ((Tm.parts (nums s)).length = n) := ⟨_, rfl⟩
      obtain ⟨V, hV⟩ : ∃ V, Hid (Tm.valid (nums s) = V) := ⟨_, rfl⟩
      rw [hn.out] at C2 hp HK
      rw [hV.out] at C1 HK
      clear T
      rw [HK.out]
      go_enter Tryz.func49, Tryz.ntmps49
      go_wp2_with fail
      refine (C1.out _).mono ?_
      rintro e w1 ⟨rfl, hb1⟩
      have HB1 := Lib.hid hb1
      clear hb1
      cases V
      · go_wp2_with fail
        go_ret
        exact ⟨rfl, HB1.out⟩
      · go_wp2_with fail
        refine (C2.out _).mono ?_
        rintro e w2 ⟨rfl, hb2⟩
        have HB2 := Lib.hid (HB1.out.trans (hb2.mono HB1.out.size))
        clear hb2
        go_wp2_with fail
        go_ret
        refine ⟨ret_bool ?_, HB2.out⟩
        rw [Bool.eq_iff_iff]
        simp
        omega

set_option maxRecDepth 100000 in
theorem rkey_any (s : ByteArray) (hs : s.size ≤ maxLen) (w : World) :
    Calls Tryz.prog 65 #[.string s] w fun e w' => e = .returned (.bool (isKey s)) ∧ Below w.heap.size w w' := by
  unfold maxLen at hs
  by_cases h0 : s.size = 0
  · have := empty_of h0
    subst this
    rw [show isKey ⟨#[]⟩ = false by rfl]
    clear h0 hs
    go_enter Tryz.func65, Tryz.ntmps65
    go_wp2_with fail
    go_ret
    exact ⟨rfl, Below.refl _ _⟩
  · have h0' : 0 < s.size := by omega
    by_cases h96 : 96 < s.size
    · have HK : Hid (isKey s = false) := Lib.hid (by unfold isKey; simp; intro _ h; omega)
      rw [HK.out]
      go_enter Tryz.func65, Tryz.ntmps65
      go_wp2_with fail
      go_ret
      exact ⟨rfl, Below.refl _ _⟩
    · have T := Txt.nums s
      have hl : (nums s).length ≤ 96 := by rw [← T.size]; omega
      have C1 := Lib.hid (fun W => validr_any T (by omega) W)
      have C2 := Lib.hid (fun W => parts_any T (by omega) W)
      have hp := Tm.parts_length_le (nums s)
      have HK : Hid (isKey s = (Tm.valid (nums s) && decide ((Tm.parts (nums s)).length ≤ 32))) := Lib.hid (by
        unfold isKey
        rw [decide_eq_true (show 0 < s.size by omega), decide_eq_true (show s.size ≤ 96 by omega)]
        rfl)
      obtain ⟨n, hn⟩ : ∃ n, Hid ((Tm.parts (nums s)).length = n) := ⟨_, rfl⟩
      obtain ⟨V, hV⟩ : ∃ V, Hid (Tm.valid (nums s) = V) := ⟨_, rfl⟩
      rw [hn.out] at C2 hp HK
      rw [hV.out] at C1 HK
      clear T
      rw [HK.out]
      go_enter Tryz.func65, Tryz.ntmps65
      go_wp2_with fail
      refine (C1.out _).mono ?_
      rintro e w1 ⟨rfl, hb1⟩
      have HB1 := Lib.hid hb1
      clear hb1
      cases V
      · go_wp2_with fail
        go_ret
        exact ⟨rfl, HB1.out⟩
      · go_wp2_with fail
        refine (C2.out _).mono ?_
        rintro e w2 ⟨v, rfl, ho, hb2⟩
        have HB2 := Lib.hid (HB1.out.trans (hb2.mono HB1.out.size))
        obtain ⟨A, c, rfl⟩ := own_shape ho
        clear hb2 ho
        go_wp2_with fail
        go_ret
        refine ⟨ret_bool ?_, HB2.out⟩
        rw [Bool.eq_iff_iff]
        simp
        omega
end Go.Proofs.YtldjdoebappkoaaGreatDoor
/- Peers and pairs held against one another as structs. -/
namespace Go.Proofs.YtldjdoebappkoaaGreatDoor
open Go.RowKit
set_option linter.unusedVariables false
set_option maxRecDepth 100000

theorem fieldsPeer : Tryz.prog.fieldsOf 32 = #[⟨ "ID", 29, 0, false, "", "", 0⟩, ⟨ "Addr", 30, 1, false, "", "", 8⟩] := by kernel_rfl
theorem guardPeer : Tryz.prog.eqGuardType Tryz.prog.depth 32 = false := by kernel_rfl
theorem eqPeer (W : World) (a b c d : Nat) : (Op.equalIn 10000 32 (.agg #[.int .u64 (a : Int), .int .u16 (b : Int)]) (.agg #[.int .u64 (c : Int), .int .u16 (d : Int)])).run Tryz.prog W = .ok (decide ((a, b) = (c, d))) W := by
  rw [run_equalIn_struct W 9999 32 _ _ (by rw [fieldsPeer]; exact Tryz.underlying32) (by kernel_rfl), fieldsPeer]
  have p0 : ∀ W x y, (part 29 #[Value.int .u64 x, y] 0).run Tryz.prog W = .ok (.int .u64 x) W := by intro W x y; kernel_rfl
  have p1 : ∀ W x y, (part 30 #[x, Value.int .u16 y] 1).run Tryz.prog W = .ok (.int .u16 y) W := by intro W x y; kernel_rfl
  simp [Op.eqFields, p0, p1, run_equalIn_int W _ _ _ _ _ _ Tryz.underlying29, run_equalIn_int W _ _ _ _ _ _ Tryz.underlying30]
  by_cases h : a = c
  · by_cases h2 : b = d
    · simp [h, h2]
    · have : ¬ (b : Int) = (d : Int) := by omega
      simp [h, h2, this]
  · have : ¬ (a : Int) = (c : Int) := by omega
    simp [h, this]
theorem fieldsPair : Tryz.prog.fieldsOf 65 = #[⟨ "Key", 9, 0, false, "", "", 0⟩, ⟨ "Val", 9, 1, false, "", "", 16⟩] := by kernel_rfl
theorem guardPair : Tryz.prog.eqGuardType Tryz.prog.depth 65 = false := by kernel_rfl
theorem eqPair (W : World) (a b c d : ByteArray) : (Op.equalIn 10000 65 (.agg #[.string a, .string b]) (.agg #[.string c, .string d])).run Tryz.prog W = .ok (decide ((a, b) = (c, d))) W := by
  rw [run_equalIn_struct W 9999 65 _ _ (by rw [fieldsPair]; exact Tryz.underlying65) (by kernel_rfl), fieldsPair]
  have p0 : ∀ W x y, (part 9 #[Value.string x, y] 0).run Tryz.prog W = .ok (.string x) W := by intro W x y; kernel_rfl
  have p1 : ∀ W x y, (part 9 #[x, Value.string y] 1).run Tryz.prog W = .ok (.string y) W := by intro W x y; kernel_rfl
  simp [Op.eqFields, p0, p1, run_equalIn_string W _ _ _ _ Tryz.underlying9, Gm.str_eq]
  by_cases h : a = c
  · by_cases h2 : b = d
    · simp [h, h2]
    · simp [h, h2]
  · simp [h]
end Go.Proofs.YtldjdoebappkoaaGreatDoor
