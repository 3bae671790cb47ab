/- Plain mathematics of messages: which fields a kind has, keys, what is bare, the same, right. -/
import Derived.Test.YtpfeccbnkgnioaaDoorTxt
import Derived.Test.YtpfeccbnkgnioaaDoorTm
namespace Go.Proofs.YtpfeccbnkgnioaaDoor
open Go.RowKit
set_option linter.unusedVariables false
namespace Gm

/-- a message -/
structure Ms where
  kind : Int
  rid : Nat
  code : Nat
  has : Bool
  id : Nat
  key : ByteArray
  val : ByteArray
  pid : Nat
  pad : Nat
  peers : List (Nat × Nat)
  pairs : List (ByteArray × ByteArray)

/-- chapter 8: a key -/
def isKey (s : ByteArray) : Bool := decide (0 < s.size) && decide (s.size ≤ 96) && Tm.valid (nums s) && decide ((Tm.parts (nums s)).length ≤ 32)

def oCode (m : Ms) : Bool := decide (m.kind = 12)
def oHas (m : Ms) : Bool := decide (m.kind = 2 ∨ m.kind = 4 ∨ m.kind = 9 ∨ m.kind = 10)
def oId (m : Ms) : Bool := decide (m.kind = 1)
def oPeer (m : Ms) : Bool := decide (m.kind = 5) || (decide (m.kind = 4) && m.has)
def oPeers (m : Ms) : Bool := decide (m.kind = 2 ∨ m.kind = 4)
def oKey (m : Ms) : Bool := decide (m.kind = 7 ∨ m.kind = 8)
def oVal (m : Ms) : Bool := decide (m.kind = 7) || (decide (m.kind = 9) && m.has)
def oPairs (m : Ms) : Bool := decide (m.kind = 10)
def known (k : Int) : Bool := decide (0 < k) && decide (k < 13)

/-- only if -/
def oi {α : Type} (b : Bool) (x z : α) : α := bif b then x else z
theorem oi_true {α : Type} (x z : α) : oi true x z = x := rfl
theorem oi_false {α : Type} (x z : α) : oi false x z = z := rfl
theorem oi_oi {α : Type} (b : Bool) (x z : α) : oi b (oi b x z) z = oi b x z := by cases b <;> rfl

/-- a message without what its kind does not have -/
def bareBy (c h i p ps k v pr : Bool) (m : Ms) : Ms where
  kind := m.kind
  rid := m.rid
  code := oi c m.code 0
  has := oi h m.has false
  id := oi i m.id 0
  key := oi k m.key ⟨#[]⟩
  val := oi v m.val ⟨#[]⟩
  pid := oi p m.pid 0
  pad := oi p m.pad 0
  peers := oi ps m.peers []
  pairs := oi pr m.pairs []
def bare (m : Ms) : Ms := bareBy (oCode m) (oHas m) (oId m) (oPeer m) (oPeers m) (oKey m) (oVal m) (oPairs m) m

/-- all fields but the lists -/
def same1 (a b : Ms) : Bool := decide (a.kind = b.kind) && decide (a.rid = b.rid) && decide (a.code = b.code) && decide (a.has = b.has) && decide (a.id = b.id) && decide (a.key = b.key) && decide (a.val = b.val) && (decide (a.pid = b.pid) && decide (a.pad = b.pad))
def same (a b : Ms) : Bool := same1 a b && decide (a.peers = b.peers) && decide (a.pairs = b.pairs)
theorem same_iff {a b : Ms} : same a b = true ↔ a = b := by
  cases a; cases b
  simp [same, same1, and_assoc]
theorem same_refl (a : Ms) : same a a = true := same_iff.2 rfl

def isLong (m : Ms) : Bool := decide (512 < m.val.size) || decide (16 < m.peers.length) || decide (8 < m.pairs.length) || m.pairs.any fun p => decide (512 < p.2.size)
def isShort (m : Ms) : Bool := (decide (m.kind = 2) && decide (m.peers.length = 0)) || (decide (m.kind = 10) && decide (m.pairs.length = 0)) || (decide (m.kind = 12) && decide (m.code = 0))
def badKey (m : Ms) : Bool := (oKey m && !isKey m.key) || m.pairs.any fun p => !isKey p.1
/-- chapter 8: whether a message may be, and why not -/
def right (m : Ms) : Nat :=
  bif !known m.kind then 9 else bif !same m (bare m) then 1 else bif badKey m then 7 else bif isLong m then 5 else bif isShort m then 2 else 0

theorem o_bare (m : Ms) : oCode (bare m) = oCode m ∧ oHas (bare m) = oHas m ∧ oId (bare m) = oId m ∧ oPeer (bare m) = oPeer m ∧ oPeers (bare m) = oPeers m ∧ oKey (bare m) = oKey m ∧ oVal (bare m) = oVal m ∧ oPairs (bare m) = oPairs m := by
  refine ⟨rfl, rfl, rfl, ?_, rfl, rfl, ?_, rfl⟩
  · show (decide (m.kind = 5) || (decide (m.kind = 4) && oi (oHas m) m.has false)) = (decide (m.kind = 5) || (decide (m.kind = 4) && m.has))
    unfold oHas
    by_cases h : m.kind = 4
    · simp [h, oi_true]
    · simp [h]
  · show (decide (m.kind = 7) || (decide (m.kind = 9) && oi (oHas m) m.has false)) = (decide (m.kind = 7) || (decide (m.kind = 9) && m.has))
    unfold oHas
    by_cases h : m.kind = 9
    · simp [h, oi_true]
    · simp [h]
theorem bare_bare (m : Ms) : bare (bare m) = bare m := by
  obtain ⟨h1, h2, h3, h4, h5, h6, h7, h8⟩ := o_bare m
  have e : bare (bare m) = bareBy (oCode (bare m)) (oHas (bare m)) (oId (bare m)) (oPeer (bare m)) (oPeers (bare m)) (oKey (bare m)) (oVal (bare m)) (oPairs (bare m)) (bare m) := rfl
  rw [e, h1, h2, h3, h4, h5, h6, h7, h8]
  unfold bare bareBy
  simp only [oi_oi]
theorem right_bare (m : Ms) : right (bare m) ≠ 1 := by
  unfold right
  rw [bare_bare, same_refl]
  simp only [cond_eq_ite]
  repeat' split
  all_goals simp_all
theorem right_zero {m : Ms} (h : right m = 0) : same m (bare m) = true := by
  unfold right at h
  cases hk : known m.kind <;> cases hs : same m (bare m) <;> simp_all

/-! ### sets of fields as numbers -/
def mask (c h i p ps k v pr : Bool) : Nat := c.toNat + 2 * h.toNat + 4 * i.toNat + 8 * p.toNat + 16 * ps.toNat + 32 * k.toNat + 64 * v.toNat + 128 * pr.toNat
def own (m : Ms) : Nat := mask (oCode m) (oHas m) (oId m) (oPeer m) (oPeers m) (oKey m) (oVal m) (oPairs m)
def uCode (m : Ms) : Bool := !decide (m.code = 0)
def uId (m : Ms) : Bool := !decide (m.id = 0)
def uPeer (m : Ms) : Bool := !(decide (m.pid = 0) && decide (m.pad = 0))
def uPeers (m : Ms) : Bool := decide (0 < m.peers.length)
def uKey (m : Ms) : Bool := !decide (m.key = ⟨#[]⟩)
def uVal (m : Ms) : Bool := !decide (m.val = ⟨#[]⟩)
def uPairs (m : Ms) : Bool := decide (0 < m.pairs.length)
def used (m : Ms) : Nat := mask (uCode m) m.has (uId m) (uPeer m) (uPeers m) (uKey m) (uVal m) (uPairs m)
theorem mask_lt (c h i p ps k v pr : Bool) : mask c h i p ps k v pr < 256 := by
  cases c <;> cases h <;> cases i <;> cases p <;> cases ps <;> cases k <;> cases v <;> cases pr <;> decide
theorem mask_bits (c h i p ps k v pr : Bool) :
    bits .and .u16 ((mask c h i p ps k v pr : Nat) : Int) 1 = ((c.toNat : Nat) : Int) ∧ bits .and .u16 ((mask c h i p ps k v pr : Nat) : Int) 2 = ((2 * h.toNat : Nat) : Int) ∧ bits .and .u16 ((mask c h i p ps k v pr : Nat) : Int) 4 = ((4 * i.toNat : Nat) : Int) ∧
    bits .and .u16 ((mask c h i p ps k v pr : Nat) : Int) 8 = ((8 * p.toNat : Nat) : Int) ∧ bits .and .u16 ((mask c h i p ps k v pr : Nat) : Int) 16 = ((16 * ps.toNat : Nat) : Int) ∧ bits .and .u16 ((mask c h i p ps k v pr : Nat) : Int) 32 = ((32 * k.toNat : Nat) : Int) ∧
    bits .and .u16 ((mask c h i p ps k v pr : Nat) : Int) 64 = ((64 * v.toNat : Nat) : Int) ∧ bits .and .u16 ((mask c h i p ps k v pr : Nat) : Int) 128 = ((128 * pr.toNat : Nat) : Int) := by
  revert c h i p ps k v pr
  decide +kernel

theorem own_cases (m : Ms) : (oCode m, oHas m, oId m, oPeer m, oPeers m, oKey m, oVal m, oPairs m) ∈ ([(false, false, false, false, false, false, false, false), (false, false, true, false, false, false, false, false), (false, true, false, false, true, false, false, false),
    (false, true, false, false, true, false, false, false), (false, true, false, true, true, false, false, false), (false, false, false, true, false, false, false, false), (false, false, false, false, false, true, true, false), (false, false, false, false, false, true, false, false),
    (false, true, false, false, false, false, false, false), (false, true, false, false, false, false, true, false), (false, true, false, false, false, false, false, true), (true, false, false, false, false, false, false, false)] : List (Bool × Bool × Bool × Bool × Bool × Bool × Bool × Bool)) := by
  have hc : m.kind = 1 ∨ m.kind = 2 ∨ m.kind = 4 ∨ m.kind = 5 ∨ m.kind = 7 ∨ m.kind = 8 ∨ m.kind = 9 ∨ m.kind = 10 ∨ m.kind = 12 ∨ (m.kind ≠ 1 ∧ m.kind ≠ 2 ∧ m.kind ≠ 4 ∧ m.kind ≠ 5 ∧ m.kind ≠ 7 ∧ m.kind ≠ 8 ∧ m.kind ≠ 9 ∧ m.kind ≠ 10 ∧ m.kind ≠ 12) := by omega
  unfold oCode oHas oId oPeer oPeers oKey oVal oPairs
  rcases hc with h | h | h | h | h | h | h | h | h | ⟨h1, h2, h4, h5, h7, h8, h9, h10, h12⟩
  case inr => simp_all
  all_goals (rw [h]; cases m.has <;> decide)
theorem andNot_table : ∀ o ∈ ([(false, false, false, false, false, false, false, false), (false, false, true, false, false, false, false, false), (false, true, false, false, true, false, false, false),
    (false, true, false, false, true, false, false, false), (false, true, false, true, true, false, false, false), (false, false, false, true, false, false, false, false), (false, false, false, false, false, true, true, false), (false, false, false, false, false, true, false, false),
    (false, true, false, false, false, false, false, false), (false, true, false, false, false, false, true, false), (false, true, false, false, false, false, false, true), (true, false, false, false, false, false, false, false)] : List (Bool × Bool × Bool × Bool × Bool × Bool × Bool × Bool)),
    ∀ c h i p ps k v pr : Bool, bits .andNot .u16 ((mask c h i p ps k v pr : Nat) : Int) ((mask o.1 o.2.1 o.2.2.1 o.2.2.2.1 o.2.2.2.2.1 o.2.2.2.2.2.1 o.2.2.2.2.2.2.1 o.2.2.2.2.2.2.2 : Nat) : Int) =
      ((mask (c && !o.1) (h && !o.2.1) (i && !o.2.2.1) (p && !o.2.2.2.1) (ps && !o.2.2.2.2.1) (k && !o.2.2.2.2.2.1) (v && !o.2.2.2.2.2.2.1) (pr && !o.2.2.2.2.2.2.2) : Nat) : Int) := by
  decide +kernel
/-- the fields that are used though the kind does not have them -/
def extra (m : Ms) : Nat := mask (uCode m && !oCode m) (m.has && !oHas m) (uId m && !oId m) (uPeer m && !oPeer m) (uPeers m && !oPeers m) (uKey m && !oKey m) (uVal m && !oVal m) (uPairs m && !oPairs m)
theorem extra_bits (m : Ms) : bits .andNot .u16 ((used m : Nat) : Int) ((own m : Nat) : Int) = ((extra m : Nat) : Int) :=
  andNot_table _ (own_cases m) (uCode m) m.has (uId m) (uPeer m) (uPeers m) (uKey m) (uVal m) (uPairs m)
theorem mask_zero {c h i p ps k v pr : Bool} : mask c h i p ps k v pr = 0 ↔ c = false ∧ h = false ∧ i = false ∧ p = false ∧ ps = false ∧ k = false ∧ v = false ∧ pr = false := by
  cases c <;> cases h <;> cases i <;> cases p <;> cases ps <;> cases k <;> cases v <;> cases pr <;> decide
theorem extra_zero {m : Ms} : extra m = 0 ↔ same m (bare m) = true := by
  unfold extra
  rw [mask_zero, same_iff]
  have key : ∀ (a o : Bool), (a && !o) = false ↔ (o = false → a = false) := by decide
  simp only [key]
  constructor
  · rintro ⟨h1, h2, h3, h4, h5, h6, h7, h8⟩
    have e : ∀ {α : Type} (o : Bool) (x z : α), (o = false → x = z) → oi o x z = x := by
      intro α o x z h
      cases o
      · exact (h rfl).symm
      · rfl
    cases m with
    | mk kind rid code has id keyy val pid pad peers pairs =>
    simp only [bare, bareBy, Ms.mk.injEq, true_and]
    refine ⟨(e _ _ _ fun h => ?_).symm, (e _ _ _ fun h => ?_).symm, (e _ _ _ fun h => ?_).symm, (e _ _ _ fun h => ?_).symm, (e _ _ _ fun h => ?_).symm, (e _ _ _ fun h => ?_).symm, (e _ _ _ fun h => ?_).symm, (e _ _ _ fun h => ?_).symm, (e _ _ _ fun h => ?_).symm⟩
    · simpa [uCode] using h1 h
    · exact h2 h
    · simpa [uId] using h3 h
    · simpa [uKey] using h6 h
    · simpa [uVal] using h7 h
    · have := h4 h; simp [uPeer] at this; exact this.1
    · have := h4 h; simp [uPeer] at this; exact this.2
    · have := h5 h; simpa [uPeers] using this
    · have := h8 h; simpa [uPairs] using this
  · intro h
    refine ⟨fun o => ?_, fun o => ?_, fun o => ?_, fun o => ?_, fun o => ?_, fun o => ?_, fun o => ?_, fun o => ?_⟩
    · have e := congrArg Ms.code h; rw [show (bare m).code = oi (oCode m) m.code 0 from rfl, o, oi_false] at e; simp [uCode, e]
    · have e := congrArg Ms.has h; rw [show (bare m).has = oi (oHas m) m.has false from rfl, o, oi_false] at e; exact e
    · have e := congrArg Ms.id h; rw [show (bare m).id = oi (oId m) m.id 0 from rfl, o, oi_false] at e; simp [uId, e]
    · have e := congrArg Ms.pid h; have f := congrArg Ms.pad h
      rw [show (bare m).pid = oi (oPeer m) m.pid 0 from rfl, o, oi_false] at e
      rw [show (bare m).pad = oi (oPeer m) m.pad 0 from rfl, o, oi_false] at f
      simp [uPeer, e, f]
    · have e := congrArg Ms.peers h; rw [show (bare m).peers = oi (oPeers m) m.peers [] from rfl, o, oi_false] at e; simp [uPeers, e]
    · have e := congrArg Ms.key h; rw [show (bare m).key = oi (oKey m) m.key ⟨#[]⟩ from rfl, o, oi_false] at e; simp [uKey, e]
    · have e := congrArg Ms.val h; rw [show (bare m).val = oi (oVal m) m.val ⟨#[]⟩ from rfl, o, oi_false] at e; simp [uVal, e]
    · have e := congrArg Ms.pairs h; rw [show (bare m).pairs = oi (oPairs m) m.pairs [] from rfl, o, oi_false] at e; simp [uPairs, e]

/-! ### the table of kinds -/
/-- name, own fields, own fields if Has, full fields, answers -/
structure En where
  name : ByteArray
  own : Nat
  ifHas : Nat
  full : Nat
  ans : Nat
def tbl : List En := [⟨⟨#[63]⟩, 0, 0, 0, 0⟩, ⟨⟨#[102, 105, 110, 100]⟩, 4, 0, 0, 4100⟩, ⟨⟨#[104, 111, 112]⟩, 18, 0, 16, 0⟩, ⟨⟨#[97, 115, 107]⟩, 0, 0, 0, 16⟩, ⟨⟨#[116, 101, 108, 108]⟩, 18, 8, 0, 0⟩, ⟨⟨#[110, 111, 116, 101]⟩, 8, 0, 0, 64⟩, ⟨⟨#[111, 107, 97, 121]⟩, 0, 0, 0, 0⟩,
  ⟨⟨#[112, 117, 116]⟩, 96, 0, 0, 4160⟩, ⟨⟨#[103, 101, 116]⟩, 32, 0, 0, 4608⟩, ⟨⟨#[103, 111, 116]⟩, 2, 64, 0, 0⟩, ⟨⟨#[109, 111, 118, 101]⟩, 130, 0, 128, 64⟩, ⟨⟨#[112, 105, 110, 103]⟩, 0, 0, 0, 64⟩, ⟨⟨#[110, 97, 121]⟩, 1, 0, 1, 0⟩]
def ent (i : Nat) : En := tbl.getD i ⟨⟨#[63]⟩, 0, 0, 0, 0⟩
/-- the table's row for a kind, row 0 for what is none -/
def at_ (k : Int) : En := ent (bif known k then k.toNat else 0)
theorem ent_bounds (i : Nat) : (ent i).own < 256 ∧ (ent i).ifHas < 256 ∧ (ent i).full < 256 ∧ (ent i).ans < 8192 ∧ (ent i).name.size < 5 := by
  by_cases h : i < 13
  · rcases i with _ | _ | _ | _ | _ | _ | _ | _ | _ | _ | _ | _ | _ | i <;> (first | decide | omega)
  · unfold ent
    rw [List.getD, List.getElem?_eq_none (by simpa [tbl] using h)]
    decide
theorem kinds (k : Int) : k = 1 ∨ k = 2 ∨ k = 3 ∨ k = 4 ∨ k = 5 ∨ k = 6 ∨ k = 7 ∨ k = 8 ∨ k = 9 ∨ k = 10 ∨ k = 11 ∨ k = 12 ∨ (known k = false ∧ (k < 1 ∨ 12 < k)) := by
  unfold known
  by_cases h : 0 < k ∧ k < 13
  · omega
  · right; right; right; right; right; right; right; right; right; right; right; right
    refine ⟨?_, by omega⟩
    rw [Bool.and_eq_false_iff]
    simp
    omega
theorem own_at (m : Ms) : (bif m.has then bits .or .u16 (((at_ m.kind).own : Nat) : Int) (((at_ m.kind).ifHas : Nat) : Int) else (((at_ m.kind).own : Nat) : Int)) = ((own m : Nat) : Int) := by
  unfold own oCode oHas oId oPeer oPeers oKey oVal oPairs
  generalize m.has = b
  generalize m.kind = k
  rcases kinds k with rfl | rfl | rfl | rfl | rfl | rfl | rfl | rfl | rfl | rfl | rfl | rfl | ⟨h1, h⟩
  iterate 12 (cases b <;> decide +kernel)
  rw [show at_ k = ent 0 by unfold at_; rw [h1]; rfl]
  have a1 : ¬ k = 12 := by omega
  have a2 : ¬ k = 2 := by omega
  have a3 : ¬ k = 4 := by omega
  have a4 : ¬ k = 9 := by omega
  have a5 : ¬ k = 10 := by omega
  have a6 : ¬ k = 1 := by omega
  have a7 : ¬ k = 5 := by omega
  have a8 : ¬ k = 7 := by omega
  have a9 : ¬ k = 8 := by omega
  simp only [a1, a2, a3, a4, a5, a6, a7, a8, a9, or_self]
  cases b <;> decide +kernel
theorem short_table : ∀ k ∈ ([1, 2, 3, 4, 5, 6, 7, 8, 9, 10, 11, 12] : List Int), ∀ c h i p ps ke v pr : Bool, (bits .andNot .u16 (((at_ k).full : Nat) : Int) ((mask c h i p ps ke v pr : Nat) : Int) = 0) ↔ ((k = 2 → ps = true) ∧ (k = 10 → pr = true) ∧ (k = 12 → c = true)) := by
  decide +kernel
theorem short_at {m : Ms} (hk : known m.kind = true) : (bits .andNot .u16 (((at_ m.kind).full : Nat) : Int) ((used m : Nat) : Int) = 0) ↔ isShort m = false := by
  have hm : m.kind ∈ ([1, 2, 3, 4, 5, 6, 7, 8, 9, 10, 11, 12] : List Int) := by
    rcases kinds m.kind with h | h | h | h | h | h | h | h | h | h | h | h | ⟨h, _⟩
    case inr => rw [hk] at h; cases h
    all_goals (rw [h]; decide)
  unfold used
  rw [short_table _ hm]
  unfold isShort
  rw [Bool.or_eq_false_iff, Bool.or_eq_false_iff, Bool.and_eq_false_iff, Bool.and_eq_false_iff, Bool.and_eq_false_iff]
  simp only [decide_eq_false_iff_not, uPeers, uPairs, uCode, decide_eq_true_iff, Bool.not_eq_true', ← Nat.pos_iff_ne_zero]
  constructor
  · rintro ⟨a, b, c⟩
    refine ⟨⟨?_, ?_⟩, ?_⟩
    · by_cases h : m.kind = 2
      · exact .inr (a h)
      · exact .inl h
    · by_cases h : m.kind = 10
      · exact .inr (b h)
      · exact .inl h
    · by_cases h : m.kind = 12
      · exact .inr (by have := c h; omega)
      · exact .inl h
  · rintro ⟨⟨a, b⟩, c⟩
    exact ⟨fun h => a.resolve_left (fun n => n h), fun h => b.resolve_left (fun n => n h), fun h => by have := c.resolve_left (fun n => n h); omega⟩
/-- chapter 8: which kinds answer which -/
def answers (k r : Int) : Bool := (decide (k = 1) && (decide (r = 2) || decide (r = 12))) || (decide (k = 3) && decide (r = 4)) || ((decide (k = 5) || decide (k = 10) || decide (k = 11)) && decide (r = 6)) || (decide (k = 7) && (decide (r = 6) || decide (r = 12))) || (decide (k = 8) && (decide (r = 9) || decide (r = 12)))
def asks (k : Int) : Bool := decide (k = 1 ∨ k = 3 ∨ k = 5 ∨ k = 7 ∨ k = 8 ∨ k = 10 ∨ k = 11)
theorem at_none {k : Int} (h : known k = false) : at_ k = ent 0 := by unfold at_; rw [h]; rfl
theorem asks_at (k : Int) : (!decide ((at_ k).ans = 0)) = asks k := by
  rcases kinds k with rfl | rfl | rfl | rfl | rfl | rfl | rfl | rfl | rfl | rfl | rfl | rfl | ⟨h1, h⟩
  iterate 12 decide +kernel
  rw [at_none h1, show (ent 0).ans = 0 from rfl]
  unfold asks
  symm
  simp
  omega
theorem ans_shift (k : Int) (r : Nat) (hr : r < 13) : (bits .and .u16 ((((at_ k).ans : Nat) : Int) / ((2 ^ r : Nat) : Int)) 1 != 0) = answers k (r : Int) := by
  have hl : r = 0 ∨ r = 1 ∨ r = 2 ∨ r = 3 ∨ r = 4 ∨ r = 5 ∨ r = 6 ∨ r = 7 ∨ r = 8 ∨ r = 9 ∨ r = 10 ∨ r = 11 ∨ r = 12 := by omega
  rcases kinds k with rfl | rfl | rfl | rfl | rfl | rfl | rfl | rfl | rfl | rfl | rfl | rfl | ⟨h1, h⟩
  iterate 12 (rcases hl with rfl | rfl | rfl | rfl | rfl | rfl | rfl | rfl | rfl | rfl | rfl | rfl | rfl <;> decide +kernel)
  rw [at_none h1, show (ent 0).ans = 0 from rfl]
  have e : answers k (r : Int) = false := by
    unfold answers
    have a1 : ¬ k = 1 := by omega
    have a2 : ¬ k = 3 := by omega
    have a3 : ¬ k = 5 := by omega
    have a4 : ¬ k = 10 := by omega
    have a5 : ¬ k = 11 := by omega
    have a6 : ¬ k = 7 := by omega
    have a7 : ¬ k = 8 := by omega
    simp [a1, a2, a3, a4, a5, a6, a7]
  rw [e]
  rcases hl with rfl | rfl | rfl | rfl | rfl | rfl | rfl | rfl | rfl | rfl | rfl | rfl | rfl <;> decide +kernel
theorem answers_none (k : Int) {r : Int} (h : r < 1 ∨ 12 < r) : answers k r = false := by
  unfold answers
  have a1 : ¬ r = 2 := by omega
  have a2 : ¬ r = 12 := by omega
  have a3 : ¬ r = 4 := by omega
  have a4 : ¬ r = 6 := by omega
  have a5 : ¬ r = 9 := by omega
  simp [a1, a2, a3, a4, a5]
theorem known_of {x : Int} (h1 : 0 < x) (h2 : x < 13) : known x = true := by unfold known; simp [h1, h2]
/-- the kind of a name: the first row with it, from row i on -/
def kindFrom (s : ByteArray) : Nat → Nat → Nat
  | 0, _ => 0
  | n + 1, i => if (ent i).name = s then i else kindFrom s n (i + 1)
def kindOf (s : ByteArray) : Nat := kindFrom s 12 1
theorem kindOf_all (s : ByteArray) : kindOf s = kindFrom s 13 0 := by
  show kindFrom s 12 1 = if (ent 0).name = s then 0 else kindFrom s 12 1
  split
  · rename_i h
    subst h
    decide +kernel
  · rfl
theorem kindFrom_hit {s : ByteArray} {n i : Nat} (h : (ent i).name = s) : kindFrom s (n + 1) i = i := by unfold kindFrom; rw [if_pos h]
theorem kindFrom_miss {s : ByteArray} {n i : Nat} (h : ¬ (ent i).name = s) : kindFrom s (n + 1) i = kindFrom s n (i + 1) := by conv => lhs; unfold kindFrom; rw [if_neg h]
theorem at_nat {i : Nat} (hi : i < 13) : at_ (i : Int) = ent i := by
  unfold at_
  by_cases h : 0 < i
  · rw [known_of (by omega) (by omega)]; rfl
  · have : i = 0 := by omega
    subst this
    rfl
theorem str_eq (a b : ByteArray) : (a.toList == b.toList) = decide (a = b) := by
  rw [Bool.eq_iff_iff, beq_iff_eq, decide_eq_true_iff]
  exact ⟨fun h => toList_inj h, fun h => by rw [h]⟩
end Gm
end Go.Proofs.YtpfeccbnkgnioaaDoor
