/- Plain mathematics of values: the order that the chapter says, as a plain function; no program is named here. No conditions. Plain mathematics of the operators and functions of values (chapter 2), as plain functions; no program is named here. No conditions. -/
import Derived.Lib.Bytealg
import Derived.Below
namespace Go.Proofs.YtblkhlhhlalbkaaGreatDoor
open Go.Lib (compareBytes)

/-- A value of the document: its kind, its number, its text. -/
structure Val where
  k : Int
  n : Int
  s : ByteArray

/-- Its Go value. -/
def Val.v (a : Val) : Value := .agg #[.int .i64 a.k, .int .i64 a.n, .string a.s]

def cmpI (a b : Int) : Int := if a < b then -1 else if b < a then 1 else 0

def cmpV (a b : Val) : Int :=
  if a.k < b.k then -1 else if b.k < a.k then 1 else
  if a.k = 3 ∨ a.k = 4 then compareBytes a.s.data.toList b.s.data.toList else
  if a.k = 1 ∨ a.k = 2 then cmpI a.n b.n else 0

theorem cmpI_lt {a b : Int} (h : a < b) : cmpI a b = -1 := by unfold cmpI; rw [if_pos h]
theorem cmpI_gt {a b : Int} (h : b < a) : cmpI a b = 1 := by unfold cmpI; rw [if_neg (by omega), if_pos h]
theorem cmpI_eq {a b : Int} (h : a = b) : cmpI a b = 0 := by unfold cmpI; rw [if_neg (by omega), if_neg (by omega)]

theorem ret_int {k : IntKind} {a b : Int} (h : a = b) : Ending.returned (.int k a) = .returned (.int k b) := by rw [h]
theorem ret_bool {a b : Bool} (h : a = b) : Ending.returned (.bool a) = .returned (.bool b) := by rw [h]

theorem cmpV_kind {a b : Val} (h : a.k ≠ b.k) : cmpV a b = cmpI a.k b.k := by
  unfold cmpV cmpI
  split
  · rfl
  · split
    · rfl
    · omega
theorem cmpV_num {a b : Val} (h : a.k = b.k) (h1 : a.k = 1 ∨ a.k = 2) : cmpV a b = cmpI a.n b.n := by
  unfold cmpV
  rw [if_neg (by omega), if_neg (by omega), if_neg (by omega), if_pos h1]
theorem cmpV_text {a b : Val} (h : a.k = b.k) (h1 : a.k = 3 ∨ a.k = 4) : cmpV a b = compareBytes a.s.data.toList b.s.data.toList := by
  unfold cmpV
  rw [if_neg (by omega), if_neg (by omega), if_pos h1]
theorem cmpV_none {a b : Val} (h : a.k = b.k) (h1 : a.k ≠ 1) (h2 : a.k ≠ 2) (h3 : a.k ≠ 3) (h4 : a.k ≠ 4) : cmpV a b = 0 := by
  unfold cmpV
  rw [if_neg (by omega), if_neg (by omega), if_neg (by omega), if_neg (by omega)]

/-! ### Rows of values -/

def cmpRow : List Val → List Val → List Bool → Int
  | [], [], _ => 0
  | [], _ :: _, _ => -1
  | _ :: _, [], _ => 1
  | a :: as, b :: bs, ds => if cmpV a b = 0 then cmpRow as bs ds.tail else if ds.headD false then -(cmpV a b) else cmpV a b

theorem compareBytes_bd : ∀ a b : List UInt8, -1 ≤ compareBytes a b ∧ compareBytes a b ≤ 1
  | [], [] => by decide
  | [], _ :: _ => by simp [compareBytes]
  | _ :: _, [] => by simp [compareBytes]
  | x :: a, y :: b => by
    show -1 ≤ (if x < y then -1 else if y < x then 1 else compareBytes a b : Int) ∧ (if x < y then -1 else if y < x then 1 else compareBytes a b : Int) ≤ 1
    split
    · decide
    · split
      · decide
      · exact compareBytes_bd a b
theorem cmpI_bd (a b : Int) : -1 ≤ cmpI a b ∧ cmpI a b ≤ 1 := by unfold cmpI; split <;> (try split) <;> decide
theorem cmpV_bd (a b : Val) : -1 ≤ cmpV a b ∧ cmpV a b ≤ 1 := by
  unfold cmpV
  split
  · decide
  · split
    · decide
    · split
      · exact compareBytes_bd _ _
      · split
        · exact cmpI_bd _ _
        · decide
theorem cmpRow_bd : ∀ (as bs : List Val) (ds : List Bool), -1 ≤ cmpRow as bs ds ∧ cmpRow as bs ds ≤ 1
  | [], [], _ => by simp [cmpRow]
  | [], _ :: _, _ => by simp [cmpRow]
  | _ :: _, [], _ => by simp [cmpRow]
  | a :: as, b :: bs, ds => by
    unfold cmpRow
    have := cmpV_bd a b
    split
    · exact cmpRow_bd as bs ds.tail
    · split <;> omega

/-- Where the first k places are the same: the rest decides. -/
def Upto (as bs : List Val) (ds : List Bool) (k : Nat) : Prop := cmpRow as bs ds = cmpRow (as.drop k) (bs.drop k) (ds.drop k)

theorem Upto.next {as bs : List Val} {ds : List Bool} {k : Nat} (h : Upto as bs ds k) (ha : k < as.length) (hb : k < bs.length) (h0 : cmpV as[k] bs[k] = 0) : Upto as bs ds (k + 1) := by
  unfold Upto at *
  rw [h, List.drop_eq_getElem_cons ha, List.drop_eq_getElem_cons hb]
  conv => lhs; unfold cmpRow
  rw [if_pos h0, List.tail_drop]
theorem Upto.here {as bs : List Val} {ds : List Bool} {k : Nat} (h : Upto as bs ds k) (ha : k < as.length) (hb : k < bs.length) (h0 : cmpV as[k] bs[k] ≠ 0) :
    cmpRow as bs ds = if ds.getD k false then -(cmpV as[k] bs[k]) else cmpV as[k] bs[k] := by
  unfold Upto at h
  rw [h, List.drop_eq_getElem_cons ha, List.drop_eq_getElem_cons hb]
  conv => lhs; unfold cmpRow
  rw [if_neg h0]
  have : (ds.drop k).headD false = ds.getD k false := by simp [List.headD_eq_head?_getD, List.head?_drop, List.getD_eq_getElem?_getD]
  rw [this]
theorem Upto.done {as bs : List Val} {ds : List Bool} {k : Nat} (h : Upto as bs ds k) (ha : k ≤ as.length) (hb : k ≤ bs.length) (he : ¬ (k < as.length ∧ k < bs.length)) : cmpRow as bs ds = cmpI as.length bs.length := by
  unfold Upto at h
  rw [h]
  have la : (as.drop k).length = as.length - k := List.length_drop
  have lb : (bs.drop k).length = bs.length - k := List.length_drop
  revert la lb
  cases as.drop k <;> cases bs.drop k <;> intro la lb
  · simp at la lb; exact (cmpI_eq (by omega)).symm
  · simp at la lb; exact (cmpI_lt (by omega)).symm
  · simp at la lb; exact (cmpI_gt (by omega)).symm
  · simp at la lb; omega

/-- A slice of values in memory. -/
def Row (w : World) (p : Option Addr) (vs : List Val) : Prop :=
  vs = [] ∨ ∃ b off, p = some ⟨b, off, none⟩ ∧ ∀ i (h : i < vs.length), w.cell? ⟨b, off + i * 3, none⟩ = some (.int .i64 vs[i].k) ∧ w.cell? ⟨b, off + i * 3 + 1, none⟩ = some (.int .i64 vs[i].n) ∧ w.cell? ⟨b, off + i * 3 + 2, none⟩ = some (.string vs[i].s)
/-- A slice of bools in memory. -/
def Bits (w : World) (p : Option Addr) (ds : List Bool) : Prop :=
  ds = [] ∨ ∃ b off, p = some ⟨b, off, none⟩ ∧ ∀ i (h : i < ds.length), w.cell? ⟨b, off + i, none⟩ = some (.bool ds[i])

theorem cell_lt {w : World} {a : Addr} {v : Value} (h : w.cell? a = some v) : a.block < w.heap.size := by
  rcases Nat.lt_or_ge a.block w.heap.size with h' | h'
  · exact h'
  · simp [World.cell?, Array.getElem?_eq_none h'] at h

theorem below_cell {w w' : World} {a : Addr} {v : Value} (hb : RowKit.Below w.heap.size w w') (h : w.cell? a = some v) : w'.cell? a = some v := by
  rw [hb.cell (cell_lt h)]; exact h

theorem Row.below {w w' : World} {p : Option Addr} {vs : List Val} (h : Row w p vs) (hb : RowKit.Below w.heap.size w w') : Row w' p vs := by
  rcases h with h | ⟨b, off, hp, hc⟩
  · exact Or.inl h
  · exact Or.inr ⟨b, off, hp, fun i hi => ⟨below_cell hb (hc i hi).1, below_cell hb (hc i hi).2.1, below_cell hb (hc i hi).2.2⟩⟩
theorem Bits.below {w w' : World} {p : Option Addr} {ds : List Bool} (h : Bits w p ds) (hb : RowKit.Below w.heap.size w w') : Bits w' p ds := by
  rcases h with h | ⟨b, off, hp, hc⟩
  · exact Or.inl h
  · exact Or.inr ⟨b, off, hp, fun i hi => below_cell hb (hc i hi)⟩

theorem Row.at {w : World} {p : Option Addr} {vs : List Val} (h : Row w p vs) {i : Nat} (hi : i < vs.length) : ∃ b off, p = some ⟨b, off, none⟩ ∧ w.cell? ⟨b, off + i * 3, none⟩ = some (.int .i64 vs[i].k) ∧ w.cell? ⟨b, off + i * 3 + 1, none⟩ = some (.int .i64 vs[i].n) ∧ w.cell? ⟨b, off + i * 3 + 2, none⟩ = some (.string vs[i].s) := by
  rcases h with h | ⟨b, off, hp, hc⟩
  · subst h; simp at hi
  · exact ⟨b, off, hp, hc i hi⟩
theorem Bits.at {w : World} {p : Option Addr} {ds : List Bool} (h : Bits w p ds) {i : Nat} (hi : i < ds.length) : ∃ b off, p = some ⟨b, off, none⟩ ∧ w.cell? ⟨b, off + i, none⟩ = some (.bool ds[i]) := by
  rcases h with h | ⟨b, off, hp, hc⟩
  · subst h; simp at hi
  · exact ⟨b, off, hp, hc i hi⟩

end Go.Proofs.YtblkhlhhlalbkaaGreatDoor
namespace Go.Proofs.YtblkhlhhlalbkaaGreatDoor
open Go.Lib (compareBytes)

/-- NULL, a Bool, an Int, a Text. -/
def nullV : Val := ⟨0, 0, ⟨#[]⟩⟩
def truthV (b : Bool) : Val := if b then ⟨1, 1, ⟨#[]⟩⟩ else ⟨1, 0, ⟨#[]⟩⟩
def numV (n : Int) : Val := ⟨2, n, ⟨#[]⟩⟩
def textV (s : ByteArray) : Val := ⟨3, 0, s⟩

/-- Is it within the numbers? -/
abbrev inR (n : Int) : Prop := -9223372036854775808 ≤ n ∧ n ≤ 9223372036854775807

/-- The answer, an error beside it. -/
structure Ans where
  v : Val
  e : Int

def Ans.out (x : Ans) : Value := .tuple #[x.v.v, .int .i64 x.e]

def over (n : Int) : Ans := if inR n then ⟨numV n, 0⟩ else ⟨nullV, 40⟩

def sumV (op a b : Int) : Ans :=
  if op = 11 then over (a + b) else if op = 12 then over (a - b) else if op = 13 then over (a * b) else
  if b = 0 then ⟨nullV, 41⟩ else if op = 15 then ⟨numV (a.tmod b), 0⟩ else over (a.tdiv b)

def eqv (k n : Int) (s : ByteArray) (k2 n2 : Int) (s2 : ByteArray) : Bool := k == k2 && (n == n2 && s.data.toList == s2.data.toList)
def Val.eqb (a b : Val) : Bool := eqv a.k a.n a.s b.k b.n b.s

def nullOrV (k : Int) (v : Val) : Bool := v.k == 0 || v.k == k
def fitV (op : Int) (a b : Val) : Bool :=
  if op ≤ 4 then nullOrV 1 a && nullOrV 1 b else if op ≤ 10 then nullOrV b.k a || b.k == 0 else if op = 16 then nullOrV 3 a && nullOrV 3 b else nullOrV 2 a && nullOrV 2 b

def andV (a b : Val) : Val := if a.eqb (truthV false) || b.eqb (truthV false) then truthV false else if a.k = 0 ∨ b.k = 0 then nullV else truthV true
def orV (a b : Val) : Val := if a.eqb (truthV true) || b.eqb (truthV true) then truthV true else if a.k = 0 ∨ b.k = 0 then nullV else truthV false

def holdsV (op c : Int) : Bool :=
  if op = 5 then c == 0 else if op = 6 then c != 0 else if op = 7 then decide (c < 0) else if op = 8 then decide (c ≤ 0) else if op = 9 then decide (0 < c) else decide (0 ≤ c)

def joinV (s t : ByteArray) : Ans := if 2048 < s.size + t.size then ⟨nullV, 8⟩ else ⟨textV (s ++ t), 0⟩

def binV (op : Int) (a b : Val) : Ans :=
  if op < 3 ∨ 16 < op then ⟨nullV, 5⟩ else if fitV op a b = false then ⟨nullV, 35⟩ else
  if op = 4 then ⟨andV a b, 0⟩ else if op = 3 then ⟨orV a b, 0⟩ else if a.k = 0 ∨ b.k = 0 then ⟨nullV, 0⟩ else
  if op ≤ 10 then ⟨truthV (holdsV op (cmpV a b)), 0⟩ else if op = 16 then joinV a.s b.s else sumV op a.n b.n

def unV (op : Int) (a : Val) : Ans :=
  if op ≠ 1 ∧ op ≠ 2 then ⟨nullV, 5⟩ else if a.k = 0 then ⟨nullV, 0⟩ else
  if op = 2 then (if a.k = 1 then ⟨truthV (!a.eqb (truthV true)), 0⟩ else ⟨nullV, 35⟩) else if a.k = 2 then over (0 - a.n) else ⟨nullV, 35⟩

end Go.Proofs.YtblkhlhhlalbkaaGreatDoor
