/- Plain mathematics of values: the order that the chapter says, as a plain function; no program is named here. No conditions. -/
import Derived.Lib.Bytealg
import Derived.Below
namespace Go.Proofs.Ytfcecblppdgcbaa
open Go.Lib (compareBytes)

/-- A value of the document: its kind, its number, its text. -/
structure Val where
  k : Int
  n : Int
  s : ByteArray

/-- Its Go value. -/
def Val.v (a : Val) : Value := .agg #[.int .i64 a.k, .int .i64 a.n, .string a.s]

def cmpI (a b : Int) : Int := if a < b then -1 else if b < a then 1 else 0

def cmpV (a b : Val) : Int :=
  if a.k < b.k then -1 else if b.k < a.k then 1 else
  if a.k = 3 ∨ a.k = 4 then compareBytes a.s.data.toList b.s.data.toList else
  if a.k = 1 ∨ a.k = 2 then cmpI a.n b.n else 0

theorem cmpI_lt {a b : Int} (h : a < b) : cmpI a b = -1 := by unfold cmpI; rw [if_pos h]
theorem cmpI_gt {a b : Int} (h : b < a) : cmpI a b = 1 := by unfold cmpI; rw [if_neg (by omega), if_pos h]
theorem cmpI_eq {a b : Int} (h : a = b) : cmpI a b = 0 := by unfold cmpI; rw [if_neg (by omega), if_neg (by omega)]

theorem ret_int {k : IntKind} {a b : Int} (h : a = b) : Ending.returned (.int k a) = .returned (.int k b) := by rw [h]
theorem ret_bool {a b : Bool} (h : a = b) : Ending.returned (.bool a) = .returned (.bool b) := by rw [h]

theorem cmpV_kind {a b : Val} (h : a.k ≠ b.k) : cmpV a b = cmpI a.k b.k := by
  unfold cmpV cmpI
  split
  · rfl
  · split
    · rfl
    · omega
theorem cmpV_num {a b : Val} (h : a.k = b.k) (h1 : a.k = 1 ∨ a.k = 2) : cmpV a b = cmpI a.n b.n := by
  unfold cmpV
  rw [if_neg (by omega), if_neg (by omega), if_neg (by omega), if_pos h1]
theorem cmpV_text {a b : Val} (h : a.k = b.k) (h1 : a.k = 3 ∨ a.k = 4) : cmpV a b = compareBytes a.s.data.toList b.s.data.toList := by
  unfold cmpV
  rw [if_neg (by omega), if_neg (by omega), if_pos h1]
theorem cmpV_none {a b : Val} (h : a.k = b.k) (h1 : a.k ≠ 1) (h2 : a.k ≠ 2) (h3 : a.k ≠ 3) (h4 : a.k ≠ 4) : cmpV a b = 0 := by
  unfold cmpV
  rw [if_neg (by omega), if_neg (by omega), if_neg (by omega), if_neg (by omega)]

/-! ### Rows of values -/

def cmpRow : List Val → List Val → List Bool → Int
  | [], [], _ => 0
  | [], _ :: _, _ => -1
  | _ :: _, [], _ => 1
  | a :: as, b :: bs, ds => if cmpV a b = 0 then cmpRow as bs ds.tail else if ds.headD false then -(cmpV a b) else cmpV a b

theorem compareBytes_bd : ∀ a b : List UInt8, -1 ≤ compareBytes a b ∧ compareBytes a b ≤ 1
  | [], [] => by decide
  | [], _ :: _ => by simp [compareBytes]
  | _ :: _, [] => by simp [compareBytes]
  | x :: a, y :: b => by
    show -1 ≤ (if x < y then -1 else if y < x then 1 else compareBytes a b : Int) ∧ (if x < y then -1 else if y < x then 1 else compareBytes a b : Int) ≤ 1
    split
    · decide
    · split
      · decide
      · exact compareBytes_bd a b
theorem cmpI_bd (a b : Int) : -1 ≤ cmpI a b ∧ cmpI a b ≤ 1 := by unfold cmpI; split <;> (try split) <;> decide
theorem cmpV_bd (a b : Val) : -1 ≤ cmpV a b ∧ cmpV a b ≤ 1 := by
  unfold cmpV
  split
  · decide
  · split
    · decide
    · split
      · exact compareBytes_bd _ _
      · split
        · exact cmpI_bd _ _
        · decide
theorem cmpRow_bd : ∀ (as bs : List Val) (ds : List Bool), -1 ≤ cmpRow as bs ds ∧ cmpRow as bs ds ≤ 1
  | [], [], _ => by simp [cmpRow]
  | [], _ :: _, _ => by simp [cmpRow]
  | _ :: _, [], _ => by simp [cmpRow]
  | a :: as, b :: bs, ds => by
    unfold cmpRow
    have := cmpV_bd a b
    split
    · exact cmpRow_bd as bs ds.tail
    · split <;> omega

/-- Where the first k places are the same: the rest decides. -/
def Upto (as bs : List Val) (ds : List Bool) (k : Nat) : Prop := cmpRow as bs ds = cmpRow (as.drop k) (bs.drop k) (ds.drop k)

theorem Upto.next {as bs : List Val} {ds : List Bool} {k : Nat} (h : Upto as bs ds k) (ha : k < as.length) (hb : k < bs.length) (h0 : cmpV as[k] bs[k] = 0) : Upto as bs ds (k + 1) := by
  unfold Upto at *
  rw [h, List.drop_eq_getElem_cons ha, List.drop_eq_getElem_cons hb]
  conv => lhs; unfold cmpRow
  rw [if_pos h0, List.tail_drop]
theorem Upto.here {as bs : List Val} {ds : List Bool} {k : Nat} (h : Upto as bs ds k) (ha : k < as.length) (hb : k < bs.length) (h0 : cmpV as[k] bs[k] ≠ 0) :
    cmpRow as bs ds = if ds.getD k false then -(cmpV as[k] bs[k]) else cmpV as[k] bs[k] := by
  unfold Upto at h
  rw [h, List.drop_eq_getElem_cons ha, List.drop_eq_getElem_cons hb]
  conv => lhs; unfold cmpRow
  rw [if_neg h0]
  have : (ds.drop k).headD false = ds.getD k false := by simp [List.headD_eq_head?_getD, List.head?_drop, List.getD_eq_getElem?_getD]
  rw [this]
theorem Upto.done {as bs : List Val} {ds : List Bool} {k : Nat} (h : Upto as bs ds k) (ha : k ≤ as.length) (hb : k ≤ bs.length) (he : ¬ (k < as.length ∧ k < bs.length)) : cmpRow as bs ds = cmpI as.length bs.length := by
  unfold Upto at h
  rw [h]
  have la : (as.drop k).length = as.length - k := List.length_drop
  have lb : (bs.drop k).length = bs.length - k := List.length_drop
  revert la lb
  cases as.drop k <;> cases bs.drop k <;> intro la lb
  · simp at la lb; exact (cmpI_eq (by omega)).symm
  · simp at la lb; exact (cmpI_lt (by omega)).symm
  · simp at la lb; exact (cmpI_gt (by omega)).symm
  · simp at la lb; omega

/-- A slice of values in memory. -/
def Row (w : World) (p : Option Addr) (vs : List Val) : Prop :=
  vs = [] ∨ ∃ b off, p = some ⟨b, off, none⟩ ∧ ∀ i (h : i < vs.length), w.cell? ⟨b, off + i * 3, none⟩ = some (.int .i64 vs[i].k) ∧ w.cell? ⟨b, off + i * 3 + 1, none⟩ = some (.int .i64 vs[i].n) ∧ w.cell? ⟨b, off + i * 3 + 2, none⟩ = some (.string vs[i].s)
/-- A slice of bools in memory. -/
def Bits (w : World) (p : Option Addr) (ds : List Bool) : Prop :=
  ds = [] ∨ ∃ b off, p = some ⟨b, off, none⟩ ∧ ∀ i (h : i < ds.length), w.cell? ⟨b, off + i, none⟩ = some (.bool ds[i])

theorem cell_lt {w : World} {a : Addr} {v : Value} (h : w.cell? a = some v) : a.block < w.heap.size := by
  rcases Nat.lt_or_ge a.block w.heap.size with h' | h'
  · exact h'
  · simp [World.cell?, Array.getElem?_eq_none h'] at h

theorem below_cell {w w' : World} {a : Addr} {v : Value} (hb : RowKit.Below w.heap.size w w') (h : w.cell? a = some v) : w'.cell? a = some v := by
  rw [hb.cell (cell_lt h)]; exact h

theorem Row.below {w w' : World} {p : Option Addr} {vs : List Val} (h : Row w p vs) (hb : RowKit.Below w.heap.size w w') : Row w' p vs := by
  rcases h with h | ⟨b, off, hp, hc⟩
  · exact Or.inl h
  · exact Or.inr ⟨b, off, hp, fun i hi => ⟨below_cell hb (hc i hi).1, below_cell hb (hc i hi).2.1, below_cell hb (hc i hi).2.2⟩⟩
theorem Bits.below {w w' : World} {p : Option Addr} {ds : List Bool} (h : Bits w p ds) (hb : RowKit.Below w.heap.size w w') : Bits w' p ds := by
  rcases h with h | ⟨b, off, hp, hc⟩
  · exact Or.inl h
  · exact Or.inr ⟨b, off, hp, fun i hi => below_cell hb (hc i hi)⟩

theorem Row.at {w : World} {p : Option Addr} {vs : List Val} (h : Row w p vs) {i : Nat} (hi : i < vs.length) : ∃ b off, p = some ⟨b, off, none⟩ ∧ w.cell? ⟨b, off + i * 3, none⟩ = some (.int .i64 vs[i].k) ∧ w.cell? ⟨b, off + i * 3 + 1, none⟩ = some (.int .i64 vs[i].n) ∧ w.cell? ⟨b, off + i * 3 + 2, none⟩ = some (.string vs[i].s) := by
  rcases h with h | ⟨b, off, hp, hc⟩
  · subst h; simp at hi
  · exact ⟨b, off, hp, hc i hi⟩
theorem Bits.at {w : World} {p : Option Addr} {ds : List Bool} (h : Bits w p ds) {i : Nat} (hi : i < ds.length) : ∃ b off, p = some ⟨b, off, none⟩ ∧ w.cell? ⟨b, off + i, none⟩ = some (.bool ds[i]) := by
  rcases h with h | ⟨b, off, hp, hc⟩
  · subst h; simp at hi
  · exact ⟨b, off, hp, hc i hi⟩

end Go.Proofs.Ytfcecblppdgcbaa
