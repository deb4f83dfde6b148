/- Plain mathematics: what a loop over cells or keys has looked at so far; sums that wrap. No conditions. -/
import Derived.Test.YtilmlegkkgiahaaNdPlain
import Derived.RowKit
namespace Go.Proofs.Ytilmlegkkgiahaa
set_option linter.unusedVariables false

def gTo {α : Type} (f : α → Bool) (g : α → List UInt8) (l : List α) (k : Nat) : Bool := (l.take k).all f && rises ((l.take k).map g)
theorem rises_snoc2 (a b : List UInt8) : ∀ r : List (List UInt8), rises (r ++ [a] ++ [b]) = (rises (r ++ [a]) && ltB a b)
  | [] => by simp [rises]
  | [c] => by simp [rises]
  | c :: d :: r => by
    have ih := rises_snoc2 a b (d :: r)
    simp only [List.cons_append, rises] at ih ⊢
    rw [ih, Bool.and_assoc]
theorem gTo_zero {α : Type} (f : α → Bool) (g : α → List UInt8) (l : List α) : gTo f g l 0 = true := by simp [gTo, rises]
theorem gTo_one {α : Type} {f : α → Bool} {g : α → List UInt8} {l : List α} (h : 0 < l.length) : gTo f g l 1 = f l[0] := by
  match l, h with
  | a :: r, _ => simp [gTo, rises]
theorem gTo_succ {α : Type} {f : α → Bool} {g : α → List UInt8} {l : List α} {k : Nat} (h : k + 1 < l.length) : gTo f g l (k + 2) = (gTo f g l (k + 1) && (f l[k + 1] && ltB (g l[k]) (g l[k + 1]))) := by
  unfold gTo
  rw [List.take_succ_eq_append_getElem h, List.take_succ_eq_append_getElem (show k < l.length by omega)]
  simp only [List.map_append, List.map_cons, List.map_nil, List.all_append, List.all_cons, List.all_nil, Bool.and_true, rises_snoc2]
  cases (List.take k l).all f <;> cases f l[k] <;> cases f l[k + 1] <;> cases rises (List.map g (List.take k l) ++ [g l[k]]) <;> cases ltB (g l[k]) (g l[k + 1]) <;> rfl
theorem gTo_full {α : Type} (f : α → Bool) (g : α → List UInt8) (l : List α) : gTo f g l l.length = (l.all f && rises (l.map g)) := by unfold gTo; rw [List.take_length]
theorem gTo_bad {α : Type} {f : α → Bool} {g : α → List UInt8} {l : List α} {k : Nat} (h : gTo f g l k = false) : (l.all f && rises (l.map g)) = false := by
  cases hq : (l.all f && rises (l.map g))
  · rfl
  · rw [Bool.and_eq_true] at hq
    have h1 : (l.take k).all f = true := List.all_eq_true.2 fun c hc => List.all_eq_true.1 hq.1 c (List.mem_of_mem_take hc)
    have h2 : rises ((l.take k).map g) = true := by rw [List.map_take]; exact rises_take _ k hq.2
    unfold gTo at h
    rw [h1, h2] at h
    cases h
theorem all_bad {α : Type} {f : α → Bool} {l : List α} {k : Nat} (hk : k < l.length) (h : f l[k] = false) : l.all f = false := by
  cases hq : l.all f
  · rfl
  · have := List.all_eq_true.1 hq l[k] (List.getElem_mem hk)
    rw [h] at this
    cases this
theorem all_succ {α : Type} {f : α → Bool} {l : List α} {k : Nat} (hk : k < l.length) (h0 : (l.take k).all f = true) (h : f l[k] = true) : (l.take (k + 1)).all f = true := by
  rw [List.take_succ_eq_append_getElem hk, List.all_append, h0]
  simp only [List.all_cons, List.all_nil, h, Bool.and_true]
theorem lenCells_succ {l : List Cl} {k : Nat} (h : k < l.length) : lenCells (l.take (k + 1)) = lenCells (l.take k) + l[k].len := by
  rw [List.take_succ_eq_append_getElem h, lenCells_append]
  simp [lenCells]
theorem lenKeys_succ {l : List (List UInt8)} {k : Nat} (h : k < l.length) : lenKeys (l.take (k + 1)) = lenKeys (l.take k) + (3 + l[k].length) := by
  rw [List.take_succ_eq_append_getElem h, lenKeys_append]
  simp [lenKeys]
/-- Keys of a node that is no leaf. -/
def kOk (k : List UInt8) : Bool := decide (k.length ≤ 128)
def Nd.lf (n : Nd) : Bool := !n.cells.isEmpty && (n.keys.isEmpty && (n.kids.isEmpty && (n.cells.all Cl.ok && rises (n.cells.map Cl.key))))
def Nd.inn (n : Nd) : Bool := !n.keys.isEmpty && (n.cells.isEmpty && (decide (n.kids.length = n.keys.length + 1) && ((n.keys.all kOk && rises (n.keys.map id)) && n.kids.all isPage)))
theorem Nd.fields_eq (n : Nd) : n.fields = if n.leaf then n.lf else n.inn := by
  unfold Nd.fields Nd.lf Nd.inn kOk
  rw [List.map_id, Bool.and_assoc]
theorem wrap_more (a b : Int) : RowKit.wrap64 (RowKit.wrap64 a + b) = RowKit.wrap64 (a + b) := by unfold RowKit.wrap64; omega
theorem wrap_same {a : Int} (h1 : 0 ≤ a) (h2 : a ≤ 1000000) : RowKit.wrap64 a = a := by unfold RowKit.wrap64; omega
theorem Cl.len_over {c : Cl} (h : c.over ≠ 0) : c.len = 3 + c.key.length + 2 := by unfold Cl.len; rw [if_neg h]
theorem Cl.len_in {c : Cl} (h : c.over = 0) : c.len = 3 + c.key.length + c.val.length := by unfold Cl.len; rw [if_pos h]
end Go.Proofs.Ytilmlegkkgiahaa
