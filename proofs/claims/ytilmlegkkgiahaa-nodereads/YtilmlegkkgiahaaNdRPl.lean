/- What the document's reader of nodes reads, as plain functions. No conditions. -/
import Derived.Test.YtilmlegkkgiahaaNdRTake
import Derived.Test.YtilmlegkkgiahaaNdRCell
namespace Go.Proofs.Ytilmlegkkgiahaa
open Go.RowKit Go.Lib
set_option linter.unusedVariables false
set_option maxRecDepth 20000

def cellD (s : List UInt8 × Bool) : Cl × (List UInt8 × Bool) :=
  if 64 < (twoD (keyD s).2).1 then (⟨(keyD s).1, [], ((twoD (twoD (keyD s).2).2).1 : Int), ((twoD (keyD s).2).1 : Int)⟩, (twoD (twoD (keyD s).2).2).2)
  else (⟨(keyD s).1, (tkD (twoD (keyD s).2).1 (twoD (keyD s).2).2).1, 0, ((twoD (keyD s).2).1 : Int)⟩, (tkD (twoD (keyD s).2).1 (twoD (keyD s).2).2).2)
def cellsD : Nat → (List UInt8 × Bool) → List Cl × (List UInt8 × Bool)
  | 0, s => ([], s)
  | n + 1, s => if s.2 = true then ((cellD s).1 :: (cellsD n (cellD s).2).1, (cellsD n (cellD s).2).2) else ([], s)
def kidsD : Nat → (List UInt8 × Bool) → (List (List UInt8) × List Int) × (List UInt8 × Bool)
  | 0, s => (([], []), s)
  | n + 1, s => if s.2 = true then (((keyD s).1 :: (kidsD n (twoD (keyD s).2).2).1.1, ((twoD (keyD s).2).1 : Int) :: (kidsD n (twoD (keyD s).2).2).1.2), (kidsD n (twoD (keyD s).2).2).2) else (([], []), s)
def nodeD (s : List UInt8 × Bool) : Nd × (List UInt8 × Bool) :=
  if leN (tkD 1 s).1 = 1 then (⟨true, (cellsD (twoD (tkD 1 s).2).1 (twoD (tkD 1 s).2).2).1, [], []⟩, (cellsD (twoD (tkD 1 s).2).1 (twoD (tkD 1 s).2).2).2)
  else (⟨false, [], (kidsD (twoD (tkD 1 s).2).1 (twoD (twoD (tkD 1 s).2).2).2).1.1, ((twoD (twoD (tkD 1 s).2).2).1 : Int) :: (kidsD (twoD (tkD 1 s).2).1 (twoD (twoD (tkD 1 s).2).2).2).1.2⟩, (kidsD (twoD (tkD 1 s).2).1 (twoD (twoD (tkD 1 s).2).2).2).2)
theorem cellsD_stop {n : Nat} {s : List UInt8 × Bool} (h : s.2 = false) : cellsD n s = ([], s) := by
  cases n with
  | zero => rfl
  | succ n => exact if_neg (by rw [h]; decide)
theorem cellsD_go {n : Nat} {s : List UInt8 × Bool} (h : s.2 = true) : cellsD (n + 1) s = ((cellD s).1 :: (cellsD n (cellD s).2).1, (cellsD n (cellD s).2).2) := if_pos h
theorem kidsD_stop {n : Nat} {s : List UInt8 × Bool} (h : s.2 = false) : kidsD n s = (([], []), s) := by
  cases n with
  | zero => rfl
  | succ n => exact if_neg (by rw [h]; decide)
theorem kidsD_go {n : Nat} {s : List UInt8 × Bool} (h : s.2 = true) : kidsD (n + 1) s = (((keyD s).1 :: (kidsD n (twoD (keyD s).2).2).1.1, ((twoD (keyD s).2).1 : Int) :: (kidsD n (twoD (keyD s).2).2).1.2), (kidsD n (twoD (keyD s).2).2).2) := if_pos h
theorem bind_get {α β : Type} {x : Option α} {f : α → Option β} {y : β} (h : x.bind f = some y) : ∃ a, x = some a ∧ f a = some y := by
  cases x with
  | none => cases h
  | some a => exact ⟨a, rfl, h⟩
theorem map_get {α β : Type} {x : Option α} {f : α → β} {y : β} (h : x.map f = some y) : ∃ a, x = some a ∧ f a = y := by
  cases x with
  | none => cases h
  | some a => exact ⟨a, rfl, by simpa using h⟩
theorem cellD_ok {l r : List UInt8} {c : Cl} (h : pCell l = some (c, r)) : cellD (l, true) = (c, (r, true)) := by
  unfold pCell at h
  obtain ⟨⟨k, r1⟩, h1, h⟩ := bind_get h
  obtain ⟨⟨z, r2⟩, h2, h⟩ := bind_get h
  unfold cellD
  rw [keyD_ok h1]
  simp only
  rw [twoD_ok h2]
  simp only at h ⊢
  split at h
  · rename_i hz
    obtain ⟨⟨o, r3⟩, h3, h⟩ := map_get h
    rw [if_pos hz, twoD_ok h3]
    simp only [Prod.mk.injEq] at h ⊢
    exact ⟨h.1, h.2, trivial⟩
  · rename_i hz
    obtain ⟨⟨v, r3⟩, h3, h⟩ := map_get h
    rw [if_neg hz, tkD_ok h3]
    simp only [Prod.mk.injEq] at h ⊢
    exact ⟨h.1, h.2, trivial⟩
theorem cellsD_ok : ∀ {n : Nat} {l r : List UInt8} {c : List Cl}, pCells n l = some (c, r) → cellsD n (l, true) = (c, (r, true))
  | 0, l, r, c, h => by
    simp only [pCells, Option.some.injEq, Prod.mk.injEq] at h
    obtain ⟨rfl, rfl⟩ := h
    rfl
  | n + 1, l, r, c, h => by
    unfold pCells at h
    obtain ⟨⟨c1, r1⟩, h1, h⟩ := bind_get h
    obtain ⟨⟨cs, r2⟩, h2, h⟩ := map_get h
    rw [cellsD_go rfl, cellD_ok h1]
    simp only at h ⊢
    rw [cellsD_ok h2]
    simp only [Prod.mk.injEq] at h ⊢
    exact ⟨h.1, h.2, trivial⟩
theorem kidsD_ok : ∀ {n : Nat} {l r : List UInt8} {c : List (List UInt8) × List Int}, pKids n l = some (c, r) → kidsD n (l, true) = (c, (r, true))
  | 0, l, r, c, h => by
    simp only [pKids, Option.some.injEq, Prod.mk.injEq] at h
    obtain ⟨rfl, rfl⟩ := h
    rfl
  | n + 1, l, r, c, h => by
    unfold pKids at h
    obtain ⟨⟨k, r1⟩, h1, h⟩ := bind_get h
    obtain ⟨⟨d, r2⟩, h2, h⟩ := bind_get h
    obtain ⟨⟨cs, r3⟩, h3, h⟩ := map_get h
    rw [kidsD_go rfl, keyD_ok h1]
    simp only at h ⊢
    rw [twoD_ok h2]
    simp only at h ⊢
    rw [kidsD_ok h3]
    simp only [Prod.mk.injEq] at h ⊢
    exact ⟨h.1, h.2, trivial⟩
theorem nodeD_ok {l r : List UInt8} {n : Nd} (h : parse l = some (n, r)) : nodeD (l, true) = (n, (r, true)) := by
  unfold parse at h
  obtain ⟨⟨t, r1⟩, h1, h⟩ := bind_get h
  obtain ⟨⟨k, r2⟩, h2, h⟩ := bind_get h
  rw [← pN_one] at h1
  unfold pN at h1
  obtain ⟨⟨a, r1'⟩, ht, h1⟩ := map_get h1
  simp only [Prod.mk.injEq] at h1
  obtain ⟨rfl, rfl⟩ := h1
  unfold nodeD
  rw [tkD_ok ht]
  simp only at h h2 ⊢
  rw [twoD_ok h2]
  simp only
  split at h
  · rename_i hz
    obtain ⟨⟨c, r3⟩, h3, h⟩ := map_get h
    rw [if_pos hz, cellsD_ok h3]
    simp only [Prod.mk.injEq] at h ⊢
    exact ⟨h.1, h.2, trivial⟩
  · rename_i hz
    obtain ⟨⟨d, r3⟩, h3, h⟩ := bind_get h
    obtain ⟨⟨c, r4⟩, h4, h⟩ := map_get h
    rw [if_neg hz, twoD_ok h3]
    simp only at h h4 ⊢
    rw [kidsD_ok h4]
    simp only [Prod.mk.injEq] at h ⊢
    exact ⟨h.1, h.2, trivial⟩
end Go.Proofs.Ytilmlegkkgiahaa
