/- Plain mathematics of sets of pages as rows of truth values; no program is named here. No conditions. -/
import Derived.Test.YtehfbdhkicdfiaaDkMem
namespace Go.Proofs.Ytehfbdhkicdfiaa
set_option linter.unusedVariables false

/-- Is it a page; is it a page that is free. -/
def hs (u : List Bool) (n : Int) : Bool := decide (2 ≤ n) && decide (n < (u.length : Int))
def fr (u : List Bool) (n : Int) : Bool := hs u n && !(u.getD n.toNat false)
theorem hs_true {u : List Bool} {n : Int} : hs u n = true ↔ 2 ≤ n ∧ n < (u.length : Int) := by simp [hs]
theorem hs_false {u : List Bool} {n : Int} : hs u n = false ↔ n < 2 ∨ (u.length : Int) ≤ n := by simp only [hs, Bool.and_eq_false_iff, decide_eq_false_iff_not]; omega
theorem fr_of {u : List Bool} {n : Nat} (h2 : 2 ≤ n) (h : n < u.length) : fr u n = !u[n] := by
  have : hs u (n : Int) = true := hs_true.2 ⟨by omega, by omega⟩
  simp [fr, this, h]
theorem fr_low {u : List Bool} {n : Nat} (h2 : n < 2) : fr u n = false := by
  have : hs u (n : Int) = false := hs_false.2 (by omega)
  simp [fr, this]
theorem fr_out {u : List Bool} {n : Int} (h : hs u n = false) : fr u n = false := by simp [fr, h]
/-- The least free page of those below a bound, from a number on. -/
def leastTo (u : List Bool) (k : Nat) : Option Nat := (List.range k).find? (fun n => fr u (n : Int))
def least (u : List Bool) : Option Nat := leastTo u u.length
def takeN (u : List Bool) : Int := match least u with | some n => (n : Int) | none => 0
def takeB (u : List Bool) : Bool := (least u).isSome
def takeU (u : List Bool) : List Bool := match least u with | some n => u.set n true | none => u
theorem leastTo_zero (u : List Bool) : leastTo u 0 = none := rfl
theorem leastTo_succ (u : List Bool) (k : Nat) : leastTo u (k + 1) = (leastTo u k).or (if fr u (k : Int) then some k else none) := by
  unfold leastTo
  rw [List.range_succ, List.find?_append]
  congr 1
  cases h : fr u (k : Int) <;> simp [h]
theorem leastTo_none {u : List Bool} : ∀ {k : Nat}, leastTo u k = none ↔ ∀ n, n < k → fr u (n : Int) = false := by
  intro k
  unfold leastTo
  simp
theorem leastTo_stays {u : List Bool} {k n : Nat} (h : leastTo u k = some n) : ∀ {m : Nat}, k ≤ m → leastTo u m = some n := by
  intro m hm
  induction m with
  | zero => obtain rfl : k = 0 := by omega
            exact h
  | succ m ih =>
    by_cases e : k = m + 1
    · rw [← e]; exact h
    · rw [leastTo_succ, ih (by omega)]; rfl
theorem least_found {u : List Bool} {k : Nat} (hk : k < u.length) (h0 : leastTo u k = none) (hf : fr u (k : Int) = true) : least u = some k := by
  have h : leastTo u (k + 1) = some k := by rw [leastTo_succ, h0, hf]; rfl
  exact leastTo_stays h hk
theorem leastTo_next {u : List Bool} {k : Nat} (h0 : leastTo u k = none) (hf : fr u (k : Int) = false) : leastTo u (k + 1) = none := by
  rw [leastTo_succ, h0, hf]; rfl
theorem least_is {u : List Bool} {n : Nat} (h : least u = some n) : 2 ≤ n ∧ n < u.length ∧ fr u (n : Int) = true ∧ ∀ j : Nat, j < n → fr u (j : Int) = false := by
  unfold least leastTo at h
  obtain ⟨h1, h2⟩ := List.find?_eq_some_iff_getElem.1 h
  obtain ⟨i, hi, he, hj⟩ := h2
  simp at he hi
  subst he
  have hp : hs u (i : Int) = true := by
    cases hh : hs u (i : Int)
    · rw [fr_out hh] at h1; cases h1
    · rfl
  have := hs_true.1 hp
  refine ⟨by omega, by omega, h1, fun j hji => ?_⟩
  have := hj j hji
  simpa using this
theorem least_none {u : List Bool} (h : least u = none) : ∀ n : Nat, fr u (n : Int) = false := by
  intro n
  by_cases hn : n < u.length
  · exact leastTo_none.1 h n hn
  · exact fr_out (hs_false.2 (by omega))
/-- How many are free. -/
def leftTo (u : List Bool) (k : Nat) : Nat := ((List.range k).filter (fun n : Nat => fr u (n : Int))).length
def left (u : List Bool) : Nat := leftTo u u.length
theorem leftTo_zero (u : List Bool) : leftTo u 0 = 0 := rfl
theorem leftTo_succ (u : List Bool) (k : Nat) : leftTo u (k + 1) = leftTo u k + (if fr u (k : Int) then 1 else 0) := by
  unfold leftTo
  rw [List.range_succ, List.filter_append, List.length_append]
  cases h : fr u (k : Int) <;> simp [h]
theorem leftTo_le (u : List Bool) : ∀ k, leftTo u k ≤ k
  | 0 => Nat.le_refl _
  | k + 1 => by
    rw [leftTo_succ]
    have := leftTo_le u k
    split <;> omega
/-- Give. -/
def giveB (u : List Bool) (n : Int) : Bool := hs u n && u.getD n.toNat false
def giveU (u : List Bool) (n : Int) : List Bool := if giveB u n then u.set n.toNat false else u
theorem giveU_len (u : List Bool) (n : Int) : (giveU u n).length = u.length := by unfold giveU; split <;> simp
theorem takeU_len (u : List Bool) : (takeU u).length = u.length := by unfold takeU; split <;> simp
/-- Only. -/
def allHs (u : List Bool) (l : List Int) : Bool := l.all (fun n => hs u n)
def markAll : List Bool → List Int → List Bool
  | v, [] => v
  | v, n :: r => markAll (v.set n.toNat true) r
theorem markAll_snoc : ∀ (l : List Int) (v : List Bool) (n : Int), markAll v (l ++ [n]) = (markAll v l).set n.toNat true
  | [], v, n => rfl
  | x :: r, v, n => markAll_snoc r _ n
theorem markAll_len : ∀ (l : List Int) (v : List Bool), (markAll v l).length = v.length
  | [], v => rfl
  | x :: r, v => by rw [markAll, markAll_len r]; simp
def onlyU (u : List Bool) (l : List Int) : List Bool := if allHs u l then markAll (List.replicate u.length false) l else u
def onlyE (u : List Bool) (l : List Int) : Int := if allHs u l then 0 else 2
theorem onlyU_len (u : List Bool) (l : List Int) : (onlyU u l).length = u.length := by unfold onlyU; split <;> simp [markAll_len]
theorem allHs_take_succ {u : List Bool} {l : List Int} {k : Nat} (h : k < l.length) : allHs u (l.take (k + 1)) = (allHs u (l.take k) && hs u l[k]) := by
  unfold allHs
  rw [List.take_succ_eq_append_getElem h, List.all_append]
  simp
theorem allHs_no {u : List Bool} {l : List Int} {k : Nat} (h : k < l.length) (hn : hs u l[k] = false) : allHs u l = false := by
  unfold allHs
  rw [List.all_eq_false]
  exact ⟨l[k], List.getElem_mem h, by rw [hn]; simp⟩
theorem allHs_at {u : List Bool} {l : List Int} (h : allHs u l = true) {k : Nat} (hk : k < l.length) : 2 ≤ l[k] ∧ l[k] < (u.length : Int) := hs_true.1 (List.all_eq_true.1 h _ (List.getElem_mem hk))
end Go.Proofs.Ytehfbdhkicdfiaa
