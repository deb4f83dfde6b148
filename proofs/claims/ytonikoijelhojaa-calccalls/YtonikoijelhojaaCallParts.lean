/- What calc.Args, takes, coalesce answer. No conditions. -/
import Derived.Test.YtonikoijelhojaaCalcLogic
namespace Go.Proofs.Ytonikoijelhojaa
open Go.RowKit Go.Lib Go.Sort
set_option linter.unusedVariables false

def argsV (f : Int) : Int := if f = 1 ∨ f = 2 ∨ f = 3 ∨ f = 4 then 1 else if f = 6 then 2 else if f = 5 then 3 else 0
def takesV (f i k : Int) : Bool := if f = 1 then (k == 3 || k == 4) else if f = 2 then k == 2 else if f = 5 ∧ 0 < i then k == 2 else k == 3
/-- Does the value at a place not go there? -/
def badV (f : Int) (i : Nat) (v : Val) : Bool := v.k != 0 && !takesV f i v.k
def isNull (v : Val) : Bool := v.k == 0

theorem args_any (f : Int) (w : World) :
    Calls Try.prog 18 #[.int .i64 f] w fun e w' => e = .returned (.int .i64 (argsV f)) ∧ w' = w := by
  unfold argsV
  by_cases h1 : f = 1
  · subst h1
    rw [show (if ((1 : Int) = 1 ∨ (1 : Int) = 2 ∨ (1 : Int) = 3 ∨ (1 : Int) = 4) then 1 else if (1 : Int) = 6 then 2 else if (1 : Int) = 5 then 3 else 0 : Int) = 1 by decide]
    go_enter Try.func18, Try.ntmps18
    go_wp2
    go_ret
    exact ⟨rfl, rfl⟩
  by_cases h2 : f = 2
  · subst h2
    rw [show (if ((2 : Int) = 1 ∨ (2 : Int) = 2 ∨ (2 : Int) = 3 ∨ (2 : Int) = 4) then 1 else if (2 : Int) = 6 then 2 else if (2 : Int) = 5 then 3 else 0 : Int) = 1 by decide]
    go_enter Try.func18, Try.ntmps18
    go_wp2
    go_ret
    exact ⟨rfl, rfl⟩
  by_cases h3 : f = 3
  · subst h3
    rw [show (if ((3 : Int) = 1 ∨ (3 : Int) = 2 ∨ (3 : Int) = 3 ∨ (3 : Int) = 4) then 1 else if (3 : Int) = 6 then 2 else if (3 : Int) = 5 then 3 else 0 : Int) = 1 by decide]
    go_enter Try.func18, Try.ntmps18
    go_wp2
    go_ret
    exact ⟨rfl, rfl⟩
  by_cases h4 : f = 4
  · subst h4
    rw [show (if ((4 : Int) = 1 ∨ (4 : Int) = 2 ∨ (4 : Int) = 3 ∨ (4 : Int) = 4) then 1 else if (4 : Int) = 6 then 2 else if (4 : Int) = 5 then 3 else 0 : Int) = 1 by decide]
    go_enter Try.func18, Try.ntmps18
    go_wp2
    go_ret
    exact ⟨rfl, rfl⟩
  by_cases h6 : f = 6
  · subst h6
    rw [show (if ((6 : Int) = 1 ∨ (6 : Int) = 2 ∨ (6 : Int) = 3 ∨ (6 : Int) = 4) then 1 else if (6 : Int) = 6 then 2 else if (6 : Int) = 5 then 3 else 0 : Int) = 2 by decide]
    go_enter Try.func18, Try.ntmps18
    go_wp2
    go_ret
    exact ⟨rfl, rfl⟩
  by_cases h5 : f = 5
  · subst h5
    rw [show (if ((5 : Int) = 1 ∨ (5 : Int) = 2 ∨ (5 : Int) = 3 ∨ (5 : Int) = 4) then 1 else if (5 : Int) = 6 then 2 else if (5 : Int) = 5 then 3 else 0 : Int) = 3 by decide]
    go_enter Try.func18, Try.ntmps18
    go_wp2
    go_ret
    exact ⟨rfl, rfl⟩
  rw [if_neg (by omega), if_neg h6, if_neg h5]
  have d1 : (f == 1) = false := beq_eq_false_iff_ne.2 h1
  have d2 : (f == 2) = false := beq_eq_false_iff_ne.2 h2
  have d3 : (f == 3) = false := beq_eq_false_iff_ne.2 h3
  have d4 : (f == 4) = false := beq_eq_false_iff_ne.2 h4
  have d5 : (f == 5) = false := beq_eq_false_iff_ne.2 h5
  have d6 : (f == 6) = false := beq_eq_false_iff_ne.2 h6
  clear h1 h2 h3 h4 h5 h6
  go_enter Try.func18, Try.ntmps18
  go_wp2
  go_ret
  exact ⟨rfl, rfl⟩

theorem takes_any (f i k : Int) (w : World) :
    Calls Try.prog 46 #[.int .i64 f, .int .i64 i, .int .i64 k] w fun e w' => e = .returned (.bool (takesV f i k)) ∧ w' = w := by
  unfold takesV
  by_cases h1 : f = 1
  · subst h1
    rw [if_pos rfl]
    by_cases h3 : k = 3
    · subst h3
      go_enter Try.func46, Try.ntmps46
      go_wp2
      go_ret
      exact ⟨rfl, rfl⟩
    · have d3 : (k == 3) = false := beq_eq_false_iff_ne.2 h3
      rw [d3]
      clear h3
      go_enter Try.func46, Try.ntmps46
      go_wp2
      go_ret
      exact ⟨rfl, rfl⟩
  rw [if_neg h1]
  have d1 : (f == 1) = false := beq_eq_false_iff_ne.2 h1
  by_cases h2 : f = 2
  · subst h2
    rw [if_pos rfl]
    clear h1
    go_enter Try.func46, Try.ntmps46
    go_wp2
    go_ret
    exact ⟨rfl, rfl⟩
  rw [if_neg h2]
  have d2 : (f == 2) = false := beq_eq_false_iff_ne.2 h2
  by_cases h5 : f = 5
  · subst h5
    clear h1 h2
    by_cases hi : 0 < i
    · rw [if_pos ⟨rfl, hi⟩]
      go_enter Try.func46, Try.ntmps46
      go_wp2
      go_ret
      exact ⟨rfl, rfl⟩
    · rw [if_neg (fun h => hi h.2)]
      go_enter Try.func46, Try.ntmps46
      go_wp2
      go_ret
      exact ⟨rfl, rfl⟩
  rw [if_neg (fun h => h5 h.1)]
  have d5 : (f == 5) = false := beq_eq_false_iff_ne.2 h5
  clear h1 h2 h5
  go_enter Try.func46, Try.ntmps46
  go_wp2
  go_ret
  exact ⟨rfl, rfl⟩


def coalV (a b : Val) : Ans := if a.k = 0 then ⟨b, 0⟩ else if nullOrV a.k b then ⟨a, 0⟩ else ⟨nullV, 35⟩

set_option maxHeartbeats 400000 in
theorem coalesce_any (a b : Val) (w : World) :
    Calls Try.prog 45 #[a.v, b.v] w fun e w' => e = .returned (coalV a b).out ∧ Below w.heap.size w w' := by
  obtain ⟨k1, n1, s1⟩ := a
  obtain ⟨k2, n2, s2⟩ := b
  unfold coalV
  by_cases h0 : k1 = 0
  · rw [if_pos h0]
    subst h0
    unfold Val.v
    go_enter Try.func45, Try.ntmps45
    go_wp2
    go_returns
    exact ⟨rfl, by go_grown⟩
  · rw [if_neg h0]
    have d0 : (k1 == 0) = false := beq_eq_false_iff_ne.2 h0
    have C1 := fun w => nullOr_any k1 ⟨k2, n2, s2⟩ w
    unfold Val.v at *
    simp only [] at *
    obtain ⟨bA, bB, bR⟩ := boxes3 w k1 n1 k2 n2 0 0 s1 s2 ⟨#[]⟩ 23
    generalize nullOrV k1 ⟨k2, n2, s2⟩ = x at *
    clear h0
    cases x
    all_goals
      go_enter Try.func45, Try.ntmps45
      go_wp2_with (go_at_call 52; with_reducible refine (C1 _).mono ?_; rintro e w1 ⟨rfl, b1⟩; obtain ⟨a0, a1, a2, _⟩ := (bA.below b1).out; obtain ⟨r0, r1, r2, f0, f1, f2⟩ := (bR.below b1).out; have B1 := below_new3 b1)
      refine bodyPost_ret (by simp [results, Try.results45, go_sem, r0, r1, r2]; try rfl) rfl ?_
      exact ⟨rfl, by go_grown⟩
end Go.Proofs.Ytonikoijelhojaa
