/- What the document's own Args and takes answer. No conditions. -/
import Derived.Test.YtonikoijelhojaaCallParts
namespace Go.Proofs.Ytonikoijelhojaa
open Go.RowKit Go.Lib Go.Sort
set_option linter.unusedVariables false

theorem rargs_any (f : Int) (w : World) :
    Calls Try.prog 19 #[.int .i64 f] w fun e w' => e = .returned (.int .i64 (argsV f)) ∧ w' = w := by
  unfold argsV
  by_cases h1 : f = 1
  · subst h1
    rw [show (if ((1 : Int) = 1 ∨ (1 : Int) = 2 ∨ (1 : Int) = 3 ∨ (1 : Int) = 4) then 1 else if (1 : Int) = 6 then 2 else if (1 : Int) = 5 then 3 else 0 : Int) = 1 by decide]
    go_enter Try.func19, Try.ntmps19
    go_wp2
    go_ret
    exact ⟨rfl, rfl⟩
  by_cases h2 : f = 2
  · subst h2
    rw [show (if ((2 : Int) = 1 ∨ (2 : Int) = 2 ∨ (2 : Int) = 3 ∨ (2 : Int) = 4) then 1 else if (2 : Int) = 6 then 2 else if (2 : Int) = 5 then 3 else 0 : Int) = 1 by decide]
    go_enter Try.func19, Try.ntmps19
    go_wp2
    go_ret
    exact ⟨rfl, rfl⟩
  by_cases h3 : f = 3
  · subst h3
    rw [show (if ((3 : Int) = 1 ∨ (3 : Int) = 2 ∨ (3 : Int) = 3 ∨ (3 : Int) = 4) then 1 else if (3 : Int) = 6 then 2 else if (3 : Int) = 5 then 3 else 0 : Int) = 1 by decide]
    go_enter Try.func19, Try.ntmps19
    go_wp2
    go_ret
    exact ⟨rfl, rfl⟩
  by_cases h4 : f = 4
  · subst h4
    rw [show (if ((4 : Int) = 1 ∨ (4 : Int) = 2 ∨ (4 : Int) = 3 ∨ (4 : Int) = 4) then 1 else if (4 : Int) = 6 then 2 else if (4 : Int) = 5 then 3 else 0 : Int) = 1 by decide]
    go_enter Try.func19, Try.ntmps19
    go_wp2
    go_ret
    exact ⟨rfl, rfl⟩
  by_cases h6 : f = 6
  · subst h6
    rw [show (if ((6 : Int) = 1 ∨ (6 : Int) = 2 ∨ (6 : Int) = 3 ∨ (6 : Int) = 4) then 1 else if (6 : Int) = 6 then 2 else if (6 : Int) = 5 then 3 else 0 : Int) = 2 by decide]
    go_enter Try.func19, Try.ntmps19
    go_wp2
    go_ret
    exact ⟨rfl, rfl⟩
  by_cases h5 : f = 5
  · subst h5
    rw [show (if ((5 : Int) = 1 ∨ (5 : Int) = 2 ∨ (5 : Int) = 3 ∨ (5 : Int) = 4) then 1 else if (5 : Int) = 6 then 2 else if (5 : Int) = 5 then 3 else 0 : Int) = 3 by decide]
    go_enter Try.func19, Try.ntmps19
    go_wp2
    go_ret
    exact ⟨rfl, rfl⟩
  rw [if_neg (by omega), if_neg h6, if_neg h5]
  have d1 : (f == 1) = false := beq_eq_false_iff_ne.2 h1
  have d2 : (f == 2) = false := beq_eq_false_iff_ne.2 h2
  have d3 : (f == 3) = false := beq_eq_false_iff_ne.2 h3
  have d4 : (f == 4) = false := beq_eq_false_iff_ne.2 h4
  have d5 : (f == 5) = false := beq_eq_false_iff_ne.2 h5
  have d6 : (f == 6) = false := beq_eq_false_iff_ne.2 h6
  clear h1 h2 h3 h4 h5 h6
  go_enter Try.func19, Try.ntmps19
  go_wp2
  go_ret
  exact ⟨rfl, rfl⟩

def rtakesV (f i k : Int) : Bool := if k = 0 ∨ f = 6 then true else takesV f i k

set_option maxHeartbeats 400000 in
theorem rtakes_any (f i k : Int) (w : World) :
    Calls Try.prog 49 #[.int .i64 f, .int .i64 i, .int .i64 k] w fun e w' => e = .returned (.bool (rtakesV f i k)) ∧ w' = w := by
  unfold rtakesV
  by_cases h0 : k = 0
  · rw [if_pos (Or.inl h0)]
    subst h0
    go_enter Try.func49, Try.ntmps49
    go_wp2
    go_ret
    exact ⟨rfl, rfl⟩
  have d0 : (k == 0) = false := beq_eq_false_iff_ne.2 h0
  by_cases h6 : f = 6
  · rw [if_pos (Or.inr h6)]
    subst h6
    clear h0
    go_enter Try.func49, Try.ntmps49
    go_wp2
    go_ret
    exact ⟨rfl, rfl⟩
  have d6 : (f == 6) = false := beq_eq_false_iff_ne.2 h6
  rw [if_neg (by omega)]
  clear h0 h6
  unfold takesV
  by_cases h1 : f = 1
  · subst h1
    rw [if_pos rfl]
    clear d6
    cases h3 : (k == 3)
    all_goals
      go_enter Try.func49, Try.ntmps49
      go_wp2
      go_ret
      exact ⟨rfl, rfl⟩
  rw [if_neg h1]
  have d1 : (f == 1) = false := beq_eq_false_iff_ne.2 h1
  by_cases h2 : f = 2
  · subst h2
    rw [if_pos rfl]
    clear h1 d6
    go_enter Try.func49, Try.ntmps49
    go_wp2
    go_ret
    exact ⟨rfl, rfl⟩
  rw [if_neg h2]
  have d2 : (f == 2) = false := beq_eq_false_iff_ne.2 h2
  by_cases h5 : f = 5
  · subst h5
    clear h1 h2 d6
    by_cases hi : 0 < i
    · rw [if_pos ⟨rfl, hi⟩]
      go_enter Try.func49, Try.ntmps49
      go_wp2
      go_ret
      exact ⟨rfl, rfl⟩
    · rw [if_neg (fun h => hi h.2)]
      go_enter Try.func49, Try.ntmps49
      go_wp2
      go_ret
      exact ⟨rfl, rfl⟩
  rw [if_neg (fun h => h5 h.1)]
  have d5 : (f == 5) = false := beq_eq_false_iff_ne.2 h5
  clear h1 h2 h5
  go_enter Try.func49, Try.ntmps49
  go_wp2
  go_ret
  exact ⟨rfl, rfl⟩
end Go.Proofs.Ytonikoijelhojaa
