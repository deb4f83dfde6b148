/- What the document's own goes, logic, True and Unary answer. Condition (Unary): the value is right. -/
import Derived.Test.YtfcecblppdgcbaaRefSum
import Derived.Test.YtfcecblppdgcbaaCalcLogic
namespace Go.Proofs.Ytfcecblppdgcbaa
open Go.RowKit Go.Lib Go.Sort
set_option linter.unusedVariables false
set_option maxRecDepth 20000

def goesV (op k : Int) : Bool :=
  if k = 0 ∨ (5 ≤ op ∧ op ≤ 10) then true else if op = 3 ∨ op = 4 then k == 1 else if op = 16 then k == 3 else k == 2

set_option maxHeartbeats 400000 in
theorem goes_any (op k : Int) (w : World) :
    Calls Try.prog 25 #[.int .i64 op, .int .i64 k] w fun e w' => e = .returned (.bool (goesV op k)) ∧ w' = w := by
  unfold goesV
  by_cases h0 : k = 0
  · subst h0
    rw [if_pos (Or.inl rfl)]
    go_enter Try.func25, Try.ntmps25
    go_wp2
    go_returns
    exact ⟨rfl, rfl⟩
  have d0 : (k == 0) = false := beq_eq_false_iff_ne.2 h0
  by_cases h1 : 5 ≤ op ∧ op ≤ 10
  · rw [if_pos (Or.inr h1)]
    obtain ⟨h1, h2⟩ := h1
    clear h0
    go_enter Try.func25, Try.ntmps25
    go_wp2
    go_returns
    exact ⟨rfl, rfl⟩
  rw [if_neg (fun h => h.elim h0 h1)]
  clear h0
  by_cases h3 : op = 3
  · subst h3
    rw [if_pos (Or.inl rfl)]
    clear h1
    go_enter Try.func25, Try.ntmps25
    go_wp2
    go_returns
    exact ⟨rfl, rfl⟩
  by_cases h4 : op = 4
  · subst h4
    rw [if_pos (Or.inr rfl)]
    clear h1 h3
    go_enter Try.func25, Try.ntmps25
    go_wp2
    go_returns
    exact ⟨rfl, rfl⟩
  rw [if_neg (by omega)]
  have d3 : (op == 3) = false := beq_eq_false_iff_ne.2 h3
  have d4 : (op == 4) = false := beq_eq_false_iff_ne.2 h4
  by_cases h16 : op = 16
  · subst h16
    rw [if_pos rfl]
    clear h1 h3 h4
    go_enter Try.func25, Try.ntmps25
    go_wp2
    go_returns
    exact ⟨rfl, rfl⟩
  rw [if_neg h16]
  have d16 : (op == 16) = false := beq_eq_false_iff_ne.2 h16
  by_cases h5 : 5 ≤ op
  · have h10 : ¬ op ≤ 10 := fun h => h1 ⟨h5, h⟩
    clear h1 h3 h4 h16
    go_enter Try.func25, Try.ntmps25
    go_wp2
    go_returns
    exact ⟨rfl, rfl⟩
  · clear h1 h3 h4 h16
    go_enter Try.func25, Try.ntmps25
    go_wp2
    go_returns
    exact ⟨rfl, rfl⟩

set_option maxHeartbeats 1000000 in
theorem logic_4 (a b : Val) (w : World) :
    Calls Try.prog 26 #[.int .i64 4, a.v, b.v] w fun e w' => e = .returned (andV a b).v ∧ Below w.heap.size w w' := by
  obtain ⟨k1, n1, s1⟩ := a
  obtain ⟨k2, n2, s2⟩ := b
  have he := run_eqv
  cases dx : eqv k1 n1 s1 1 0 ⟨#[]⟩
  · cases dy : eqv k2 n2 s2 1 0 ⟨#[]⟩
    · by_cases h0 : k1 = 0
      · subst h0
        rw [show andV ⟨0, n1, s1⟩ ⟨k2, n2, s2⟩ = nullV by simp [andV, Val.eqb, truthV, dx, dy]]
        unfold Val.v
        go_enter Try.func26, Try.ntmps26
        go_wp2
        go_returns
        exact ⟨rfl, by go_grown⟩
      · have d0 : (k1 == 0) = false := beq_eq_false_iff_ne.2 h0
        by_cases h1 : k2 = 0
        · subst h1
          rw [show andV ⟨k1, n1, s1⟩ ⟨0, n2, s2⟩ = nullV by simp [andV, Val.eqb, truthV, dx, dy]]
          unfold Val.v
          clear h0
          go_enter Try.func26, Try.ntmps26
          go_wp2
          go_returns
          exact ⟨rfl, by go_grown⟩
        · have d1 : (k2 == 0) = false := beq_eq_false_iff_ne.2 h1
          rw [show andV ⟨k1, n1, s1⟩ ⟨k2, n2, s2⟩ = truthV true by simp [andV, Val.eqb, truthV, dx, dy, h0, h1]]
          unfold Val.v
          clear h0 h1
          go_enter Try.func26, Try.ntmps26
          go_wp2
          go_returns
          exact ⟨rfl, by go_grown⟩
    · rw [show andV ⟨k1, n1, s1⟩ ⟨k2, n2, s2⟩ = truthV false by simp [andV, Val.eqb, truthV, dx, dy]]
      unfold Val.v
      go_enter Try.func26, Try.ntmps26
      go_wp2
      go_returns
      exact ⟨rfl, by go_grown⟩
  · rw [show andV ⟨k1, n1, s1⟩ ⟨k2, n2, s2⟩ = truthV false by simp [andV, Val.eqb, truthV, dx]]
    unfold Val.v
    go_enter Try.func26, Try.ntmps26
    go_wp2
    go_returns
    exact ⟨rfl, by go_grown⟩

set_option maxHeartbeats 1000000 in
theorem logic_3 (a b : Val) (w : World) :
    Calls Try.prog 26 #[.int .i64 3, a.v, b.v] w fun e w' => e = .returned (orV a b).v ∧ Below w.heap.size w w' := by
  obtain ⟨k1, n1, s1⟩ := a
  obtain ⟨k2, n2, s2⟩ := b
  have he := run_eqv
  cases dx : eqv k1 n1 s1 1 1 ⟨#[]⟩
  · cases dy : eqv k2 n2 s2 1 1 ⟨#[]⟩
    · by_cases h0 : k1 = 0
      · subst h0
        rw [show orV ⟨0, n1, s1⟩ ⟨k2, n2, s2⟩ = nullV by simp [orV, Val.eqb, truthV, dx, dy]]
        unfold Val.v
        go_enter Try.func26, Try.ntmps26
        go_wp2
        go_returns
        exact ⟨rfl, by go_grown⟩
      · have d0 : (k1 == 0) = false := beq_eq_false_iff_ne.2 h0
        by_cases h1 : k2 = 0
        · subst h1
          rw [show orV ⟨k1, n1, s1⟩ ⟨0, n2, s2⟩ = nullV by simp [orV, Val.eqb, truthV, dx, dy]]
          unfold Val.v
          clear h0
          go_enter Try.func26, Try.ntmps26
          go_wp2
          go_returns
          exact ⟨rfl, by go_grown⟩
        · have d1 : (k2 == 0) = false := beq_eq_false_iff_ne.2 h1
          rw [show orV ⟨k1, n1, s1⟩ ⟨k2, n2, s2⟩ = truthV false by simp [orV, Val.eqb, truthV, dx, dy, h0, h1]]
          unfold Val.v
          clear h0 h1
          go_enter Try.func26, Try.ntmps26
          go_wp2
          go_returns
          exact ⟨rfl, by go_grown⟩
    · rw [show orV ⟨k1, n1, s1⟩ ⟨k2, n2, s2⟩ = truthV true by simp [orV, Val.eqb, truthV, dx, dy]]
      unfold Val.v
      go_enter Try.func26, Try.ntmps26
      go_wp2
      go_returns
      exact ⟨rfl, by go_grown⟩
  · rw [show orV ⟨k1, n1, s1⟩ ⟨k2, n2, s2⟩ = truthV true by simp [orV, Val.eqb, truthV, dx]]
    unfold Val.v
    go_enter Try.func26, Try.ntmps26
    go_wp2
    go_returns
    exact ⟨rfl, by go_grown⟩

theorem over_in {n : Int} (h : inR n) : over n = ⟨numV n, 0⟩ := if_pos h
theorem over_out {n : Int} (h : ¬ inR n) : over n = ⟨nullV, 40⟩ := if_neg h

/-- The number of a Bool that is right. -/
def boolRight (a : Val) : Prop := a.k = 1 → (a.n = 0 ∨ a.n = 1) ∧ a.s.data.toList = []

end Go.Proofs.Ytfcecblppdgcbaa
