/- What calc.number, text, truth and sum answer. Condition: the numbers are within the numbers. -/
import Derived.Test.YtfcecblppdgcbaaCalcArith
namespace Go.Proofs.Ytfcecblppdgcbaa
open Go.RowKit Go.Lib
set_option linter.unusedVariables false
set_option maxRecDepth 20000

theorem number_any (n : Int) (w : World) :
    Calls Try.prog 72 #[.int .i64 n] w fun e w' => e = .returned (.agg #[.int .i64 2, .int .i64 n, .string ⟨#[]⟩]) ∧ Below w.heap.size w w' := by
  go_enter Try.func72, Try.ntmps72
  go_wp2
  go_returns
  exact ⟨rfl, by go_grown⟩
theorem truth_any (b : Bool) (w : World) :
    Calls Try.prog 58 #[.bool b] w fun e w' => e = .returned (.agg #[.int .i64 1, .int .i64 (if b then 1 else 0), .string ⟨#[]⟩]) ∧ Below w.heap.size w w' := by
  cases b
  all_goals
    go_enter Try.func58, Try.ntmps58
    go_wp2
    go_returns
    exact ⟨rfl, by go_grown⟩
theorem text_any (s : ByteArray) (w : World) :
    Calls Try.prog 70 #[.string s] w fun e w' => e = .returned (.agg #[.int .i64 3, .int .i64 0, .string s]) ∧ Below w.heap.size w w' := by
  go_enter Try.func70, Try.ntmps70
  go_wp2
  go_returns
  exact ⟨rfl, by go_grown⟩

/-- The ending of a piece of work: its answer, or what it threw. -/
def endA (x : Ans) (e : Ending) : Prop := e = .returned x.out ∨ (e = .panicked thrown ∧ x.v = nullV ∧ x.e = 40)

/-- A new block of three cells, behind what grew. -/
theorem cells3 {w w1 : World} {x y z : Value} {t : TypeId} (h : Below (w.alloc (.cells #[x, y, z] t)).heap.size (w.alloc (.cells #[x, y, z] t)) w1) :
    w1.cell? ⟨w.heap.size, 0, none⟩ = some x ∧ w1.cell? ⟨w.heap.size, 1, none⟩ = some y ∧ w1.cell? ⟨w.heap.size, 2, none⟩ = some z ∧
    w1.frozen? ⟨w.heap.size, 0, none⟩ = false ∧ w1.frozen? ⟨w.heap.size, 1, none⟩ = false ∧ w1.frozen? ⟨w.heap.size, 2, none⟩ = false := by
  refine ⟨below_cell h (by go_simp), below_cell h (by go_simp), below_cell h (by go_simp), ?_, ?_, ?_⟩ <;> (rw [h.frozen (by simp)]; go_simp)

theorem below_new {w w1 : World} {o : Obj} (h : Below (w.alloc o).heap.size (w.alloc o) w1) : Below w.heap.size w w1 :=
  ((Below.refl _ _).alloc (Nat.le_refl _) o).trans (h.mono (by simp))

theorem below_new2 {w w1 : World} {o o' : Obj} (h : Below ((w.alloc o).alloc o').heap.size ((w.alloc o).alloc o') w1) : Below w.heap.size w w1 :=
  (((Below.refl _ _).alloc (Nat.le_refl _) o).alloc (by simp) o').trans (h.mono (by simp; omega))

set_option maxHeartbeats 400000 in
theorem sum_add (a b : Int) (w : World) (ha : inR a) (hb : inR b) :
    Calls Try.prog 64 #[.int .i64 11, .int .i64 a, .int .i64 b] w fun e w' => endA (over (a + b)) e ∧ Below w.heap.size w w' := by
  have Q := fun w => total_any a b w ha hb
  by_cases h : inR (a + b)
  · rw [endN_in h] at Q
    rw [show over (a + b) = ⟨numV (a + b), 0⟩ from if_pos h]
    clear ha hb h
    generalize a + b = s at *
    go_enter Try.func64, Try.ntmps64
    go_wp2_with (first
      | (go_at_call 73; with_reducible refine (Q _).mono ?_; rintro e w' ⟨rfl, rfl⟩)
      | (go_at_call 72; with_reducible refine (number_any _ _).mono ?_; rintro e w1 ⟨rfl, b1⟩; obtain ⟨c0, c1, c2, f0, f1, f2⟩ := cells3 b1; have B1 := below_new b1))
    refine bodyPost_ret (by simp [results, Try.results64, go_sem, c0, c1, c2]; try rfl) rfl ?_
    exact ⟨Or.inl rfl, by go_grown⟩
  · rw [endN_out h] at Q
    rw [show over (a + b) = ⟨nullV, 40⟩ from if_neg h]
    clear ha hb h
    go_enter Try.func64, Try.ntmps64
    go_wp2_with (go_at_call 73; with_reducible refine (Q _).mono ?_; rintro e w' ⟨rfl, rfl⟩)
    exact ⟨rfl, Or.inr ⟨rfl, rfl, rfl⟩, by go_grown⟩

set_option maxHeartbeats 400000 in
theorem sum_sub (a b : Int) (w : World) (ha : inR a) (hb : inR b) :
    Calls Try.prog 64 #[.int .i64 12, .int .i64 a, .int .i64 b] w fun e w' => endA (over (a - b)) e ∧ Below w.heap.size w w' := by
  have Q := fun w => difference_any a b w ha hb
  by_cases h : inR (a - b)
  · rw [endN_in h] at Q
    rw [show over (a - b) = ⟨numV (a - b), 0⟩ from if_pos h]
    clear ha hb h
    generalize a - b = s at *
    go_enter Try.func64, Try.ntmps64
    go_wp2_with (first
      | (go_at_call 74; with_reducible refine (Q _).mono ?_; rintro e w' ⟨rfl, rfl⟩)
      | (go_at_call 72; with_reducible refine (number_any _ _).mono ?_; rintro e w1 ⟨rfl, b1⟩; obtain ⟨c0, c1, c2, f0, f1, f2⟩ := cells3 b1; have B1 := below_new b1))
    refine bodyPost_ret (by simp [results, Try.results64, go_sem, c0, c1, c2]; try rfl) rfl ?_
    exact ⟨Or.inl rfl, by go_grown⟩
  · rw [endN_out h] at Q
    rw [show over (a - b) = ⟨nullV, 40⟩ from if_neg h]
    clear ha hb h
    go_enter Try.func64, Try.ntmps64
    go_wp2_with (go_at_call 74; with_reducible refine (Q _).mono ?_; rintro e w' ⟨rfl, rfl⟩)
    exact ⟨rfl, Or.inr ⟨rfl, rfl, rfl⟩, by go_grown⟩

set_option maxHeartbeats 400000 in
theorem sum_mul (a b : Int) (w : World) (ha : inR a) (hb : inR b) :
    Calls Try.prog 64 #[.int .i64 13, .int .i64 a, .int .i64 b] w fun e w' => endA (over (a * b)) e ∧ Below w.heap.size w w' := by
  have Q := fun w => product_any a b w ha hb
  by_cases h : inR (a * b)
  · rw [endN_in h] at Q
    rw [show over (a * b) = ⟨numV (a * b), 0⟩ from if_pos h]
    clear ha hb h
    generalize a * b = s at *
    go_enter Try.func64, Try.ntmps64
    go_wp2_with (first
      | (go_at_call 75; with_reducible refine (Q _).mono ?_; rintro e w' ⟨rfl, rfl⟩)
      | (go_at_call 72; with_reducible refine (number_any _ _).mono ?_; rintro e w1 ⟨rfl, b1⟩; obtain ⟨c0, c1, c2, f0, f1, f2⟩ := cells3 b1; have B1 := below_new b1))
    refine bodyPost_ret (by simp [results, Try.results64, go_sem, c0, c1, c2]; try rfl) rfl ?_
    exact ⟨Or.inl rfl, by go_grown⟩
  · rw [endN_out h] at Q
    rw [show over (a * b) = ⟨nullV, 40⟩ from if_neg h]
    clear ha hb h
    go_enter Try.func64, Try.ntmps64
    go_wp2_with (go_at_call 75; with_reducible refine (Q _).mono ?_; rintro e w' ⟨rfl, rfl⟩)
    exact ⟨rfl, Or.inr ⟨rfl, rfl, rfl⟩, by go_grown⟩

set_option maxHeartbeats 400000 in
theorem sum_quo (a b : Int) (w : World) (ha : inR a) (hb : b ≠ 0) :
    Calls Try.prog 64 #[.int .i64 14, .int .i64 a, .int .i64 b] w fun e w' => endA (over (a.tdiv b)) e ∧ Below w.heap.size w w' := by
  have hb0 : (b == 0) = false := beq_eq_false_iff_ne.2 hb
  have Q := fun w => quotient_any a b w ha hb
  by_cases h : inR (a.tdiv b)
  · rw [endN_in h] at Q
    rw [show over (a.tdiv b) = ⟨numV (a.tdiv b), 0⟩ from if_pos h]
    clear ha hb h
    generalize a.tdiv b = s at *
    go_enter Try.func64, Try.ntmps64
    go_wp2_with (first
      | (go_at_call 76; with_reducible refine (Q _).mono ?_; rintro e w' ⟨rfl, rfl⟩)
      | (go_at_call 72; with_reducible refine (number_any _ _).mono ?_; rintro e w1 ⟨rfl, b1⟩; obtain ⟨c0, c1, c2, f0, f1, f2⟩ := cells3 b1; have B1 := below_new b1))
    refine bodyPost_ret (by simp [results, Try.results64, go_sem, c0, c1, c2]; try rfl) rfl ?_
    exact ⟨Or.inl rfl, by go_grown⟩
  · rw [endN_out h] at Q
    rw [show over (a.tdiv b) = ⟨nullV, 40⟩ from if_neg h]
    clear ha hb h
    go_enter Try.func64, Try.ntmps64
    go_wp2_with (go_at_call 76; with_reducible refine (Q _).mono ?_; rintro e w' ⟨rfl, rfl⟩)
    exact ⟨rfl, Or.inr ⟨rfl, rfl, rfl⟩, by go_grown⟩

set_option maxHeartbeats 400000 in
theorem sum_zero (op : Int) (a : Int) (w : World) (h1 : (op == 11) = false) (h2 : (op == 12) = false) (h3 : (op == 13) = false) :
    Calls Try.prog 64 #[.int .i64 op, .int .i64 a, .int .i64 0] w fun e w' => endA ⟨nullV, 41⟩ e ∧ Below w.heap.size w w' := by
  go_enter Try.func64, Try.ntmps64
  go_wp2
  go_returns
  exact ⟨Or.inl rfl, by go_grown⟩

theorem tmod_in {a b : Int} (ha : inR a) : inR (a.tmod b) := by
  have h : (a.tmod b).natAbs = a.natAbs % b.natAbs := Int.natAbs_tmod a b
  have h2 : a.natAbs % b.natAbs ≤ a.natAbs := Nat.mod_le _ _
  have h3 : 0 ≤ a → 0 ≤ a.tmod b := fun h => Int.tmod_nonneg b h
  have h4 : a ≤ 0 → a.tmod b ≤ 0 := fun h => by
    have := Int.tmod_nonneg b (a := -a) (by omega)
    rw [Int.neg_tmod] at this
    omega
  unfold inR at *
  omega

set_option maxHeartbeats 400000 in
theorem sum_rem (a b : Int) (w : World) (ha : inR a) (hb : b ≠ 0) :
    Calls Try.prog 64 #[.int .i64 15, .int .i64 a, .int .i64 b] w fun e w' => endA ⟨numV (a.tmod b), 0⟩ e ∧ Below w.heap.size w w' := by
  have hb0 : (b == 0) = false := beq_eq_false_iff_ne.2 hb
  have hb1 : ¬ b = 0 := hb
  clear ha hb
  go_enter Try.func64, Try.ntmps64
  go_wp2_with (go_at_call 72; with_reducible refine (number_any _ _).mono ?_; rintro e w1 ⟨rfl, b1⟩; obtain ⟨c0, c1, c2, f0, f1, f2⟩ := cells3 b1; have B1 := below_new b1)
  refine bodyPost_ret (by simp [results, Try.results64, go_sem, c0, c1, c2]; try rfl) rfl ?_
  exact ⟨Or.inl rfl, by go_grown⟩

theorem sum_any (op a b : Int) (w : World) (h1 : 11 ≤ op) (h2 : op ≤ 15) (ha : inR a) (hb : inR b) :
    Calls Try.prog 64 #[.int .i64 op, .int .i64 a, .int .i64 b] w fun e w' => endA (sumV op a b) e ∧ Below w.heap.size w w' := by
  have h5 : op = 11 ∨ op = 12 ∨ op = 13 ∨ op = 14 ∨ op = 15 := by omega
  rcases h5 with rfl | rfl | rfl | rfl | rfl
  · exact sum_add a b w ha hb
  · exact sum_sub a b w ha hb
  · exact sum_mul a b w ha hb
  · by_cases h0 : b = 0
    · subst h0; exact sum_zero 14 a w rfl rfl rfl
    · rw [show sumV 14 a b = over (a.tdiv b) by simp [sumV, h0]]
      exact sum_quo a b w ha h0
  · by_cases h0 : b = 0
    · subst h0; exact sum_zero 15 a w rfl rfl rfl
    · rw [show sumV 15 a b = ⟨numV (a.tmod b), 0⟩ by simp [sumV, h0]]
      exact sum_rem a b w ha h0
end Go.Proofs.Ytfcecblppdgcbaa
