/- What calc.total, difference, quotient and product answer: the number, if it is within the numbers; else they throw ErrOverflow. Conditions: the two numbers are within the numbers; the divisor isn't 0. What calc.number, text, truth and sum answer. Condition: the numbers are within the numbers. What calc.exchanged answers. Conditions: the letters lie within the bytes, the text's length is Go's. What calc.caught answers: what the work answers; where it throws ErrOverflow, NULL and that error. Condition: the work throws nothing else. -/
import Derived.Test.YtblkhlhhlalbkaaGreatDoorChecked
import Derived.Test.YtblkhlhhlalbkaaGreatDoorVA
import Derived.WalkKit
import Derived.Handy
import Derived.WalkSmall
import Derived.Laws.IdiomStrings
import Derived.Defers
import Derived.Recover
import Derived.Laws.Pointers
import Derived.Laws.NewBlocks
namespace Go.Proofs.YtblkhlhhlalbkaaGreatDoor
open Go.RowKit Go.Lib
set_option linter.unusedVariables false
set_option maxRecDepth 20000

/-- What is thrown. -/
def thrown : List PanicEntry := [{ v := .iface 35 (.int .i64 40), recovered := false }]
def endN (n : Int) : Ending := if inR n then .returned (.int .i64 n) else .panicked thrown

theorem endN_in {n : Int} (h : inR n) : endN n = .returned (.int .i64 n) := if_pos h
theorem endN_out {n : Int} (h : ¬ inR n) : endN n = .panicked thrown := if_neg h

theorem wrap_in {n : Int} (h : inR n) : wrap64 n = n := IntWalk.wrap64_in n h
theorem wrap_over {n : Int} (h : 9223372036854775807 < n) (h2 : n ≤ 27670116110564327423) : wrap64 n = n - 18446744073709551616 := by unfold wrap64; omega
theorem wrap_under {n : Int} (h : n < -9223372036854775808) (h2 : -27670116110564327424 ≤ n) : wrap64 n = n + 18446744073709551616 := by unfold wrap64; omega

theorem total_any (a b : Int) (w : World) (ha : inR a) (hb : inR b) :
    Calls Tryz.prog 165 #[.int .i64 a, .int .i64 b] w fun e w' => e = endN (a + b) ∧ w' = w := by
  obtain ⟨a1, a2⟩ := ha
  obtain ⟨b1, b2⟩ := hb
  by_cases h : inR (a + b)
  · rw [endN_in h]
    obtain ⟨h1, h2⟩ := h
    by_cases hp : 0 < b
    · have d : decide (a < a + b) = true := decide_eq_true (by omega)
      go_enter Tryz.func165, Tryz.ntmps165
      go_wp2
      go_ret
      exact ⟨rfl, rfl⟩
    · have d : decide (a < a + b) = false := decide_eq_false (by omega)
      go_enter Tryz.func165, Tryz.ntmps165
      go_wp2
      go_ret
      exact ⟨rfl, rfl⟩
  · rw [endN_out h]
    unfold inR at h
    by_cases hp : 0 < b
    · have d : decide (a < wrap64 (a + b)) = false := decide_eq_false (by rw [wrap_over (by omega) (by omega)]; omega)
      clear h
      go_enter Tryz.func165, Tryz.ntmps165
      go_wp2
      exact ⟨rfl, rfl, rfl⟩
    · have d : decide (a < wrap64 (a + b)) = true := decide_eq_true (by rw [wrap_under (by omega) (by omega)]; omega)
      clear h
      go_enter Tryz.func165, Tryz.ntmps165
      go_wp2
      exact ⟨rfl, rfl, rfl⟩

theorem difference_any (a b : Int) (w : World) (ha : inR a) (hb : inR b) :
    Calls Tryz.prog 110 #[.int .i64 a, .int .i64 b] w fun e w' => e = endN (a - b) ∧ w' = w := by
  obtain ⟨a1, a2⟩ := ha
  obtain ⟨b1, b2⟩ := hb
  by_cases h : inR (a - b)
  · rw [endN_in h]
    obtain ⟨h1, h2⟩ := h
    by_cases hp : 0 < b
    · have d : decide (a - b < a) = true := decide_eq_true (by omega)
      go_enter Tryz.func110, Tryz.ntmps110
      go_wp2
      go_ret
      exact ⟨rfl, rfl⟩
    · have d : decide (a - b < a) = false := decide_eq_false (by omega)
      go_enter Tryz.func110, Tryz.ntmps110
      go_wp2
      go_ret
      exact ⟨rfl, rfl⟩
  · rw [endN_out h]
    unfold inR at h
    by_cases hp : 0 < b
    · have d : decide (wrap64 (a - b) < a) = false := decide_eq_false (by rw [wrap_under (by omega) (by omega)]; omega)
      clear h
      go_enter Tryz.func110, Tryz.ntmps110
      go_wp2
      exact ⟨rfl, rfl, rfl⟩
    · have d : decide (wrap64 (a - b) < a) = true := decide_eq_true (by rw [wrap_over (by omega) (by omega)]; omega)
      clear h
      go_enter Tryz.func110, Tryz.ntmps110
      go_wp2
      exact ⟨rfl, rfl, rfl⟩

theorem tdiv_in {a b : Int} (ha : inR a) (hb : b ≠ 0) (h : ¬ (a = -9223372036854775808 ∧ b = -1)) : inR (a.tdiv b) := by
  unfold inR at *
  by_cases h1 : b = 1
  · subst h1; rw [Int.tdiv_one]; exact ha
  by_cases h2 : b = -1
  · subst h2
    have : a.tdiv (-1) = -a := by rw [Int.tdiv_neg, Int.tdiv_one]
    rw [this]; omega
  have hq : (a.tdiv b).natAbs = a.natAbs / b.natAbs := Int.natAbs_tdiv a b
  have hb2 : 2 ≤ b.natAbs := by omega
  have hle : a.natAbs / b.natAbs ≤ a.natAbs / 2 := Nat.div_le_div_left hb2 (by omega)
  omega
theorem tdiv_out : ¬ inR ((-9223372036854775808 : Int).tdiv (-1)) := by decide

theorem quotient_any (a b : Int) (w : World) (ha : inR a) (hb : b ≠ 0) :
    Calls Tryz.prog 167 #[.int .i64 a, .int .i64 b] w fun e w' => e = endN (a.tdiv b) ∧ w' = w := by
  by_cases h : a = -9223372036854775808 ∧ b = -1
  · obtain ⟨rfl, rfl⟩ := h
    rw [endN_out tdiv_out]
    go_enter Tryz.func167, Tryz.ntmps167
    go_wp2
    exact ⟨rfl, rfl, rfl⟩
  · have hi := tdiv_in ha hb h
    rw [endN_in hi]
    have hw := wrap_in hi
    clear hi ha
    have hb0 : ¬ b = 0 := hb
    by_cases h1 : a = -9223372036854775808
    · have d1 : (b == -1) = false := beq_eq_false_iff_ne.2 (fun e => h ⟨h1, e⟩)
      have d2 : (a == -9223372036854775808) = true := beq_iff_eq.2 h1
      clear h h1
      go_enter Tryz.func167, Tryz.ntmps167
      go_wp2
      go_ret
      exact ⟨ret_int hw, rfl⟩
    · have d1 : (a == -9223372036854775808) = false := beq_eq_false_iff_ne.2 h1
      clear h h1
      go_enter Tryz.func167, Tryz.ntmps167
      go_wp2
      go_ret
      exact ⟨ret_int hw, rfl⟩

theorem wrap_bd (n : Int) : inR (wrap64 n) := by unfold inR wrap64; omega
theorem wrap_mod (n : Int) : ∃ q, wrap64 n = n + 18446744073709551616 * q := ⟨-((n + 9223372036854775808) / 18446744073709551616), by unfold wrap64; omega⟩

theorem mul_back {a b : Int} (hb : b ≠ 0) (hb1 : inR b) (h : (wrap64 (a * b)).tdiv b = a) : inR (a * b) := by
  obtain ⟨q, hq⟩ := wrap_mod (a * b)
  have h1 := Int.mul_tdiv_add_tmod (wrap64 (a * b)) b
  rw [h, Int.mul_comm b a] at h1
  have h2 : ((wrap64 (a * b)).tmod b).natAbs < b.natAbs := by
    rw [Int.natAbs_tmod]; exact Nat.mod_lt _ (by omega)
  have h3 := wrap_bd (a * b)
  unfold inR at *
  generalize a * b = m at *
  generalize (wrap64 m).tmod b = r at *
  omega
theorem mul_fore {a b : Int} (hb : b ≠ 0) (h : inR (a * b)) : (wrap64 (a * b)).tdiv b = a := by
  rw [wrap_in h, Int.mul_tdiv_cancel _ hb]

theorem product_any (a b : Int) (w : World) (ha : inR a) (hb : inR b) :
    Calls Tryz.prog 166 #[.int .i64 a, .int .i64 b] w fun e w' => e = endN (a * b) ∧ w' = w := by
  by_cases hb0 : b = 0
  · subst hb0
    rw [Int.mul_zero, endN_in (by decide)]
    go_enter Tryz.func166, Tryz.ntmps166
    go_wp2
    go_ret
    exact ⟨rfl, rfl⟩
  · have d0 : (b != 0) = true := bne_iff_ne.2 hb0
    by_cases h : inR (a * b)
    · have Q := fun w => quotient_any (wrap64 (a * b)) b w (wrap_bd _) hb0
      rw [mul_fore hb0 h, endN_in ha] at Q
      rw [endN_in h]
      have hw : Hid (wrap64 (a * b) = a * b) := wrap_in h
      clear h ha hb hb0
      go_enter Tryz.func166, Tryz.ntmps166
      go_wp2_with (go_at_call 167; with_reducible refine (Q _).mono ?_; rintro e w' ⟨rfl, rfl⟩)
      go_ret
      exact ⟨ret_int hw.out, rfl⟩
    · have Q := fun w => quotient_any (wrap64 (a * b)) b w (wrap_bd _) hb0
      rw [endN_out h]
      by_cases h1 : inR ((wrap64 (a * b)).tdiv b)
      · rw [endN_in h1] at Q
        have d1 : ((wrap64 (a * b)).tdiv b != a) = true := bne_iff_ne.2 (fun e => h (mul_back hb0 hb e))
        clear h ha hb hb0 h1
        go_enter Tryz.func166, Tryz.ntmps166
        go_wp2_with (go_at_call 167; with_reducible refine (Q _).mono ?_; rintro e w' ⟨rfl, rfl⟩)
        exact ⟨rfl, rfl, rfl⟩
      · rw [endN_out h1] at Q
        clear h ha hb hb0 h1
        go_enter Tryz.func166, Tryz.ntmps166
        go_wp2_with (go_at_call 167; with_reducible refine (Q _).mono ?_; rintro e w' ⟨rfl, rfl⟩)
        exact ⟨rfl, rfl, rfl⟩
end Go.Proofs.YtblkhlhhlalbkaaGreatDoor
namespace Go.Proofs.YtblkhlhhlalbkaaGreatDoor
open Go.RowKit Go.Lib
set_option linter.unusedVariables false
set_option maxRecDepth 20000

theorem number_any (n : Int) (w : World) :
    Calls Tryz.prog 109 #[.int .i64 n] w fun e w' => e = .returned (.agg #[.int .i64 2, .int .i64 n, .string ⟨#[]⟩]) ∧ Below w.heap.size w w' := by
  go_enter Tryz.func109, Tryz.ntmps109
  go_wp2
  go_returns
  exact ⟨rfl, by go_grown⟩
theorem kTruth_any (b : Bool) (w : World) :
    Calls Tryz.prog 105 #[.bool b] w fun e w' => e = .returned (.agg #[.int .i64 1, .int .i64 (if b then 1 else 0), .string ⟨#[]⟩]) ∧ Below w.heap.size w w' := by
  cases b
  all_goals
    go_enter Tryz.func105, Tryz.ntmps105
    go_wp2
    go_returns
    exact ⟨rfl, by go_grown⟩
theorem text_any (s : ByteArray) (w : World) :
    Calls Tryz.prog 164 #[.string s] w fun e w' => e = .returned (.agg #[.int .i64 3, .int .i64 0, .string s]) ∧ Below w.heap.size w w' := by
  go_enter Tryz.func164, Tryz.ntmps164
  go_wp2
  go_returns
  exact ⟨rfl, by go_grown⟩

/-- The ending of a piece of work: its answer, or what it threw. -/
def endA (x : Ans) (e : Ending) : Prop := e = .returned x.out ∨ (e = .panicked thrown ∧ x.v = nullV ∧ x.e = 40)

/-- A new block of three cells, behind what grew. -/
theorem cells3 {w w1 : World} {x y z : Value} {t : TypeId} (h : Below (w.alloc (.cells #[x, y, z] t)).heap.size (w.alloc (.cells #[x, y, z] t)) w1) :
    w1.cell? ⟨w.heap.size, 0, none⟩ = some x ∧ w1.cell? ⟨w.heap.size, 1, none⟩ = some y ∧ w1.cell? ⟨w.heap.size, 2, none⟩ = some z ∧
    w1.frozen? ⟨w.heap.size, 0, none⟩ = false ∧ w1.frozen? ⟨w.heap.size, 1, none⟩ = false ∧ w1.frozen? ⟨w.heap.size, 2, none⟩ = false := by
  refine ⟨below_cell h (by go_simp), below_cell h (by go_simp), below_cell h (by go_simp), ?_, ?_, ?_⟩ <;> (rw [h.frozen (by simp)]; go_simp)

theorem below_new {w w1 : World} {o : Obj} (h : Below (w.alloc o).heap.size (w.alloc o) w1) : Below w.heap.size w w1 :=
  ((Below.refl _ _).alloc (Nat.le_refl _) o).trans (h.mono (by simp))

theorem below_new2 {w w1 : World} {o o' : Obj} (h : Below ((w.alloc o).alloc o').heap.size ((w.alloc o).alloc o') w1) : Below w.heap.size w w1 :=
  (((Below.refl _ _).alloc (Nat.le_refl _) o).alloc (by simp) o').trans (h.mono (by simp; omega))

set_option maxHeartbeats 400000 in
theorem sum_add (a b : Int) (w : World) (ha : inR a) (hb : inR b) :
    Calls Tryz.prog 118 #[.int .i64 11, .int .i64 a, .int .i64 b] w fun e w' => endA (over (a + b)) e ∧ Below w.heap.size w w' := by
  have Q := fun w => total_any a b w ha hb
  by_cases h : inR (a + b)
  · rw [endN_in h] at Q
    rw [show over (a + b) = ⟨numV (a + b), 0⟩ from if_pos h]
    clear ha hb h
    generalize a + b = s at *
    go_enter Tryz.func118, Tryz.ntmps118
    go_wp2_with (first
      | (go_at_call 165; with_reducible refine (Q _).mono ?_; rintro e w' ⟨rfl, rfl⟩)
      | (go_at_call 109; with_reducible refine (number_any _ _).mono ?_; rintro e w1 ⟨rfl, b1⟩; obtain ⟨c0, c1, c2, f0, f1, f2⟩ := cells3 b1; have B1 := below_new b1))
    refine bodyPost_ret (by simp [results, Tryz.results118, go_sem, c0, c1, c2]; try rfl) rfl ?_
    exact ⟨Or.inl rfl, by go_grown⟩
  · rw [endN_out h] at Q
    rw [show over (a + b) = ⟨nullV, 40⟩ from if_neg h]
    clear ha hb h
    go_enter Tryz.func118, Tryz.ntmps118
    go_wp2_with (go_at_call 165; with_reducible refine (Q _).mono ?_; rintro e w' ⟨rfl, rfl⟩)
    exact ⟨rfl, Or.inr ⟨rfl, rfl, rfl⟩, by go_grown⟩

set_option maxHeartbeats 400000 in
theorem sum_sub (a b : Int) (w : World) (ha : inR a) (hb : inR b) :
    Calls Tryz.prog 118 #[.int .i64 12, .int .i64 a, .int .i64 b] w fun e w' => endA (over (a - b)) e ∧ Below w.heap.size w w' := by
  have Q := fun w => difference_any a b w ha hb
  by_cases h : inR (a - b)
  · rw [endN_in h] at Q
    rw [show over (a - b) = ⟨numV (a - b), 0⟩ from if_pos h]
    clear ha hb h
    generalize a - b = s at *
    go_enter Tryz.func118, Tryz.ntmps118
    go_wp2_with (first
      | (go_at_call 110; with_reducible refine (Q _).mono ?_; rintro e w' ⟨rfl, rfl⟩)
      | (go_at_call 109; with_reducible refine (number_any _ _).mono ?_; rintro e w1 ⟨rfl, b1⟩; obtain ⟨c0, c1, c2, f0, f1, f2⟩ := cells3 b1; have B1 := below_new b1))
    refine bodyPost_ret (by simp [results, Tryz.results118, go_sem, c0, c1, c2]; try rfl) rfl ?_
    exact ⟨Or.inl rfl, by go_grown⟩
  · rw [endN_out h] at Q
    rw [show over (a - b) = ⟨nullV, 40⟩ from if_neg h]
    clear ha hb h
    go_enter Tryz.func118, Tryz.ntmps118
    go_wp2_with (go_at_call 110; with_reducible refine (Q _).mono ?_; rintro e w' ⟨rfl, rfl⟩)
    exact ⟨rfl, Or.inr ⟨rfl, rfl, rfl⟩, by go_grown⟩

set_option maxHeartbeats 400000 in
theorem sum_mul (a b : Int) (w : World) (ha : inR a) (hb : inR b) :
    Calls Tryz.prog 118 #[.int .i64 13, .int .i64 a, .int .i64 b] w fun e w' => endA (over (a * b)) e ∧ Below w.heap.size w w' := by
  have Q := fun w => product_any a b w ha hb
  by_cases h : inR (a * b)
  · rw [endN_in h] at Q
    rw [show over (a * b) = ⟨numV (a * b), 0⟩ from if_pos h]
    clear ha hb h
    generalize a * b = s at *
    go_enter Tryz.func118, Tryz.ntmps118
    go_wp2_with (first
      | (go_at_call 166; with_reducible refine (Q _).mono ?_; rintro e w' ⟨rfl, rfl⟩)
      | (go_at_call 109; with_reducible refine (number_any _ _).mono ?_; rintro e w1 ⟨rfl, b1⟩; obtain ⟨c0, c1, c2, f0, f1, f2⟩ := cells3 b1; have B1 := below_new b1))
    refine bodyPost_ret (by simp [results, Tryz.results118, go_sem, c0, c1, c2]; try rfl) rfl ?_
    exact ⟨Or.inl rfl, by go_grown⟩
  · rw [endN_out h] at Q
    rw [show over (a * b) = ⟨nullV, 40⟩ from if_neg h]
    clear ha hb h
    go_enter Tryz.func118, Tryz.ntmps118
    go_wp2_with (go_at_call 166; with_reducible refine (Q _).mono ?_; rintro e w' ⟨rfl, rfl⟩)
    exact ⟨rfl, Or.inr ⟨rfl, rfl, rfl⟩, by go_grown⟩

set_option maxHeartbeats 400000 in
theorem sum_quo (a b : Int) (w : World) (ha : inR a) (hb : b ≠ 0) :
    Calls Tryz.prog 118 #[.int .i64 14, .int .i64 a, .int .i64 b] w fun e w' => endA (over (a.tdiv b)) e ∧ Below w.heap.size w w' := by
  have hb0 : (b == 0) = false := beq_eq_false_iff_ne.2 hb
  have Q := fun w => quotient_any a b w ha hb
  by_cases h : inR (a.tdiv b)
  · rw [endN_in h] at Q
    rw [show over (a.tdiv b) = ⟨numV (a.tdiv b), 0⟩ from if_pos h]
    clear ha hb h
    generalize a.tdiv b = s at *
    go_enter Tryz.func118, Tryz.ntmps118
    go_wp2_with (first
      | (go_at_call 167; with_reducible refine (Q _).mono ?_; rintro e w' ⟨rfl, rfl⟩)
      | (go_at_call 109; with_reducible refine (number_any _ _).mono ?_; rintro e w1 ⟨rfl, b1⟩; obtain ⟨c0, c1, c2, f0, f1, f2⟩ := cells3 b1; have B1 := below_new b1))
    refine bodyPost_ret (by simp [results, Tryz.results118, go_sem, c0, c1, c2]; try rfl) rfl ?_
    exact ⟨Or.inl rfl, by go_grown⟩
  · rw [endN_out h] at Q
    rw [show over (a.tdiv b) = ⟨nullV, 40⟩ from if_neg h]
    clear ha hb h
    go_enter Tryz.func118, Tryz.ntmps118
    go_wp2_with (go_at_call 167; with_reducible refine (Q _).mono ?_; rintro e w' ⟨rfl, rfl⟩)
    exact ⟨rfl, Or.inr ⟨rfl, rfl, rfl⟩, by go_grown⟩

set_option maxHeartbeats 400000 in
theorem sum_zero (op : Int) (a : Int) (w : World) (h1 : (op == 11) = false) (h2 : (op == 12) = false) (h3 : (op == 13) = false) :
    Calls Tryz.prog 118 #[.int .i64 op, .int .i64 a, .int .i64 0] w fun e w' => endA ⟨nullV, 41⟩ e ∧ Below w.heap.size w w' := by
  go_enter Tryz.func118, Tryz.ntmps118
  go_wp2
  go_returns
  exact ⟨Or.inl rfl, by go_grown⟩

theorem tmod_in {a b : Int} (ha : inR a) : inR (a.tmod b) := by
  have h : (a.tmod b).natAbs = a.natAbs % b.natAbs := Int.natAbs_tmod a b
  have h2 : a.natAbs % b.natAbs ≤ a.natAbs := Nat.mod_le _ _
  have h3 : 0 ≤ a → 0 ≤ a.tmod b := fun h => Int.tmod_nonneg b h
  have h4 : a ≤ 0 → a.tmod b ≤ 0 := fun h => by
    have := Int.tmod_nonneg b (a := -a) (by omega)
    rw [Int.neg_tmod] at this
    omega
  unfold inR at *
  omega

set_option maxHeartbeats 400000 in
theorem sum_rem (a b : Int) (w : World) (ha : inR a) (hb : b ≠ 0) :
    Calls Tryz.prog 118 #[.int .i64 15, .int .i64 a, .int .i64 b] w fun e w' => endA ⟨numV (a.tmod b), 0⟩ e ∧ Below w.heap.size w w' := by
  have hb0 : (b == 0) = false := beq_eq_false_iff_ne.2 hb
  have hb1 : ¬ b = 0 := hb
  clear ha hb
  go_enter Tryz.func118, Tryz.ntmps118
  go_wp2_with (go_at_call 109; with_reducible refine (number_any _ _).mono ?_; rintro e w1 ⟨rfl, b1⟩; obtain ⟨c0, c1, c2, f0, f1, f2⟩ := cells3 b1; have B1 := below_new b1)
  refine bodyPost_ret (by simp [results, Tryz.results118, go_sem, c0, c1, c2]; try rfl) rfl ?_
  exact ⟨Or.inl rfl, by go_grown⟩

theorem sum_any (op a b : Int) (w : World) (h1 : 11 ≤ op) (h2 : op ≤ 15) (ha : inR a) (hb : inR b) :
    Calls Tryz.prog 118 #[.int .i64 op, .int .i64 a, .int .i64 b] w fun e w' => endA (sumV op a b) e ∧ Below w.heap.size w w' := by
  have h5 : op = 11 ∨ op = 12 ∨ op = 13 ∨ op = 14 ∨ op = 15 := by omega
  rcases h5 with rfl | rfl | rfl | rfl | rfl
  · exact sum_add a b w ha hb
  · exact sum_sub a b w ha hb
  · exact sum_mul a b w ha hb
  · by_cases h0 : b = 0
    · subst h0; exact sum_zero 14 a w rfl rfl rfl
    · rw [show sumV 14 a b = over (a.tdiv b) by simp [sumV, h0]]
      exact sum_quo a b w ha h0
  · by_cases h0 : b = 0
    · subst h0; exact sum_zero 15 a w rfl rfl rfl
    · rw [show sumV 15 a b = ⟨numV (a.tmod b), 0⟩ by simp [sumV, h0]]
      exact sum_rem a b w ha h0
end Go.Proofs.YtblkhlhhlalbkaaGreatDoor
namespace Go.Proofs.YtblkhlhhlalbkaaGreatDoor
open Go.RowKit Go.Lib
set_option linter.unusedVariables false
set_option maxRecDepth 20000

def kExB (f o : Nat) (c : UInt8) : UInt8 := if f ≤ c.toNat ∧ c.toNat < f + 26 then UInt8.ofNat (c.toNat - f + o) else c
def kExV (f o : Nat) (s : ByteArray) : ByteArray := ⟨(s.data.toList.map (kExB f o)).toArray⟩
/-- The byte at a place, the first k being exchanged. -/
def mixB (f o : Nat) (k j : Nat) (c : UInt8) : UInt8 := if j < k then kExB f o c else c

/-- The bytes of a text, the first k exchanged, lie at a block's beginning. -/
def Mix (w : World) (b f o : Nat) (s : ByteArray) (k : Nat) : Prop := ∀ j (h : j < s.data.size), w.cell? ⟨b, j, none⟩ = some (.int .u8 ((mixB f o k j s.data[j]).toNat : Int)) ∧ w.frozen? ⟨b, j, none⟩ = false

theorem mix_new (w : World) (f o : Nat) (s : ByteArray) (cap : Nat) (e : TypeId) : Mix (w.alloc (.cells (bytesRow s cap) e ((bytesRow s cap).size, (bytesRow s cap).size + 1))) w.heap.size f o s 0 := by
  intro j h
  refine ⟨?_, ?_⟩
  · rw [World.cell?_alloc_mark, bytesRow_at s cap j h]; simp [mixB]
  · rw [World.frozen?_alloc_mark]
    have : j < (bytesRow s cap).size := by unfold bytesRow; rw [Array.size_append, Array.size_map]; omega
    simp; omega

theorem Mix.at {w : World} {b f o : Nat} {s : ByteArray} {k : Nat} (h : Mix w b f o s k) (hk : k < s.data.size) : w.cell? ⟨b, k, none⟩ = some (.int .u8 (s.data[k].toNat : Int)) ∧ w.frozen? ⟨b, k, none⟩ = false := by
  obtain ⟨h1, h2⟩ := h k hk
  refine ⟨?_, h2⟩
  rw [h1]; simp [mixB]

theorem Mix.keep {w : World} {b f o : Nat} {s : ByteArray} {k : Nat} (h : Mix w b f o s k) (hk : k < s.data.size) (hb : kExB f o s.data[k] = s.data[k]) : Mix w b f o s (k + 1) := by
  intro j hj
  obtain ⟨h1, h2⟩ := h j hj
  refine ⟨?_, h2⟩
  rw [h1]
  by_cases e : j = k
  · subst e; simp [mixB, hb]
  · have : (j < k + 1) = (j < k) := by simp; omega
    simp only [mixB, this]

theorem Mix.put {w : World} {b f o : Nat} {s : ByteArray} {k : Nat} (h : Mix w b f o s k) (hk : k < s.data.size) (n : Int) (hb : ((kExB f o s.data[k]).toNat : Int) = n) : Mix (w.setCell ⟨b, k, none⟩ (.int .u8 n)) b f o s (k + 1) := by
  intro j hj
  obtain ⟨h1, h2⟩ := h j hj
  obtain ⟨k1, k2⟩ := h k hk
  by_cases e : j = k
  · subst e
    refine ⟨?_, ?_⟩
    · simp [go_sem, k1, mixB, hb]
    · simp [go_sem, k2]
  · refine ⟨?_, ?_⟩
    · have : (j < k + 1) = (j < k) := by simp; omega
      simp only [mixB, this]
      simp [go_sem, h1, mixB]
    · simp [go_sem, h2]


theorem exV_of_mix {w : World} {b f o : Nat} {s : ByteArray} (h : Mix w b f o s s.data.size) (cap : Nat) :
    (convert 93 9 (.slice (some ⟨b, 0, none⟩) s.size cap)).run Tryz.prog w = .ok (.string (kExV f o s)) w := by
  have := run_convert_bytes_back (P := Tryz.prog) w 93 9 5 ⟨b, 0, none⟩ cap (s.data.toList.map (kExB f o)) (by rfl) (by rfl) (by rfl) (fun j hj => by
    have hj' : j < s.data.size := by simpa using hj
    have := (h j hj').1
    simp only [mixB, hj', if_true] at this
    rw [show (⟨b, 0, none⟩ : Addr).add j = ⟨b, j, none⟩ by unfold Addr.add; split <;> simp_all]
    simpa using this)
  rw [show (s.data.toList.map (kExB f o)).length = s.size by simp] at this
  exact this

theorem exB_in {f o : Nat} {c : UInt8} (h : f ≤ c.toNat) (h' : c.toNat < f + 26) (ho : o ≤ 200) : ((kExB f o c).toNat : Int) = (c.toNat : Int) - f + o := by
  unfold kExB
  rw [if_pos ⟨h, h'⟩]
  simp
  omega
theorem exB_out {f o : Nat} {c : UInt8} (h : ¬ (f ≤ c.toNat ∧ c.toNat < f + 26)) : kExB f o c = c := if_neg h

set_option maxHeartbeats 1000000 in
theorem exchanged_any (f o : Nat) (s : ByteArray) (w : World) (hs : s.size ≤ maxLen) (hf : f ≤ 200) (ho : o ≤ 200) :
    Calls Tryz.prog 168 #[.string s, .int .u8 (f : Int), .int .u8 (o : Int)] w fun e w' => e = .returned (.string (kExV f o s)) ∧ Below w.heap.size w w' := by
  have hc := run_bytes_of_string (P := Tryz.prog) w 9 93 5 s (by rfl) (by rfl) (by rfl)
  have hM := mix_new w.drew f o s (grownCap w s.size 0 5) 5
  have hB : Below w.heap.size w (w.drew.alloc (.cells (bytesRow s (grownCap w s.size 0 5)) 5 ((bytesRow s (grownCap w s.size 0 5)).size, (bytesRow s (grownCap w s.size 0 5)).size + 1))) := (Below.refl _ _).drew.alloc (Nat.le_refl _) _
  generalize w.drew.alloc (.cells (bytesRow s (grownCap w s.size 0 5)) 5 ((bytesRow s (grownCap w s.size 0 5)).size, (bytesRow s (grownCap w s.size 0 5)).size + 1)) = W at *
  generalize grownCap w s.size 0 5 = cap at *
  replace hM : Mix W w.heap.size f o s 0 := hM
  unfold maxLen at hs
  go_enter Tryz.func168, Tryz.ntmps168
  go_wp2
  go_loopw [14] (fun i wr => ∃ k : Nat, k ≤ s.size ∧ i = .int .i64 k ∧ Mix wr w.heap.size f o s k ∧ Below w.heap.size w wr) (fun i _ => s.size - (intOf i).toNat)
  case atStart => exact ⟨0, Nat.zero_le _, rfl, hM, hB⟩
  case round =>
    obtain ⟨k, hks, rfl, hK, hb⟩ := hrel
    clear hM hB hc
    by_cases hx : k < s.size
    · obtain ⟨c0, fz⟩ := hK.at hx
      have cl := cell_lt c0
      have kp := fun hh => hK.keep hx (exB_out hh)
      have pt := fun n hh => hK.put hx n hh
      have ei := fun h1 h2 => exB_in (f := f) (o := o) (c := s.data[k]'hx) h1 h2 ho
      have hlt : (s.data[k]'hx).toNat < 256 := UInt8.toNat_lt _
      generalize kExB f o (s.data[k]'hx) = z at *
      generalize (s.data[k]'hx).toNat = c at *
      by_cases h1 : f ≤ c
      · by_cases h2 : c < f + 26
        · have ez := ei h1 h2
          have nx : Hid (Mix (wr.setCell ⟨w.heap.size, k, none⟩ (.int .u8 ((c : Int) - f + o))) w.heap.size f o s (k + 1)) := pt _ ez
          clear kp pt ei hK
          go_wp2
          go_roundw
          case rel => exact ⟨k + 1, by omega, by go_num, nx.out, by go_grown⟩
          case measure => simp [intOf]; omega
        · have nx : Hid (Mix wr w.heap.size f o s (k + 1)) := kp (fun h => h2 h.2)
          clear kp pt ei hK
          go_wp2
          go_roundw
          case rel => exact ⟨k + 1, by omega, by go_num, nx.out, by go_grown⟩
          case measure => simp [intOf]; omega
      · have nx : Hid (Mix wr w.heap.size f o s (k + 1)) := kp (fun h => h1 h.1)
        clear kp pt ei hK
        go_wp2
        go_roundw
        case rel => exact ⟨k + 1, by omega, by go_num, nx.out, by go_grown⟩
        case measure => simp [intOf]; omega
    · obtain rfl : k = s.size := by omega
      have bk := exV_of_mix hK cap
      clear hK hx
      go_wp2
      go_ret
      exact ⟨rfl, hb⟩
end Go.Proofs.YtblkhlhhlalbkaaGreatDoor
namespace Go.Proofs.YtblkhlhhlalbkaaGreatDoor
open Go.RowKit Go.Lib
set_option linter.unusedVariables false
set_option maxRecDepth 20000

/-- The cells of the two named results. -/
def Named (w : World) (b : Nat) (v : Val) (e : Int) : Prop :=
  w.cell? ⟨b, 0, none⟩ = some (.int .i64 v.k) ∧ w.cell? ⟨b, 1, none⟩ = some (.int .i64 v.n) ∧ w.cell? ⟨b, 2, none⟩ = some (.string v.s) ∧ w.cell? ⟨b + 1, 0, none⟩ = some (.int .i64 e) ∧
  w.frozen? ⟨b, 0, none⟩ = false ∧ w.frozen? ⟨b, 1, none⟩ = false ∧ w.frozen? ⟨b, 2, none⟩ = false ∧ w.frozen? ⟨b + 1, 0, none⟩ = false

theorem kCatch_idle (p q : Addr) (w : World) :
    CallsD Tryz.prog 159 #[.pointer (some p), .pointer (some q)] .returning w fun e u' w' => e = .returned (.tuple #[]) ∧ u' = .returning ∧ w' = w := by
  refine callsD_of_wpS Tryz.func159 rfl fun c₀ cs hu => ?_
  apply wpS_seq
  apply wpS_region
  simp [wpOpsS, go_sem, recoverD, hu, Tryz.ntmps159, Exit.thenS]
  refine wpS_of_wp ?_
  change Code.wp _ _ _ { tmps := #[.pointer (some p), .pointer (some q), .nilIface, .nilIface, undef, undef, undef, undef, undef], defers := [] } w
  go_wp2
  cases c₀
  simp_all [bodyPostS, results, Tryz.results159]

theorem assert_errno (v : Value) (w : World) : (Instr.typeAssert (.iface 35 v) 20 35 false).run Tryz.prog w = .ok v w := by kernel_rfl

theorem kCatch_panicking (b : Nat) (v : Val) (e0 : Int) (w : World) (hc : Named w b v e0) :
    CallsD Tryz.prog 159 #[.pointer (some ⟨b, 0, none⟩), .pointer (some ⟨b + 1, 0, none⟩)] (.panicking thrown) w fun e u' w' =>
      e = .returned (.tuple #[]) ∧ u' = .panicking [{ v := .iface 35 (.int .i64 40), recovered := true }] ∧ Named w' b nullV 40 ∧ Below b w w' := by
  obtain ⟨c0, c1, c2, c3, f0, f1, f2, f3⟩ := hc
  refine callsD_of_wpS Tryz.func159 rfl fun c₀ cs hu => ?_
  apply wpS_seq
  apply wpS_region
  unfold thrown at hu
  simp [wpOpsS, go_sem, recoverD, hu, Tryz.ntmps159, Exit.thenS]
  refine wpS_of_wp ?_
  change Code.wp _ _ _ { tmps := #[.pointer (some ⟨b, 0, none⟩), .pointer (some ⟨b + 1, 0, none⟩), .iface 35 (.int .i64 40), .iface 35 (.int .i64 40), undef, undef, undef, undef, undef], defers := [] } w
  have hta := assert_errno
  go_wp2
  go_region
  all_goals
    show bodyPostS _ _ _ _ _ Exit.normal _ _ _
    simp [bodyPostS, results, Tryz.results159]
    refine ⟨?_, by go_grown⟩
    unfold Named nullV
    refine ⟨?_, ?_, ?_, ?_, ?_, ?_, ?_, ?_⟩ <;> simp [go_sem, c0, c1, c2, c3, f0, f1, f2, f3]

theorem named_new {w w1 : World} {t t' : TypeId} (h : Below ((w.alloc (.cells #[.int .i64 0, .int .i64 0, .string ⟨#[]⟩] t)).alloc (.cells #[.int .i64 0] t')).heap.size ((w.alloc (.cells #[.int .i64 0, .int .i64 0, .string ⟨#[]⟩] t)).alloc (.cells #[.int .i64 0] t')) w1) :
    Named w1 w.heap.size nullV 0 := by
  unfold Named nullV
  refine ⟨below_cell h (by go_simp), below_cell h (by go_simp), below_cell h (by go_simp), below_cell h (by go_simp), ?_, ?_, ?_, ?_⟩ <;> (rw [h.frozen (by simp; try omega)]; go_simp)

set_option maxHeartbeats 400000 in
theorem caught_any (g : FuncId) (caps : Array Value) (x : Ans) (w : World) (hg : ∀ w, (callFunc g caps).run Tryz.prog w = .ok (.enter g caps) w)
    (h : ∀ w0, Below w.heap.size w w0 → Calls Tryz.prog g caps w0 fun e w' => endA x e ∧ Below w0.heap.size w0 w') :
    Calls Tryz.prog 107 #[.func (.func g) #[] caps] w fun e w' => e = .returned x.out ∧ Below w.heap.size w w' := by
  have hmf : ∀ (fn : Fn) (first cap : Array Value) (w : World), (Instr.makeFunc fn first cap).run Tryz.prog w = .ok (.func fn first cap) w := fun _ _ _ _ => rfl
  have H : Hid (∀ w0, Below w.heap.size w w0 → Calls Tryz.prog g caps w0 fun e w' => endA x e ∧ Below w0.heap.size w0 w') := h
  clear h
  go_enter_defers Tryz.func107, Tryz.ntmps107
  go_wp2
  refine (H.out _ (by go_grown)).mono ?_
  rintro e w1 ⟨he, b1⟩
  have N := named_new b1
  have B := below_new2 b1
  obtain ⟨c0, c1, c2, c3, f0, f1, f2, f3⟩ := N
  obtain ⟨⟨k, n, s⟩, er⟩ := x
  rcases he with he | ⟨he, hv, hx⟩
  · obtain rfl : e = .returned (.tuple #[.agg #[.int .i64 k, .int .i64 n, .string s], .int .i64 er]) := he
    go_wp2
    refine leaves_cons (f := 159) (args := #[.pointer (some ⟨w.heap.size, 0, none⟩), .pointer (some ⟨w.heap.size + 1, 0, none⟩)]) (by simp) (by simp [go_sem]) ?_
    refine (kCatch_idle _ _ _).mono ?_
    rintro e u' w'' ⟨rfl, rfl, rfl⟩
    simp [Leaves, settle, results, Tryz.results107, go_sem, c0, c1, c2, c3]
    exact ⟨rfl, by go_grown⟩
  · subst he
    go_wp2
    refine leaves_cons (f := 159) (args := #[.pointer (some ⟨w.heap.size, 0, none⟩), .pointer (some ⟨w.heap.size + 1, 0, none⟩)]) (by simp) (by simp [go_sem]) ?_
    refine (kCatch_panicking w.heap.size nullV 0 _ ⟨c0, c1, c2, c3, f0, f1, f2, f3⟩).mono ?_
    rintro e u' w2 ⟨rfl, rfl, ⟨d0, d1, d2, d3, _⟩, b2⟩
    have hv' : k = 0 ∧ n = 0 ∧ s = ⟨#[]⟩ := by simpa [nullV] using hv
    obtain ⟨rfl, rfl, rfl⟩ := hv'
    obtain rfl : er = 40 := hx
    simp [Leaves, settle, results, Tryz.results107, go_sem, d0, d1, d2, d3]
    exact ⟨rfl, B.trans b2⟩
end Go.Proofs.YtblkhlhhlalbkaaGreatDoor
