/- What calc.total, difference, quotient and product answer: the number, if it is within the numbers; else they throw ErrOverflow. Conditions: the two numbers are within the numbers; the divisor isn't 0. -/
import Derived.Test.YtfcecblppdgcbaaChecked
import Derived.Test.YtfcecblppdgcbaaCalcPlain
import Derived.WalkKit
import Derived.Handy
import Derived.WalkSmall
namespace Go.Proofs.Ytfcecblppdgcbaa
open Go.RowKit Go.Lib
set_option linter.unusedVariables false
set_option maxRecDepth 20000

/-- What is thrown. -/
def thrown : List PanicEntry := [{ v := .iface 24 (.int .i64 40), recovered := false }]
def endN (n : Int) : Ending := if inR n then .returned (.int .i64 n) else .panicked thrown

theorem endN_in {n : Int} (h : inR n) : endN n = .returned (.int .i64 n) := if_pos h
theorem endN_out {n : Int} (h : ¬ inR n) : endN n = .panicked thrown := if_neg h

theorem wrap_in {n : Int} (h : inR n) : wrap64 n = n := IntWalk.wrap64_in n h
theorem wrap_over {n : Int} (h : 9223372036854775807 < n) (h2 : n ≤ 27670116110564327423) : wrap64 n = n - 18446744073709551616 := by unfold wrap64; omega
theorem wrap_under {n : Int} (h : n < -9223372036854775808) (h2 : -27670116110564327424 ≤ n) : wrap64 n = n + 18446744073709551616 := by unfold wrap64; omega

theorem total_any (a b : Int) (w : World) (ha : inR a) (hb : inR b) :
    Calls Try.prog 73 #[.int .i64 a, .int .i64 b] w fun e w' => e = endN (a + b) ∧ w' = w := by
  obtain ⟨a1, a2⟩ := ha
  obtain ⟨b1, b2⟩ := hb
  by_cases h : inR (a + b)
  · rw [endN_in h]
    obtain ⟨h1, h2⟩ := h
    by_cases hp : 0 < b
    · have d : decide (a < a + b) = true := decide_eq_true (by omega)
      go_enter Try.func73, Try.ntmps73
      go_wp2
      go_ret
      exact ⟨rfl, rfl⟩
    · have d : decide (a < a + b) = false := decide_eq_false (by omega)
      go_enter Try.func73, Try.ntmps73
      go_wp2
      go_ret
      exact ⟨rfl, rfl⟩
  · rw [endN_out h]
    unfold inR at h
    by_cases hp : 0 < b
    · have d : decide (a < wrap64 (a + b)) = false := decide_eq_false (by rw [wrap_over (by omega) (by omega)]; omega)
      clear h
      go_enter Try.func73, Try.ntmps73
      go_wp2
      exact ⟨rfl, rfl, rfl⟩
    · have d : decide (a < wrap64 (a + b)) = true := decide_eq_true (by rw [wrap_under (by omega) (by omega)]; omega)
      clear h
      go_enter Try.func73, Try.ntmps73
      go_wp2
      exact ⟨rfl, rfl, rfl⟩

theorem difference_any (a b : Int) (w : World) (ha : inR a) (hb : inR b) :
    Calls Try.prog 74 #[.int .i64 a, .int .i64 b] w fun e w' => e = endN (a - b) ∧ w' = w := by
  obtain ⟨a1, a2⟩ := ha
  obtain ⟨b1, b2⟩ := hb
  by_cases h : inR (a - b)
  · rw [endN_in h]
    obtain ⟨h1, h2⟩ := h
    by_cases hp : 0 < b
    · have d : decide (a - b < a) = true := decide_eq_true (by omega)
      go_enter Try.func74, Try.ntmps74
      go_wp2
      go_ret
      exact ⟨rfl, rfl⟩
    · have d : decide (a - b < a) = false := decide_eq_false (by omega)
      go_enter Try.func74, Try.ntmps74
      go_wp2
      go_ret
      exact ⟨rfl, rfl⟩
  · rw [endN_out h]
    unfold inR at h
    by_cases hp : 0 < b
    · have d : decide (wrap64 (a - b) < a) = false := decide_eq_false (by rw [wrap_under (by omega) (by omega)]; omega)
      clear h
      go_enter Try.func74, Try.ntmps74
      go_wp2
      exact ⟨rfl, rfl, rfl⟩
    · have d : decide (wrap64 (a - b) < a) = true := decide_eq_true (by rw [wrap_over (by omega) (by omega)]; omega)
      clear h
      go_enter Try.func74, Try.ntmps74
      go_wp2
      exact ⟨rfl, rfl, rfl⟩

theorem tdiv_in {a b : Int} (ha : inR a) (hb : b ≠ 0) (h : ¬ (a = -9223372036854775808 ∧ b = -1)) : inR (a.tdiv b) := by
  unfold inR at *
  by_cases h1 : b = 1
  · subst h1; rw [Int.tdiv_one]; exact ha
  by_cases h2 : b = -1
  · subst h2
    have : a.tdiv (-1) = -a := by rw [Int.tdiv_neg, Int.tdiv_one]
    rw [this]; omega
  have hq : (a.tdiv b).natAbs = a.natAbs / b.natAbs := Int.natAbs_tdiv a b
  have hb2 : 2 ≤ b.natAbs := by omega
  have hle : a.natAbs / b.natAbs ≤ a.natAbs / 2 := Nat.div_le_div_left hb2 (by omega)
  omega
theorem tdiv_out : ¬ inR ((-9223372036854775808 : Int).tdiv (-1)) := by decide

theorem quotient_any (a b : Int) (w : World) (ha : inR a) (hb : b ≠ 0) :
    Calls Try.prog 76 #[.int .i64 a, .int .i64 b] w fun e w' => e = endN (a.tdiv b) ∧ w' = w := by
  by_cases h : a = -9223372036854775808 ∧ b = -1
  · obtain ⟨rfl, rfl⟩ := h
    rw [endN_out tdiv_out]
    go_enter Try.func76, Try.ntmps76
    go_wp2
    exact ⟨rfl, rfl, rfl⟩
  · have hi := tdiv_in ha hb h
    rw [endN_in hi]
    have hw := wrap_in hi
    clear hi ha
    have hb0 : ¬ b = 0 := hb
    by_cases h1 : a = -9223372036854775808
    · have d1 : (b == -1) = false := beq_eq_false_iff_ne.2 (fun e => h ⟨h1, e⟩)
      have d2 : (a == -9223372036854775808) = true := beq_iff_eq.2 h1
      clear h h1
      go_enter Try.func76, Try.ntmps76
      go_wp2
      go_ret
      exact ⟨ret_int hw, rfl⟩
    · have d1 : (a == -9223372036854775808) = false := beq_eq_false_iff_ne.2 h1
      clear h h1
      go_enter Try.func76, Try.ntmps76
      go_wp2
      go_ret
      exact ⟨ret_int hw, rfl⟩

theorem wrap_bd (n : Int) : inR (wrap64 n) := by unfold inR wrap64; omega
theorem wrap_mod (n : Int) : ∃ q, wrap64 n = n + 18446744073709551616 * q := ⟨-((n + 9223372036854775808) / 18446744073709551616), by unfold wrap64; omega⟩

theorem mul_back {a b : Int} (hb : b ≠ 0) (hb1 : inR b) (h : (wrap64 (a * b)).tdiv b = a) : inR (a * b) := by
  obtain ⟨q, hq⟩ := wrap_mod (a * b)
  have h1 := Int.mul_tdiv_add_tmod (wrap64 (a * b)) b
  rw [h, Int.mul_comm b a] at h1
  have h2 : ((wrap64 (a * b)).tmod b).natAbs < b.natAbs := by
    rw [Int.natAbs_tmod]; exact Nat.mod_lt _ (by omega)
  have h3 := wrap_bd (a * b)
  unfold inR at *
  generalize a * b = m at *
  generalize (wrap64 m).tmod b = r at *
  omega
theorem mul_fore {a b : Int} (hb : b ≠ 0) (h : inR (a * b)) : (wrap64 (a * b)).tdiv b = a := by
  rw [wrap_in h, Int.mul_tdiv_cancel _ hb]

theorem product_any (a b : Int) (w : World) (ha : inR a) (hb : inR b) :
    Calls Try.prog 75 #[.int .i64 a, .int .i64 b] w fun e w' => e = endN (a * b) ∧ w' = w := by
  by_cases hb0 : b = 0
  · subst hb0
    rw [Int.mul_zero, endN_in (by decide)]
    go_enter Try.func75, Try.ntmps75
    go_wp2
    go_ret
    exact ⟨rfl, rfl⟩
  · have d0 : (b != 0) = true := bne_iff_ne.2 hb0
    by_cases h : inR (a * b)
    · have Q := fun w => quotient_any (wrap64 (a * b)) b w (wrap_bd _) hb0
      rw [mul_fore hb0 h, endN_in ha] at Q
      rw [endN_in h]
      have hw : Hid (wrap64 (a * b) = a * b) := wrap_in h
      clear h ha hb hb0
      go_enter Try.func75, Try.ntmps75
      go_wp2_with (go_at_call 76; with_reducible refine (Q _).mono ?_; rintro e w' ⟨rfl, rfl⟩)
      go_ret
      exact ⟨ret_int hw.out, rfl⟩
    · have Q := fun w => quotient_any (wrap64 (a * b)) b w (wrap_bd _) hb0
      rw [endN_out h]
      by_cases h1 : inR ((wrap64 (a * b)).tdiv b)
      · rw [endN_in h1] at Q
        have d1 : ((wrap64 (a * b)).tdiv b != a) = true := bne_iff_ne.2 (fun e => h (mul_back hb0 hb e))
        clear h ha hb hb0 h1
        go_enter Try.func75, Try.ntmps75
        go_wp2_with (go_at_call 76; with_reducible refine (Q _).mono ?_; rintro e w' ⟨rfl, rfl⟩)
        exact ⟨rfl, rfl, rfl⟩
      · rw [endN_out h1] at Q
        clear h ha hb hb0 h1
        go_enter Try.func75, Try.ntmps75
        go_wp2_with (go_at_call 76; with_reducible refine (Q _).mono ?_; rintro e w' ⟨rfl, rfl⟩)
        exact ⟨rfl, rfl, rfl⟩
end Go.Proofs.Ytfcecblppdgcbaa
