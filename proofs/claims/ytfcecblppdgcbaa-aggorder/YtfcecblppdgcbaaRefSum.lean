/- What the document's own Number, Truth, text, holds, goes, sum and times answer. Conditions: the numbers are within the numbers; a divisor isn't 0. -/
import Derived.Test.YtfcecblppdgcbaaCalcSum
import Derived.Deep.QuietTactic
import Derived.BigQuiet
import Derived.Lib.QuietBelow
namespace Go.Proofs.Ytfcecblppdgcbaa
open Go.RowKit Go.Lib Go.Sort
set_option linter.unusedVariables false
set_option maxRecDepth 20000

theorem refNumber_any (n : Int) (w : World) :
    Calls Try.prog 21 #[.int .i64 n] w fun e w' => e = .returned (.agg #[.int .i64 2, .int .i64 n, .string ⟨#[]⟩]) ∧ Below w.heap.size w w' := by
  go_enter Try.func21, Try.ntmps21
  go_wp2
  go_returns
  exact ⟨rfl, by go_grown⟩
theorem refTruth_any (b : Bool) (w : World) :
    Calls Try.prog 27 #[.bool b] w fun e w' => e = .returned (.agg #[.int .i64 1, .int .i64 (if b then 1 else 0), .string ⟨#[]⟩]) ∧ Below w.heap.size w w' := by
  cases b
  all_goals
    go_enter Try.func27, Try.ntmps27
    go_wp2
    go_returns
    exact ⟨rfl, by go_grown⟩
theorem refText_any (s : ByteArray) (w : World) :
    Calls Try.prog 29 #[.string s] w fun e w' => e = .returned (.agg #[.int .i64 3, .int .i64 0, .string s]) ∧ Below w.heap.size w w' := by
  go_enter Try.func29, Try.ntmps29
  go_wp2
  go_returns
  exact ⟨rfl, by go_grown⟩

theorem refHolds_any (op c : Int) (w : World) :
    Calls Try.prog 28 #[.int .i64 op, .int .i64 c] w fun e w' => e = .returned (.bool (holdsV op c)) ∧ w' = w := by
  unfold holdsV
  by_cases h5 : op = 5
  · subst h5; go_enter Try.func28, Try.ntmps28
    go_wp2
    go_ret
    exact ⟨rfl, rfl⟩
  by_cases h6 : op = 6
  · subst h6; go_enter Try.func28, Try.ntmps28
    go_wp2
    go_ret
    exact ⟨rfl, rfl⟩
  by_cases h7 : op = 7
  · subst h7; go_enter Try.func28, Try.ntmps28
    go_wp2
    go_ret
    exact ⟨rfl, rfl⟩
  by_cases h8 : op = 8
  · subst h8; go_enter Try.func28, Try.ntmps28
    go_wp2
    go_ret
    exact ⟨rfl, rfl⟩
  by_cases h9 : op = 9
  · subst h9; go_enter Try.func28, Try.ntmps28
    go_wp2
    go_ret
    exact ⟨rfl, rfl⟩
  rw [if_neg h5, if_neg h6, if_neg h7, if_neg h8, if_neg h9]
  have d5 : (op == 5) = false := beq_eq_false_iff_ne.2 h5
  have d6 : (op == 6) = false := beq_eq_false_iff_ne.2 h6
  have d7 : (op == 7) = false := beq_eq_false_iff_ne.2 h7
  have d8 : (op == 8) = false := beq_eq_false_iff_ne.2 h8
  have d9 : (op == 9) = false := beq_eq_false_iff_ne.2 h9
  clear h5 h6 h7 h8 h9
  go_enter Try.func28, Try.ntmps28
  go_wp2
  go_ret
  exact ⟨rfl, rfl⟩

/-- The number that an operator makes, without bounds. -/
def zV (op a b : Int) : Int := if op = 11 then a + b else if op = 12 then a - b else if op = 13 then a * b else if op = 14 then a.tdiv b else a.tmod b

theorem refSum_add (a b : Int) (w : World) (ha : inR a) (hb : inR b) :
    Calls Try.prog 30 #[.int .i64 11, .int .i64 a, .int .i64 b] w fun e w' => e = .returned (.tuple #[.int .i64 (wrap64 (a + b)), .bool (decide (inR (a + b)))]) ∧ w' = w := by
  obtain ⟨a1, a2⟩ := ha
  obtain ⟨b1, b2⟩ := hb
  by_cases h : inR (a + b)
  · rw [decide_eq_true h, wrap_in h]
    obtain ⟨h1, h2⟩ := h
    by_cases hp : 0 < b
    · have d : decide (a < a + b) = true := decide_eq_true (by omega)
      go_enter Try.func30, Try.ntmps30
      go_wp2
      go_returns
      exact ⟨rfl, rfl⟩
    · have d : decide (a < a + b) = false := decide_eq_false (by omega)
      go_enter Try.func30, Try.ntmps30
      go_wp2
      go_returns
      exact ⟨rfl, rfl⟩
  · rw [decide_eq_false h]
    unfold inR at h
    have h0 : (b == 0) = false := beq_eq_false_iff_ne.2 (by omega)
    by_cases hp : 0 < b
    · have d : decide (a < wrap64 (a + b)) = false := decide_eq_false (by rw [wrap_over (by omega) (by omega)]; omega)
      clear h
      go_enter Try.func30, Try.ntmps30
      go_wp2
      go_returns
      exact ⟨rfl, rfl⟩
    · have d : decide (a < wrap64 (a + b)) = true := decide_eq_true (by rw [wrap_under (by omega) (by omega)]; omega)
      clear h
      go_enter Try.func30, Try.ntmps30
      go_wp2
      go_returns
      exact ⟨rfl, rfl⟩

theorem refSum_sub (a b : Int) (w : World) (ha : inR a) (hb : inR b) :
    Calls Try.prog 30 #[.int .i64 12, .int .i64 a, .int .i64 b] w fun e w' => e = .returned (.tuple #[.int .i64 (wrap64 (a - b)), .bool (decide (inR (a - b)))]) ∧ w' = w := by
  obtain ⟨a1, a2⟩ := ha
  obtain ⟨b1, b2⟩ := hb
  by_cases h : inR (a - b)
  · rw [decide_eq_true h, wrap_in h]
    obtain ⟨h1, h2⟩ := h
    by_cases hp : 0 < b
    · have d : decide (a - b < a) = true := decide_eq_true (by omega)
      go_enter Try.func30, Try.ntmps30
      go_wp2
      go_returns
      exact ⟨rfl, rfl⟩
    · have d : decide (a - b < a) = false := decide_eq_false (by omega)
      go_enter Try.func30, Try.ntmps30
      go_wp2
      go_returns
      exact ⟨rfl, rfl⟩
  · rw [decide_eq_false h]
    unfold inR at h
    have h0 : (b == 0) = false := beq_eq_false_iff_ne.2 (by omega)
    by_cases hp : 0 < b
    · have d : decide (wrap64 (a - b) < a) = false := decide_eq_false (by rw [wrap_under (by omega) (by omega)]; omega)
      clear h
      go_enter Try.func30, Try.ntmps30
      go_wp2
      go_returns
      exact ⟨rfl, rfl⟩
    · have d : decide (wrap64 (a - b) < a) = true := decide_eq_true (by rw [wrap_over (by omega) (by omega)]; omega)
      clear h
      go_enter Try.func30, Try.ntmps30
      go_wp2
      go_returns
      exact ⟨rfl, rfl⟩

theorem times_zero (a b : Int) (w : World) (h : a = 0 ∨ b = 0) :
    Calls Try.prog 31 #[.int .i64 a, .int .i64 b] w fun e w' => e = .returned (.tuple #[.int .i64 0, .bool true]) ∧ w' = w := by
  by_cases ha : a = 0
  · subst ha
    clear h
    go_enter Try.func31, Try.ntmps31
    go_wp2
    go_returns
    exact ⟨rfl, rfl⟩
  · have d : (a == 0) = false := beq_eq_false_iff_ne.2 ha
    obtain rfl : b = 0 := by omega
    clear h ha
    go_enter Try.func31, Try.ntmps31
    go_wp2
    go_returns
    exact ⟨rfl, rfl⟩

theorem times_na (b : Int) (w : World) (hb0 : b ≠ 0) (hb : inR b) :
    Calls Try.prog 31 #[.int .i64 (-1), .int .i64 b] w fun e w' => e = .returned (.tuple #[.int .i64 (wrap64 (-1 * b)), .bool (decide (inR (-1 * b)))]) ∧ w' = w := by
  have d : (b == 0) = false := beq_eq_false_iff_ne.2 hb0
  have k : decide (inR (-1 * b)) = (b != -9223372036854775808) := by
    unfold inR at *
    by_cases h : b = -9223372036854775808
    · subst h; decide
    · rw [show (b != -9223372036854775808) = true from bne_iff_ne.2 h]; exact decide_eq_true (by omega)
  rw [k, show (-1 * b : Int) = -b by omega]
  clear k hb hb0
  go_enter Try.func31, Try.ntmps31
  go_wp2
  go_returns
  exact ⟨rfl, rfl⟩

theorem times_nb (a : Int) (w : World) (ha0 : a ≠ 0) (ha1 : a ≠ -1) (ha : inR a) :
    Calls Try.prog 31 #[.int .i64 a, .int .i64 (-1)] w fun e w' => e = .returned (.tuple #[.int .i64 (wrap64 (a * -1)), .bool (decide (inR (a * -1)))]) ∧ w' = w := by
  have d : (a == 0) = false := beq_eq_false_iff_ne.2 ha0
  have d1 : (a == -1) = false := beq_eq_false_iff_ne.2 ha1
  have k : decide (inR (a * -1)) = (a != -9223372036854775808) := by
    unfold inR at *
    by_cases h : a = -9223372036854775808
    · subst h; decide
    · rw [show (a != -9223372036854775808) = true from bne_iff_ne.2 h]; exact decide_eq_true (by omega)
  rw [k, show (a * -1 : Int) = -a by omega]
  clear k ha ha0 ha1
  go_enter Try.func31, Try.ntmps31
  go_wp2
  go_returns
  exact ⟨rfl, rfl⟩

theorem times_gen (a b : Int) (w : World) (ha0 : a ≠ 0) (ha1 : a ≠ -1) (hb0 : b ≠ 0) (hb1 : b ≠ -1) (ha : inR a) (hb : inR b) :
    Calls Try.prog 31 #[.int .i64 a, .int .i64 b] w fun e w' => e = .returned (.tuple #[.int .i64 (wrap64 (a * b)), .bool (decide (inR (a * b)))]) ∧ Below w.heap.size w w' := by
  have d : (a == 0) = false := beq_eq_false_iff_ne.2 ha0
  have d1 : (a == -1) = false := beq_eq_false_iff_ne.2 ha1
  have e : (b == 0) = false := beq_eq_false_iff_ne.2 hb0
  have e1 : (b == -1) = false := beq_eq_false_iff_ne.2 hb1
  have k : decide (inR (a * b)) = ((wrap64 (a * b)).tdiv b == a) := by
    by_cases h : inR (a * b)
    · rw [decide_eq_true h, mul_fore hb0 h]; simp
    · rw [decide_eq_false h]; exact (beq_eq_false_iff_ne.2 (fun e => h (mul_back hb0 hb e))).symm
  have kk : Hid (wrap64 ((wrap64 (a * b)).tdiv b) = (wrap64 (a * b)).tdiv b) := wrap_in (tdiv_in (wrap_bd _) hb0 (fun h => hb1 h.2))
  rw [k]
  have hb' : ¬ b = 0 := hb0
  clear k ha ha0 ha1 hb hb0 hb1
  go_enter Try.func31, Try.ntmps31
  go_wp2
  go_region
  all_goals
    go_wp2
    go_returns
    rw [kk.out]
    exact ⟨rfl, by go_grown⟩

theorem times_any (a b : Int) (w : World) (ha : inR a) (hb : inR b) :
    Calls Try.prog 31 #[.int .i64 a, .int .i64 b] w fun e w' => e = .returned (.tuple #[.int .i64 (wrap64 (a * b)), .bool (decide (inR (a * b)))]) ∧ Below w.heap.size w w' := by
  by_cases h0 : a = 0 ∨ b = 0
  · have hz : a * b = 0 := by rcases h0 with rfl | rfl <;> simp
    rw [hz, wrap_in (by decide), decide_eq_true (show inR 0 by decide)]
    exact (times_zero a b w h0).mono (by rintro e w' ⟨rfl, rfl⟩; exact ⟨rfl, Below.refl _ _⟩)
  · by_cases h1 : a = -1
    · subst h1
      exact (times_na b w (by omega) hb).mono (by rintro e w' ⟨rfl, rfl⟩; exact ⟨rfl, Below.refl _ _⟩)
    · by_cases h2 : b = -1
      · subst h2
        exact (times_nb a w (by omega) h1 ha).mono (by rintro e w' ⟨rfl, rfl⟩; exact ⟨rfl, Below.refl _ _⟩)
      · exact times_gen a b w (by omega) h1 (by omega) h2 ha hb

theorem refSum_mul (a b : Int) (w : World) (ha : inR a) (hb : inR b) :
    Calls Try.prog 30 #[.int .i64 13, .int .i64 a, .int .i64 b] w fun e w' => e = .returned (.tuple #[.int .i64 (wrap64 (a * b)), .bool (decide (inR (a * b)))]) ∧ Below w.heap.size w w' := by
  have Q := fun w => times_any a b w ha hb
  clear ha hb
  generalize wrap64 (a * b) = m at *
  generalize decide (inR (a * b)) = z at *
  go_enter Try.func30, Try.ntmps30
  go_wp2_with (go_at_call 31; with_reducible refine (Q _).mono ?_; rintro e w1 ⟨rfl, b1⟩)
  go_returns
  exact ⟨rfl, b1⟩

theorem refSum_quo1 (a : Int) (w : World) (ha : inR a) :
    Calls Try.prog 30 #[.int .i64 14, .int .i64 a, .int .i64 (-1)] w fun e w' => e = .returned (.tuple #[.int .i64 (wrap64 (a.tdiv (-1))), .bool (decide (inR (a.tdiv (-1))))]) ∧ w' = w := by
  have e0 : a.tdiv (-1) = -a := by rw [Int.tdiv_neg, Int.tdiv_one]
  have k : decide (inR (-a)) = (a != -9223372036854775808) := by
    unfold inR at *
    by_cases h : a = -9223372036854775808
    · subst h; decide
    · rw [show (a != -9223372036854775808) = true from bne_iff_ne.2 h]; exact decide_eq_true (by omega)
  rw [e0, k]
  clear k ha e0
  go_enter Try.func30, Try.ntmps30
  go_wp2
  go_returns
  exact ⟨rfl, rfl⟩

theorem refSum_quo (a b : Int) (w : World) (ha : inR a) (hb0 : b ≠ 0) (hb1 : b ≠ -1) :
    Calls Try.prog 30 #[.int .i64 14, .int .i64 a, .int .i64 b] w fun e w' => e = .returned (.tuple #[.int .i64 (wrap64 (a.tdiv b)), .bool (decide (inR (a.tdiv b)))]) ∧ w' = w := by
  rw [decide_eq_true (tdiv_in ha hb0 (fun h => hb1 h.2))]
  have d1 : (b == -1) = false := beq_eq_false_iff_ne.2 hb1
  have hb' : ¬ b = 0 := hb0
  clear ha hb0 hb1
  go_enter Try.func30, Try.ntmps30
  go_wp2
  go_returns
  exact ⟨rfl, rfl⟩

theorem refSum_rem1 (a : Int) (w : World) :
    Calls Try.prog 30 #[.int .i64 15, .int .i64 a, .int .i64 (-1)] w fun e w' => e = .returned (.tuple #[.int .i64 (a.tmod (-1)), .bool true]) ∧ w' = w := by
  have e0 : a.tmod (-1) = 0 := by rw [Int.tmod_neg, Int.tmod_one]
  rw [e0]
  clear e0
  go_enter Try.func30, Try.ntmps30
  go_wp2
  go_returns
  exact ⟨rfl, rfl⟩

theorem refSum_rem (a b : Int) (w : World) (hb0 : b ≠ 0) (hb1 : b ≠ -1) :
    Calls Try.prog 30 #[.int .i64 15, .int .i64 a, .int .i64 b] w fun e w' => e = .returned (.tuple #[.int .i64 (a.tmod b), .bool true]) ∧ w' = w := by
  have d1 : (b == -1) = false := beq_eq_false_iff_ne.2 hb1
  have hb' : ¬ b = 0 := hb0
  clear hb0 hb1
  go_enter Try.func30, Try.ntmps30
  go_wp2
  go_returns
  exact ⟨rfl, rfl⟩

theorem refSum_any (op a b : Int) (w : World) (h1 : 11 ≤ op) (h2 : op ≤ 15) (ha : inR a) (hb : inR b) (h0 : 14 ≤ op → b ≠ 0) :
    Calls Try.prog 30 #[.int .i64 op, .int .i64 a, .int .i64 b] w fun e w' => e = .returned (.tuple #[.int .i64 (wrap64 (zV op a b)), .bool (decide (inR (zV op a b)))]) ∧ Below w.heap.size w w' := by
  have same : ∀ {f : FuncId} {args : Array Value} {v : Value}, (Calls Try.prog f args w fun e w' => e = .returned v ∧ w' = w) → Calls Try.prog f args w fun e w' => e = .returned v ∧ Below w.heap.size w w' :=
    fun h => h.mono (by rintro e w' ⟨rfl, rfl⟩; exact ⟨rfl, Below.refl _ _⟩)
  have h5 : op = 11 ∨ op = 12 ∨ op = 13 ∨ op = 14 ∨ op = 15 := by omega
  rcases h5 with rfl | rfl | rfl | rfl | rfl
  · exact same (refSum_add a b w ha hb)
  · exact same (refSum_sub a b w ha hb)
  · exact refSum_mul a b w ha hb
  · by_cases hn : b = -1
    · subst hn; exact same (refSum_quo1 a w ha)
    · exact same (refSum_quo a b w ha (h0 (by omega)) hn)
  · rw [show zV 15 a b = a.tmod b from rfl, wrap_in (tmod_in ha), decide_eq_true (tmod_in ha)]
    by_cases hn : b = -1
    · subst hn; exact same (refSum_rem1 a w)
    · exact same (refSum_rem a b w (h0 (by omega)) hn)

theorem sumV_z (op a b : Int) (h1 : 11 ≤ op) (h2 : op ≤ 15) (ha : inR a) (h0 : 14 ≤ op → b ≠ 0) : sumV op a b = over (zV op a b) := by
  have h5 : op = 11 ∨ op = 12 ∨ op = 13 ∨ op = 14 ∨ op = 15 := by omega
  rcases h5 with rfl | rfl | rfl | rfl | rfl
  · rfl
  · rfl
  · rfl
  · simp [sumV, zV, h0 (by omega)]
  · have : over (a.tmod b) = ⟨numV (a.tmod b), 0⟩ := if_pos (tmod_in ha)
    simp [sumV, zV, h0 (by omega), this]
end Go.Proofs.Ytfcecblppdgcbaa
