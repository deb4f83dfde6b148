/- What the document's level, operands, binary and Sign answer. No conditions. What the document's Print answers: a text, always the same. Conditions: the expression lies in memory, within the reach. What the document's Print answers, given what it answers of the operands. Conditions: the expression lies in memory, within the reach. -/
import Derived.Test.YtblkhlhhlalbkaaGreatDoorEvMem
import Derived.Test.YtblkhlhhlalbkaaGreatDoorRN
import Derived.Deep.RegionHeld3
import Derived.Deep.CutRange
import Derived.Deep.RegionHeldLaw
namespace Go.Proofs.YtblkhlhhlalbkaaGreatDoor
open Go.RowKit Go.Lib Go.Sort
set_option linter.unusedVariables false
set_option linter.unusedSimpArgs false
set_option maxRecDepth 20000

def opnR (op : Int) : Int := if op = 5 then 3 else if op = 6 then 2 else 1
def bnR (op : Int) : Int := if op = 3 then 1 else if op = 4 then 2 else if 5 ≤ op ∧ op ≤ 10 then 4 else if op = 16 then 5 else if op = 11 ∨ op = 12 then 6 else if 13 ≤ op ∧ op ≤ 15 then 7 else 0
/-- The number of an expression's line; 0: it is none. -/
def lvR (k op : Int) (n : Nat) : Int :=
  if k = 1 ∨ k = 2 then (if n = 0 then 9 else 0)
  else if k = 3 then (if n = 1 ∧ op = 2 then 3 else if n = 1 ∧ op = 1 then 8 else 0)
  else if k = 7 then (if n = 1 ∧ (op = 0 ∨ op = 1) then 4 else 0)
  else if k = 5 then (if 1 ≤ op ∧ op ≤ 6 ∧ (n : Int) = opnR op then 9 else 0)
  else if k = 6 then (if 1 ≤ op ∧ op ≤ 4 ∧ (n = 1 ∨ n = 0 ∧ op = 1) then 9 else 0)
  else if k = 4 then (if n = 2 then bnR op else 0)
  else 0
theorem bnR_range {op : Int} (h : bnR op ≠ 0) : 3 ≤ op ∧ op ≤ 16 := by
  unfold bnR at h
  refine ⟨?_, ?_⟩ <;> (apply Classical.byContradiction; intro q; apply h; rw [if_neg (by omega), if_neg (by omega), if_neg (by omega), if_neg (by omega), if_neg (by omega), if_neg (by omega)])
/-- What a line says. -/
theorem lvR_ok {k op : Int} {n : Nat} (h : lvR k op n ≠ 0) :
    (k = 3 → n = 1 ∧ 1 ≤ op ∧ op ≤ 2) ∧ (k = 7 → n = 1) ∧ (k = 5 → 1 ≤ op ∧ op ≤ 6) ∧ (k = 6 → 1 ≤ op ∧ op ≤ 4) ∧ (k = 4 → n = 2 ∧ 3 ≤ op ∧ op ≤ 16) ∧ 1 ≤ k ∧ k ≤ 7 := by
  unfold lvR at h
  by_cases h12 : k = 1 ∨ k = 2
  · exact ⟨by omega, by omega, by omega, by omega, by omega, by omega, by omega⟩
  rw [if_neg h12] at h
  by_cases h3 : k = 3
  · rw [if_pos h3] at h
    refine ⟨fun _ => ?_, by omega, by omega, by omega, by omega, by omega, by omega⟩
    by_cases q : n = 1 ∧ op = 2
    · omega
    · rw [if_neg q] at h
      by_cases q2 : n = 1 ∧ op = 1
      · omega
      · rw [if_neg q2] at h; exact absurd rfl h
  rw [if_neg h3] at h
  by_cases h7 : k = 7
  · rw [if_pos h7] at h
    refine ⟨by omega, fun _ => ?_, by omega, by omega, by omega, by omega, by omega⟩
    by_cases q : n = 1 ∧ (op = 0 ∨ op = 1)
    · exact q.1
    · rw [if_neg q] at h; exact absurd rfl h
  rw [if_neg h7] at h
  by_cases h5 : k = 5
  · rw [if_pos h5] at h
    refine ⟨by omega, by omega, fun _ => ?_, by omega, by omega, by omega, by omega⟩
    by_cases q : 1 ≤ op ∧ op ≤ 6 ∧ (n : Int) = opnR op
    · exact ⟨q.1, q.2.1⟩
    · rw [if_neg q] at h; exact absurd rfl h
  rw [if_neg h5] at h
  by_cases h6 : k = 6
  · rw [if_pos h6] at h
    refine ⟨by omega, by omega, by omega, fun _ => ?_, by omega, by omega, by omega⟩
    by_cases q : 1 ≤ op ∧ op ≤ 4 ∧ (n = 1 ∨ n = 0 ∧ op = 1)
    · exact ⟨q.1, q.2.1⟩
    · rw [if_neg q] at h; exact absurd rfl h
  rw [if_neg h6] at h
  by_cases h4 : k = 4
  · rw [if_pos h4] at h
    refine ⟨by omega, by omega, by omega, by omega, fun _ => ?_, by omega, by omega⟩
    by_cases q : n = 2
    · rw [if_pos q] at h
      exact ⟨q, bnR_range h⟩
    · rw [if_neg q] at h; exact absurd rfl h
  rw [if_neg h4] at h
  exact absurd rfl h

set_option maxHeartbeats 1000000 in
theorem operandsR_any (op : Int) (w : World) : Calls Tryz.prog 58 #[.int .i64 op] w fun r w' => r = .returned (.int .i64 (opnR op)) ∧ w' = w := by
  unfold opnR
  by_cases h5 : op = 5
  · subst h5
    go_enter Tryz.func58, Tryz.ntmps58
    go_wp2
    go_ret
    exact ⟨rfl, rfl⟩
  by_cases h6 : op = 6
  · subst h6
    go_enter Tryz.func58, Tryz.ntmps58
    go_wp2
    go_ret
    exact ⟨rfl, rfl⟩
  rw [if_neg h5, if_neg h6]
  have e5 : (op == 5) = false := beq_eq_false_iff_ne.2 h5
  have e6 : (op == 6) = false := beq_eq_false_iff_ne.2 h6
  go_enter Tryz.func58, Tryz.ntmps58
  go_wp2
  go_ret
  exact ⟨rfl, rfl⟩
set_option maxHeartbeats 4000000 in
theorem binary_anyR (op : Int) (w : World) : Calls Tryz.prog 59 #[.int .i64 op] w fun r w' => r = .returned (.int .i64 (bnR op)) ∧ w' = w := by
  by_cases hin : 3 ≤ op ∧ op ≤ 16
  · have hc : op = 3 ∨ op = 4 ∨ op = 5 ∨ op = 6 ∨ op = 7 ∨ op = 8 ∨ op = 9 ∨ op = 10 ∨ op = 11 ∨ op = 12 ∨ op = 13 ∨ op = 14 ∨ op = 15 ∨ op = 16 := by omega
    clear hin
    rcases hc with rfl | rfl | rfl | rfl | rfl | rfl | rfl | rfl | rfl | rfl | rfl | rfl | rfl | rfl
    all_goals
      go_enter Tryz.func59, Tryz.ntmps59
      go_wp2
      go_ret
      exact ⟨rfl, rfl⟩
  have hv : bnR op = 0 := by
    unfold bnR
    rw [if_neg (by omega), if_neg (by omega), if_neg (by omega), if_neg (by omega), if_neg (by omega), if_neg (by omega)]
  rw [hv]
  have d3 : (op == 3) = false := beq_eq_false_iff_ne.2 (by omega)
  have d4 : (op == 4) = false := beq_eq_false_iff_ne.2 (by omega)
  have d16 : (op == 16) = false := beq_eq_false_iff_ne.2 (by omega)
  have d11 : (op == 11) = false := beq_eq_false_iff_ne.2 (by omega)
  have d12 : (op == 12) = false := beq_eq_false_iff_ne.2 (by omega)
  by_cases hlo : op < 3
  · have d5 : ¬ 5 ≤ op := by omega
    have d13 : ¬ 13 ≤ op := by omega
    clear hlo hin hv
    go_enter Tryz.func59, Tryz.ntmps59
    go_wp2
    go_ret
    exact ⟨rfl, rfl⟩
  · have d5 : 5 ≤ op := by omega
    have d10 : ¬ op ≤ 10 := by omega
    have d13 : 13 ≤ op := by omega
    have d15 : ¬ op ≤ 15 := by omega
    clear hlo hin hv
    go_enter Tryz.func59, Tryz.ntmps59
    go_wp2
    go_ret
    exact ⟨rfl, rfl⟩
set_option maxHeartbeats 8000000 in
theorem sign_ex (op : Int) (h : 1 ≤ op ∧ op ≤ 16) : ∃ s : ByteArray, s.size ≤ 3 ∧ ∀ w, Calls Tryz.prog 35 #[.int .i64 op] w fun r w' => r = .returned (.string s) ∧ Below w.heap.size w w' := by
  have hc : op = 1 ∨ op = 2 ∨ op = 3 ∨ op = 4 ∨ op = 5 ∨ op = 6 ∨ op = 7 ∨ op = 8 ∨ op = 9 ∨ op = 10 ∨ op = 11 ∨ op = 12 ∨ op = 13 ∨ op = 14 ∨ op = 15 ∨ op = 16 := by omega
  clear h
  rcases hc with rfl | rfl | rfl | rfl | rfl | rfl | rfl | rfl | rfl | rfl | rfl | rfl | rfl | rfl | rfl | rfl
  · refine ⟨⟨#[45]⟩, by decide, fun w => ?_⟩
    go_enter Tryz.func35, Tryz.ntmps35
    go_wp2
    go_ret
    exact ⟨rfl, by go_grown⟩
  · refine ⟨⟨#[78, 79, 84]⟩, by decide, fun w => ?_⟩
    go_enter Tryz.func35, Tryz.ntmps35
    go_wp2
    go_ret
    exact ⟨rfl, by go_grown⟩
  · refine ⟨⟨#[79, 82]⟩, by decide, fun w => ?_⟩
    go_enter Tryz.func35, Tryz.ntmps35
    go_wp2
    go_ret
    exact ⟨rfl, by go_grown⟩
  · refine ⟨⟨#[65, 78, 68]⟩, by decide, fun w => ?_⟩
    go_enter Tryz.func35, Tryz.ntmps35
    go_wp2
    go_ret
    exact ⟨rfl, by go_grown⟩
  · refine ⟨⟨#[61]⟩, by decide, fun w => ?_⟩
    go_enter Tryz.func35, Tryz.ntmps35
    go_wp2
    go_ret
    exact ⟨rfl, by go_grown⟩
  · refine ⟨⟨#[60, 62]⟩, by decide, fun w => ?_⟩
    go_enter Tryz.func35, Tryz.ntmps35
    go_wp2
    go_ret
    exact ⟨rfl, by go_grown⟩
  · refine ⟨⟨#[60]⟩, by decide, fun w => ?_⟩
    go_enter Tryz.func35, Tryz.ntmps35
    go_wp2
    go_ret
    exact ⟨rfl, by go_grown⟩
  · refine ⟨⟨#[60, 61]⟩, by decide, fun w => ?_⟩
    go_enter Tryz.func35, Tryz.ntmps35
    go_wp2
    go_ret
    exact ⟨rfl, by go_grown⟩
  · refine ⟨⟨#[62]⟩, by decide, fun w => ?_⟩
    go_enter Tryz.func35, Tryz.ntmps35
    go_wp2
    go_ret
    exact ⟨rfl, by go_grown⟩
  · refine ⟨⟨#[62, 61]⟩, by decide, fun w => ?_⟩
    go_enter Tryz.func35, Tryz.ntmps35
    go_wp2
    go_ret
    exact ⟨rfl, by go_grown⟩
  · refine ⟨⟨#[43]⟩, by decide, fun w => ?_⟩
    go_enter Tryz.func35, Tryz.ntmps35
    go_wp2
    go_ret
    exact ⟨rfl, by go_grown⟩
  · refine ⟨⟨#[45]⟩, by decide, fun w => ?_⟩
    go_enter Tryz.func35, Tryz.ntmps35
    go_wp2
    go_ret
    exact ⟨rfl, by go_grown⟩
  · refine ⟨⟨#[42]⟩, by decide, fun w => ?_⟩
    go_enter Tryz.func35, Tryz.ntmps35
    go_wp2
    go_ret
    exact ⟨rfl, by go_grown⟩
  · refine ⟨⟨#[47]⟩, by decide, fun w => ?_⟩
    go_enter Tryz.func35, Tryz.ntmps35
    go_wp2
    go_ret
    exact ⟨rfl, by go_grown⟩
  · refine ⟨⟨#[37]⟩, by decide, fun w => ?_⟩
    go_enter Tryz.func35, Tryz.ntmps35
    go_wp2
    go_ret
    exact ⟨rfl, by go_grown⟩
  · refine ⟨⟨#[124, 124]⟩, by decide, fun w => ?_⟩
    go_enter Tryz.func35, Tryz.ntmps35
    go_wp2
    go_ret
    exact ⟨rfl, by go_grown⟩
set_option maxHeartbeats 2000000 in
theorem lev1 (op vk vn cc y : Int) (vs ts ns : ByteArray) (p : Option Addr) (n c : Nat) (w : World) :
    Calls Tryz.prog 33 #[.agg #[.int .i64 1, .int .i64 op, .int .i64 vk, .int .i64 vn, .string vs, .string ts, .string ns, .int .i64 cc, .int .i64 y, .slice p n c]] w fun r w' => r = .returned (.int .i64 (lvR 1 op n)) ∧ Below w.heap.size w w' := by
  by_cases hn0 : n = 0
  · subst hn0
    rw [show lvR 1 op 0 = 9 from by unfold lvR; simp []]
    go_enter Tryz.func33, Tryz.ntmps33
    go_wp2_with (first
      | (go_at_call 58; with_reducible refine (operandsR_any _ _).mono ?_; rintro r w2 ⟨rfl, hw2⟩; subst hw2)
      | (go_at_call 59; with_reducible refine (binary_anyR _ _).mono ?_; rintro r w2 ⟨rfl, hw2⟩; subst hw2)
      | fail)
    go_ret
    exact ⟨rfl, (Below.refl _ _).alloc (Nat.le_refl _) _⟩
  · have en0 : ((n : Int) == 0) = false := beq_eq_false_iff_ne.2 (by omega)
    rw [show lvR 1 op n = 0 from by unfold lvR; simp [hn0]]
    go_enter Tryz.func33, Tryz.ntmps33
    go_wp2_with (first
      | (go_at_call 58; with_reducible refine (operandsR_any _ _).mono ?_; rintro r w2 ⟨rfl, hw2⟩; subst hw2)
      | (go_at_call 59; with_reducible refine (binary_anyR _ _).mono ?_; rintro r w2 ⟨rfl, hw2⟩; subst hw2)
      | fail)
    go_ret
    exact ⟨rfl, (Below.refl _ _).alloc (Nat.le_refl _) _⟩
set_option maxHeartbeats 2000000 in
theorem lev2 (op vk vn cc y : Int) (vs ts ns : ByteArray) (p : Option Addr) (n c : Nat) (w : World) :
    Calls Tryz.prog 33 #[.agg #[.int .i64 2, .int .i64 op, .int .i64 vk, .int .i64 vn, .string vs, .string ts, .string ns, .int .i64 cc, .int .i64 y, .slice p n c]] w fun r w' => r = .returned (.int .i64 (lvR 2 op n)) ∧ Below w.heap.size w w' := by
  by_cases hn0 : n = 0
  · subst hn0
    rw [show lvR 2 op 0 = 9 from by unfold lvR; simp []]
    go_enter Tryz.func33, Tryz.ntmps33
    go_wp2_with (first
      | (go_at_call 58; with_reducible refine (operandsR_any _ _).mono ?_; rintro r w2 ⟨rfl, hw2⟩; subst hw2)
      | (go_at_call 59; with_reducible refine (binary_anyR _ _).mono ?_; rintro r w2 ⟨rfl, hw2⟩; subst hw2)
      | fail)
    go_ret
    exact ⟨rfl, (Below.refl _ _).alloc (Nat.le_refl _) _⟩
  · have en0 : ((n : Int) == 0) = false := beq_eq_false_iff_ne.2 (by omega)
    rw [show lvR 2 op n = 0 from by unfold lvR; simp [hn0]]
    go_enter Tryz.func33, Tryz.ntmps33
    go_wp2_with (first
      | (go_at_call 58; with_reducible refine (operandsR_any _ _).mono ?_; rintro r w2 ⟨rfl, hw2⟩; subst hw2)
      | (go_at_call 59; with_reducible refine (binary_anyR _ _).mono ?_; rintro r w2 ⟨rfl, hw2⟩; subst hw2)
      | fail)
    go_ret
    exact ⟨rfl, (Below.refl _ _).alloc (Nat.le_refl _) _⟩
set_option maxHeartbeats 2000000 in
theorem lev3 (op vk vn cc y : Int) (vs ts ns : ByteArray) (p : Option Addr) (n c : Nat) (w : World) :
    Calls Tryz.prog 33 #[.agg #[.int .i64 3, .int .i64 op, .int .i64 vk, .int .i64 vn, .string vs, .string ts, .string ns, .int .i64 cc, .int .i64 y, .slice p n c]] w fun r w' => r = .returned (.int .i64 (lvR 3 op n)) ∧ Below w.heap.size w w' := by
  by_cases hn1 : n = 1
  · subst hn1
    by_cases ho2 : op = 2
    · subst ho2
      rw [show lvR 3 2 1 = 3 from by unfold lvR; simp []]
      go_enter Tryz.func33, Tryz.ntmps33
      go_wp2_with (first
        | (go_at_call 58; with_reducible refine (operandsR_any _ _).mono ?_; rintro r w2 ⟨rfl, hw2⟩; subst hw2)
        | (go_at_call 59; with_reducible refine (binary_anyR _ _).mono ?_; rintro r w2 ⟨rfl, hw2⟩; subst hw2)
        | fail)
      go_ret
      exact ⟨rfl, (Below.refl _ _).alloc (Nat.le_refl _) _⟩
    · have eo2 : (op == 2) = false := beq_eq_false_iff_ne.2 (by omega)
      by_cases ho1 : op = 1
      · subst ho1
        rw [show lvR 3 1 1 = 8 from by unfold lvR; simp []]
        go_enter Tryz.func33, Tryz.ntmps33
        go_wp2_with (first
          | (go_at_call 58; with_reducible refine (operandsR_any _ _).mono ?_; rintro r w2 ⟨rfl, hw2⟩; subst hw2)
          | (go_at_call 59; with_reducible refine (binary_anyR _ _).mono ?_; rintro r w2 ⟨rfl, hw2⟩; subst hw2)
          | fail)
        go_ret
        exact ⟨rfl, (Below.refl _ _).alloc (Nat.le_refl _) _⟩
      · have eo1 : (op == 1) = false := beq_eq_false_iff_ne.2 (by omega)
        rw [show lvR 3 op 1 = 0 from by unfold lvR; simp [ho1, ho2]]
        go_enter Tryz.func33, Tryz.ntmps33
        go_wp2_with (first
          | (go_at_call 58; with_reducible refine (operandsR_any _ _).mono ?_; rintro r w2 ⟨rfl, hw2⟩; subst hw2)
          | (go_at_call 59; with_reducible refine (binary_anyR _ _).mono ?_; rintro r w2 ⟨rfl, hw2⟩; subst hw2)
          | fail)
        go_ret
        exact ⟨rfl, (Below.refl _ _).alloc (Nat.le_refl _) _⟩
  · have en1 : ((n : Int) == 1) = false := beq_eq_false_iff_ne.2 (by omega)
    rw [show lvR 3 op n = 0 from by unfold lvR; simp [hn1]]
    go_enter Tryz.func33, Tryz.ntmps33
    go_wp2_with (first
      | (go_at_call 58; with_reducible refine (operandsR_any _ _).mono ?_; rintro r w2 ⟨rfl, hw2⟩; subst hw2)
      | (go_at_call 59; with_reducible refine (binary_anyR _ _).mono ?_; rintro r w2 ⟨rfl, hw2⟩; subst hw2)
      | fail)
    go_ret
    exact ⟨rfl, (Below.refl _ _).alloc (Nat.le_refl _) _⟩
set_option maxHeartbeats 2000000 in
theorem lev7 (op vk vn cc y : Int) (vs ts ns : ByteArray) (p : Option Addr) (n c : Nat) (w : World) :
    Calls Tryz.prog 33 #[.agg #[.int .i64 7, .int .i64 op, .int .i64 vk, .int .i64 vn, .string vs, .string ts, .string ns, .int .i64 cc, .int .i64 y, .slice p n c]] w fun r w' => r = .returned (.int .i64 (lvR 7 op n)) ∧ Below w.heap.size w w' := by
  by_cases hn1 : n = 1
  · subst hn1
    by_cases ho0 : op = 0
    · subst ho0
      rw [show lvR 7 0 1 = 4 from by unfold lvR; simp []]
      go_enter Tryz.func33, Tryz.ntmps33
      go_wp2_with (first
        | (go_at_call 58; with_reducible refine (operandsR_any _ _).mono ?_; rintro r w2 ⟨rfl, hw2⟩; subst hw2)
        | (go_at_call 59; with_reducible refine (binary_anyR _ _).mono ?_; rintro r w2 ⟨rfl, hw2⟩; subst hw2)
        | fail)
      go_ret
      exact ⟨rfl, (Below.refl _ _).alloc (Nat.le_refl _) _⟩
    · have eo0 : (op == 0) = false := beq_eq_false_iff_ne.2 (by omega)
      by_cases ho1 : op = 1
      · subst ho1
        rw [show lvR 7 1 1 = 4 from by unfold lvR; simp []]
        go_enter Tryz.func33, Tryz.ntmps33
        go_wp2_with (first
          | (go_at_call 58; with_reducible refine (operandsR_any _ _).mono ?_; rintro r w2 ⟨rfl, hw2⟩; subst hw2)
          | (go_at_call 59; with_reducible refine (binary_anyR _ _).mono ?_; rintro r w2 ⟨rfl, hw2⟩; subst hw2)
          | fail)
        go_ret
        exact ⟨rfl, (Below.refl _ _).alloc (Nat.le_refl _) _⟩
      · have eo1 : (op == 1) = false := beq_eq_false_iff_ne.2 (by omega)
        rw [show lvR 7 op 1 = 0 from by unfold lvR; simp [ho1, ho0]]
        go_enter Tryz.func33, Tryz.ntmps33
        go_wp2_with (first
          | (go_at_call 58; with_reducible refine (operandsR_any _ _).mono ?_; rintro r w2 ⟨rfl, hw2⟩; subst hw2)
          | (go_at_call 59; with_reducible refine (binary_anyR _ _).mono ?_; rintro r w2 ⟨rfl, hw2⟩; subst hw2)
          | fail)
        go_ret
        exact ⟨rfl, (Below.refl _ _).alloc (Nat.le_refl _) _⟩
  · have en1 : ((n : Int) == 1) = false := beq_eq_false_iff_ne.2 (by omega)
    rw [show lvR 7 op n = 0 from by unfold lvR; simp [hn1]]
    go_enter Tryz.func33, Tryz.ntmps33
    go_wp2_with (first
      | (go_at_call 58; with_reducible refine (operandsR_any _ _).mono ?_; rintro r w2 ⟨rfl, hw2⟩; subst hw2)
      | (go_at_call 59; with_reducible refine (binary_anyR _ _).mono ?_; rintro r w2 ⟨rfl, hw2⟩; subst hw2)
      | fail)
    go_ret
    exact ⟨rfl, (Below.refl _ _).alloc (Nat.le_refl _) _⟩
set_option maxHeartbeats 2000000 in
theorem lev5 (op vk vn cc y : Int) (vs ts ns : ByteArray) (p : Option Addr) (n c : Nat) (w : World) :
    Calls Tryz.prog 33 #[.agg #[.int .i64 5, .int .i64 op, .int .i64 vk, .int .i64 vn, .string vs, .string ts, .string ns, .int .i64 cc, .int .i64 y, .slice p n c]] w fun r w' => r = .returned (.int .i64 (lvR 5 op n)) ∧ Below w.heap.size w w' := by
  by_cases h1 : 1 ≤ op
  · by_cases h6 : op ≤ 6
    · by_cases hq : (n : Int) = opnR op
      · have eq : ((n : Int) == opnR op) = true := by simp [hq]
        rw [show lvR 5 op n = 9 from by unfold lvR; rw [if_neg (by decide), if_neg (by decide), if_neg (by decide), if_pos rfl, if_pos ⟨h1, h6, hq⟩]]
        go_enter Tryz.func33, Tryz.ntmps33
        go_wp2_with (first
          | (go_at_call 58; with_reducible refine (operandsR_any _ _).mono ?_; rintro r w2 ⟨rfl, hw2⟩; subst hw2)
          | (go_at_call 59; with_reducible refine (binary_anyR _ _).mono ?_; rintro r w2 ⟨rfl, hw2⟩; subst hw2)
          | fail)
        go_ret
        exact ⟨rfl, (Below.refl _ _).alloc (Nat.le_refl _) _⟩
      · have eq : ((n : Int) == opnR op) = false := beq_eq_false_iff_ne.2 hq
        rw [show lvR 5 op n = 0 from by unfold lvR; rw [if_neg (by decide), if_neg (by decide), if_neg (by decide), if_pos rfl, if_neg (fun q => hq q.2.2)]]
        go_enter Tryz.func33, Tryz.ntmps33
        go_wp2_with (first
          | (go_at_call 58; with_reducible refine (operandsR_any _ _).mono ?_; rintro r w2 ⟨rfl, hw2⟩; subst hw2)
          | (go_at_call 59; with_reducible refine (binary_anyR _ _).mono ?_; rintro r w2 ⟨rfl, hw2⟩; subst hw2)
          | fail)
        go_ret
        exact ⟨rfl, (Below.refl _ _).alloc (Nat.le_refl _) _⟩
    · have d6 : decide (op ≤ 6) = false := decide_eq_false h6
      rw [show lvR 5 op n = 0 from by unfold lvR; rw [if_neg (by decide), if_neg (by decide), if_neg (by decide), if_pos rfl, if_neg (fun q => h6 q.2.1)]]
      go_enter Tryz.func33, Tryz.ntmps33
      go_wp2_with (first
        | (go_at_call 58; with_reducible refine (operandsR_any _ _).mono ?_; rintro r w2 ⟨rfl, hw2⟩; subst hw2)
        | (go_at_call 59; with_reducible refine (binary_anyR _ _).mono ?_; rintro r w2 ⟨rfl, hw2⟩; subst hw2)
        | fail)
      go_ret
      exact ⟨rfl, (Below.refl _ _).alloc (Nat.le_refl _) _⟩
  · have d1 : decide (1 ≤ op) = false := decide_eq_false h1
    rw [show lvR 5 op n = 0 from by unfold lvR; rw [if_neg (by decide), if_neg (by decide), if_neg (by decide), if_pos rfl, if_neg (fun q => h1 q.1)]]
    go_enter Tryz.func33, Tryz.ntmps33
    go_wp2_with (first
      | (go_at_call 58; with_reducible refine (operandsR_any _ _).mono ?_; rintro r w2 ⟨rfl, hw2⟩; subst hw2)
      | (go_at_call 59; with_reducible refine (binary_anyR _ _).mono ?_; rintro r w2 ⟨rfl, hw2⟩; subst hw2)
      | fail)
    go_ret
    exact ⟨rfl, (Below.refl _ _).alloc (Nat.le_refl _) _⟩
set_option maxHeartbeats 2000000 in
theorem lev6 (op vk vn cc y : Int) (vs ts ns : ByteArray) (p : Option Addr) (n c : Nat) (w : World) :
    Calls Tryz.prog 33 #[.agg #[.int .i64 6, .int .i64 op, .int .i64 vk, .int .i64 vn, .string vs, .string ts, .string ns, .int .i64 cc, .int .i64 y, .slice p n c]] w fun r w' => r = .returned (.int .i64 (lvR 6 op n)) ∧ Below w.heap.size w w' := by
  by_cases h1 : 1 ≤ op
  · by_cases h4 : op ≤ 4
    · by_cases hn1 : n = 1
      · subst hn1
        rw [show lvR 6 op 1 = 9 from by unfold lvR; rw [if_neg (by decide), if_neg (by decide), if_neg (by decide), if_neg (by decide), if_pos rfl, if_pos ⟨h1, h4, Or.inl rfl⟩]]
        go_enter Tryz.func33, Tryz.ntmps33
        go_wp2_with (first
          | (go_at_call 58; with_reducible refine (operandsR_any _ _).mono ?_; rintro r w2 ⟨rfl, hw2⟩; subst hw2)
          | (go_at_call 59; with_reducible refine (binary_anyR _ _).mono ?_; rintro r w2 ⟨rfl, hw2⟩; subst hw2)
          | fail)
        go_ret
        exact ⟨rfl, (Below.refl _ _).alloc (Nat.le_refl _) _⟩
      · have en1 : ((n : Int) == 1) = false := beq_eq_false_iff_ne.2 (by omega)
        by_cases hn0 : n = 0
        · subst hn0
          by_cases ho1 : op = 1
          · subst ho1
            rw [show lvR 6 1 0 = 9 from by unfold lvR; rw [if_neg (by decide), if_neg (by decide), if_neg (by decide), if_neg (by decide), if_pos rfl, if_pos ⟨h1, h4, Or.inr ⟨rfl, rfl⟩⟩]]
            go_enter Tryz.func33, Tryz.ntmps33
            go_wp2_with (first
              | (go_at_call 58; with_reducible refine (operandsR_any _ _).mono ?_; rintro r w2 ⟨rfl, hw2⟩; subst hw2)
              | (go_at_call 59; with_reducible refine (binary_anyR _ _).mono ?_; rintro r w2 ⟨rfl, hw2⟩; subst hw2)
              | fail)
            go_ret
            exact ⟨rfl, (Below.refl _ _).alloc (Nat.le_refl _) _⟩
          · have eo1 : (op == 1) = false := beq_eq_false_iff_ne.2 (by omega)
            rw [show lvR 6 op 0 = 0 from by unfold lvR; rw [if_neg (by decide), if_neg (by decide), if_neg (by decide), if_neg (by decide), if_pos rfl, if_neg (fun q => by rcases q.2.2 with q | q; exact absurd q (by decide); exact ho1 q.2)]]
            go_enter Tryz.func33, Tryz.ntmps33
            go_wp2_with (first
              | (go_at_call 58; with_reducible refine (operandsR_any _ _).mono ?_; rintro r w2 ⟨rfl, hw2⟩; subst hw2)
              | (go_at_call 59; with_reducible refine (binary_anyR _ _).mono ?_; rintro r w2 ⟨rfl, hw2⟩; subst hw2)
              | fail)
            go_ret
            exact ⟨rfl, (Below.refl _ _).alloc (Nat.le_refl _) _⟩
        · have en0 : ((n : Int) == 0) = false := beq_eq_false_iff_ne.2 (by omega)
          rw [show lvR 6 op n = 0 from by unfold lvR; rw [if_neg (by decide), if_neg (by decide), if_neg (by decide), if_neg (by decide), if_pos rfl, if_neg (fun q => by rcases q.2.2 with q | q; exact hn1 q; exact hn0 q.1)]]
          go_enter Tryz.func33, Tryz.ntmps33
          go_wp2_with (first
            | (go_at_call 58; with_reducible refine (operandsR_any _ _).mono ?_; rintro r w2 ⟨rfl, hw2⟩; subst hw2)
            | (go_at_call 59; with_reducible refine (binary_anyR _ _).mono ?_; rintro r w2 ⟨rfl, hw2⟩; subst hw2)
            | fail)
          go_ret
          exact ⟨rfl, (Below.refl _ _).alloc (Nat.le_refl _) _⟩
    · have d4 : decide (op ≤ 4) = false := decide_eq_false h4
      rw [show lvR 6 op n = 0 from by unfold lvR; rw [if_neg (by decide), if_neg (by decide), if_neg (by decide), if_neg (by decide), if_pos rfl, if_neg (fun q => h4 q.2.1)]]
      go_enter Tryz.func33, Tryz.ntmps33
      go_wp2_with (first
        | (go_at_call 58; with_reducible refine (operandsR_any _ _).mono ?_; rintro r w2 ⟨rfl, hw2⟩; subst hw2)
        | (go_at_call 59; with_reducible refine (binary_anyR _ _).mono ?_; rintro r w2 ⟨rfl, hw2⟩; subst hw2)
        | fail)
      go_ret
      exact ⟨rfl, (Below.refl _ _).alloc (Nat.le_refl _) _⟩
  · have d1 : decide (1 ≤ op) = false := decide_eq_false h1
    rw [show lvR 6 op n = 0 from by unfold lvR; rw [if_neg (by decide), if_neg (by decide), if_neg (by decide), if_neg (by decide), if_pos rfl, if_neg (fun q => h1 q.1)]]
    go_enter Tryz.func33, Tryz.ntmps33
    go_wp2_with (first
      | (go_at_call 58; with_reducible refine (operandsR_any _ _).mono ?_; rintro r w2 ⟨rfl, hw2⟩; subst hw2)
      | (go_at_call 59; with_reducible refine (binary_anyR _ _).mono ?_; rintro r w2 ⟨rfl, hw2⟩; subst hw2)
      | fail)
    go_ret
    exact ⟨rfl, (Below.refl _ _).alloc (Nat.le_refl _) _⟩
set_option maxHeartbeats 2000000 in
theorem lev4 (op vk vn cc y : Int) (vs ts ns : ByteArray) (p : Option Addr) (n c : Nat) (w : World) :
    Calls Tryz.prog 33 #[.agg #[.int .i64 4, .int .i64 op, .int .i64 vk, .int .i64 vn, .string vs, .string ts, .string ns, .int .i64 cc, .int .i64 y, .slice p n c]] w fun r w' => r = .returned (.int .i64 (lvR 4 op n)) ∧ Below w.heap.size w w' := by
  by_cases hn2 : n = 2
  · subst hn2
    rw [show lvR 4 op 2 = bnR op from by unfold lvR; rw [if_neg (by decide), if_neg (by decide), if_neg (by decide), if_neg (by decide), if_neg (by decide), if_pos rfl, if_pos rfl]]
    go_enter Tryz.func33, Tryz.ntmps33
    go_wp2_with (first
      | (go_at_call 58; with_reducible refine (operandsR_any _ _).mono ?_; rintro r w2 ⟨rfl, hw2⟩; subst hw2)
      | (go_at_call 59; with_reducible refine (binary_anyR _ _).mono ?_; rintro r w2 ⟨rfl, hw2⟩; subst hw2)
      | fail)
    go_ret
    exact ⟨rfl, (Below.refl _ _).alloc (Nat.le_refl _) _⟩
  · have en2 : ((n : Int) == 2) = false := beq_eq_false_iff_ne.2 (by omega)
    rw [show lvR 4 op n = 0 from by unfold lvR; rw [if_neg (by decide), if_neg (by decide), if_neg (by decide), if_neg (by decide), if_neg (by decide), if_pos rfl, if_neg hn2]]
    go_enter Tryz.func33, Tryz.ntmps33
    go_wp2_with (first
      | (go_at_call 58; with_reducible refine (operandsR_any _ _).mono ?_; rintro r w2 ⟨rfl, hw2⟩; subst hw2)
      | (go_at_call 59; with_reducible refine (binary_anyR _ _).mono ?_; rintro r w2 ⟨rfl, hw2⟩; subst hw2)
      | fail)
    go_ret
    exact ⟨rfl, (Below.refl _ _).alloc (Nat.le_refl _) _⟩
set_option maxHeartbeats 2000000 in
theorem levO (op vk vn cc y : Int) (k : Int) (vs ts ns : ByteArray) (p : Option Addr) (n c : Nat) (w : World) (h : k < 1 ∨ 7 < k) :
    Calls Tryz.prog 33 #[.agg #[.int .i64 k, .int .i64 op, .int .i64 vk, .int .i64 vn, .string vs, .string ts, .string ns, .int .i64 cc, .int .i64 y, .slice p n c]] w fun r w' => r = .returned (.int .i64 (lvR k op n)) ∧ Below w.heap.size w w' := by
  rw [show lvR k op n = 0 from by unfold lvR; rw [if_neg (by omega), if_neg (by omega), if_neg (by omega), if_neg (by omega), if_neg (by omega), if_neg (by omega)]]
  have e1 : (k == 1) = false := beq_eq_false_iff_ne.2 (by omega)
  have e2 : (k == 2) = false := beq_eq_false_iff_ne.2 (by omega)
  have e3 : (k == 3) = false := beq_eq_false_iff_ne.2 (by omega)
  have e4 : (k == 4) = false := beq_eq_false_iff_ne.2 (by omega)
  have e5 : (k == 5) = false := beq_eq_false_iff_ne.2 (by omega)
  have e6 : (k == 6) = false := beq_eq_false_iff_ne.2 (by omega)
  have e7 : (k == 7) = false := beq_eq_false_iff_ne.2 (by omega)
  clear h
  go_enter Tryz.func33, Tryz.ntmps33
  go_wp2_with (first
    | (go_at_call 58; with_reducible refine (operandsR_any _ _).mono ?_; rintro r w2 ⟨rfl, hw2⟩; subst hw2)
    | (go_at_call 59; with_reducible refine (binary_anyR _ _).mono ?_; rintro r w2 ⟨rfl, hw2⟩; subst hw2)
    | fail)
  go_ret
  exact ⟨rfl, (Below.refl _ _).alloc (Nat.le_refl _) _⟩
theorem level_anyR (op vk vn cc y : Int) (k : Int) (vs ts ns : ByteArray) (p : Option Addr) (n c : Nat) (w : World) :
    Calls Tryz.prog 33 #[.agg #[.int .i64 k, .int .i64 op, .int .i64 vk, .int .i64 vn, .string vs, .string ts, .string ns, .int .i64 cc, .int .i64 y, .slice p n c]] w fun r w' => r = .returned (.int .i64 (lvR k op n)) ∧ Below w.heap.size w w' := by
  by_cases h : k < 1 ∨ 7 < k
  · exact levO op vk vn cc y k vs ts ns p n c w h
  have hc : k = 1 ∨ k = 2 ∨ k = 3 ∨ k = 4 ∨ k = 5 ∨ k = 6 ∨ k = 7 := by omega
  rcases hc with rfl | rfl | rfl | rfl | rfl | rfl | rfl
  · exact lev1 op vk vn cc y vs ts ns p n c w
  · exact lev2 op vk vn cc y vs ts ns p n c w
  · exact lev3 op vk vn cc y vs ts ns p n c w
  · exact lev4 op vk vn cc y vs ts ns p n c w
  · exact lev5 op vk vn cc y vs ts ns p n c w
  · exact lev6 op vk vn cc y vs ts ns p n c w
  · exact lev7 op vk vn cc y vs ts ns p n c w
end Go.Proofs.YtblkhlhhlalbkaaGreatDoor
namespace Go.Proofs.YtblkhlhhlalbkaaGreatDoor
open Go.RowKit Go.Lib Go.Sort
set_option linter.unusedVariables false
set_option linter.unusedSimpArgs false
set_option maxRecDepth 20000

theorem lvR_range (k op : Int) (n : Nat) : 0 ≤ lvR k op n ∧ lvR k op n ≤ 9 := by
  have hb : 0 ≤ bnR op ∧ bnR op ≤ 9 := by
    unfold bnR
    repeat' split
    all_goals decide
  unfold lvR
  repeat' split
  all_goals first | decide | exact hb
/-- Print answers s of it, wherever nothing of it has turned. -/
def PrOk (w0 : World) (e : Gx) (p : Option Addr) (c : Nat) (s : ByteArray) : Prop := ∀ W, Below w0.heap.size w0 W → Calls Tryz.prog 19 #[gV e p c] W fun r w' => r = .returned (.string s) ∧ Below W.heap.size W w'
theorem bl2 {a b c : World} (h : Below a.heap.size a b) (k : Below b.heap.size b c) : Below a.heap.size a c := h.trans (k.mono h.size)
theorem alB (w : World) (o : Obj) : Below w.heap.size w (w.alloc o) := (Below.refl _ _).alloc (Nat.le_refl _) o
def brk (s : ByteArray) : ByteArray := (⟨#[40]⟩ ++ s) ++ ⟨#[41]⟩
def opdS (e : Gx) (s : ByteArray) (least : Int) : ByteArray := if lvR e.k e.op e.xs.length ≠ 0 ∧ lvR e.k e.op e.xs.length < least then brk s else s
theorem brk_size (s : ByteArray) : (brk s).size = s.size + 2 := by
  unfold brk
  rw [ByteArray.size_append, ByteArray.size_append]
  show 1 + s.size + 1 = _
  omega
theorem opdS_size (e : Gx) (s : ByteArray) (l : Int) : (opdS e s l).size ≤ s.size + 2 := by
  unfold opdS
  split
  · rw [brk_size]; omega
  · omega
set_option maxHeartbeats 2000000 in
theorem operand_ok {w0 : World} {e : Gx} {p : Option Addr} {c : Nat} {s : ByteArray} (h : PrOk w0 e p c s) (hs : s.size ≤ 1000000000000000000) (least : Int) (W : World) (hB : Below w0.heap.size w0 W) :
    Calls Tryz.prog 36 #[gV e p c, .int .i64 least] W fun r w' => r = .returned (.string (opdS e s least)) ∧ Below W.heap.size W w' := by
  have L := fun w => level_anyR e.op e.v.k e.v.n e.c e.y e.k e.v.s ⟨e.t.toArray⟩ ⟨e.n.toArray⟩ p e.xs.length c w
  have X := hid (BGx.new W e p c)
  have HB := hid hB
  unfold PrOk at h
  have HP := hid h
  have hd : opdS e s least = if lvR e.k e.op e.xs.length ≠ 0 ∧ lvR e.k e.op e.xs.length < least then brk s else s := rfl
  generalize lvR e.k e.op e.xs.length = l at *
  obtain ⟨x0, x1, x2, x3, x4, x5, x6, x7, x8, x9⟩ := X.out.gc.get
  simp only [Nat.zero_add] at x1 x2 x3 x4 x5 x6 x7 x8 x9
  have hz1 : (⟨#[40]⟩ : ByteArray).size + s.size ≤ 9223372036854775807 := by show 1 + s.size ≤ _; omega
  have hz2 : ((⟨#[40]⟩ : ByteArray) ++ s).size + (⟨#[41]⟩ : ByteArray).size ≤ 9223372036854775807 := by rw [ByteArray.size_append]; show 1 + s.size + 1 ≤ _; omega
  by_cases h0 : l = 0
  · have e0 : (l != 0) = false := by simp [h0]
    rw [if_neg (fun q => q.1 h0)] at hd
    rw [hd]
    clear hd h0 h
    go_enter Tryz.func36, Tryz.ntmps36
    go_wp2_with (first
      | (go_at_call 33; with_reducible refine (L _).mono ?_; rintro r w1 ⟨rfl, b1⟩; have X1 := hid (X.out.below b1); have B1 := hid (bl2 (alB W _) b1); obtain ⟨x0, x1, x2, x3, x4, x5, x6, x7, x8, x9⟩ := X1.out.gc.get; simp only [Nat.zero_add] at x1 x2 x3 x4 x5 x6 x7 x8 x9)
      | (go_at_call 19; with_reducible refine (HP.out _ (HB.out.trans (B1.out.mono HB.out.size))).mono ?_; rintro r w2 ⟨rfl, b2⟩; have B2 := hid (bl2 B1.out b2))
      | fail)
    go_ret
    exact ⟨rfl, B2.out⟩
  · have e0 : (l != 0) = true := bne_iff_ne.2 h0
    by_cases h1 : l < least
    · rw [if_pos ⟨h0, h1⟩] at hd
      rw [hd]
      unfold brk
      clear hd h0 h
      go_enter Tryz.func36, Tryz.ntmps36
      go_wp2_with (first
        | (go_at_call 33; with_reducible refine (L _).mono ?_; rintro r w1 ⟨rfl, b1⟩; have X1 := hid (X.out.below b1); have B1 := hid (bl2 (alB W _) b1); obtain ⟨x0, x1, x2, x3, x4, x5, x6, x7, x8, x9⟩ := X1.out.gc.get; simp only [Nat.zero_add] at x1 x2 x3 x4 x5 x6 x7 x8 x9)
        | (go_at_call 19; with_reducible refine (HP.out _ (HB.out.trans (B1.out.mono HB.out.size))).mono ?_; rintro r w2 ⟨rfl, b2⟩; have B2 := hid (bl2 B1.out b2))
        | fail)
      go_ret
      exact ⟨rfl, B2.out⟩
    · rw [if_neg (fun q => h1 q.2)] at hd
      rw [hd]
      clear hd h0 h
      go_enter Tryz.func36, Tryz.ntmps36
      go_wp2_with (first
        | (go_at_call 33; with_reducible refine (L _).mono ?_; rintro r w1 ⟨rfl, b1⟩; have X1 := hid (X.out.below b1); have B1 := hid (bl2 (alB W _) b1); obtain ⟨x0, x1, x2, x3, x4, x5, x6, x7, x8, x9⟩ := X1.out.gc.get; simp only [Nat.zero_add] at x1 x2 x3 x4 x5 x6 x7 x8 x9)
        | (go_at_call 19; with_reducible refine (HP.out _ (HB.out.trans (B1.out.mono HB.out.size))).mono ?_; rintro r w2 ⟨rfl, b2⟩; have B2 := hid (bl2 B1.out b2))
        | fail)
      go_ret
      exact ⟨rfl, B2.out⟩

/-- Elements, each with what Print answers of it. -/
def Elt (w0 : World) (b off : Nat) (xs : List Gx) (S : Nat → ByteArray) : Prop := ∀ i (h : i < xs.length), ∃ q c, GC w0 b (off + i * 10) xs[i] q c ∧ PrOk w0 xs[i] q c (S i)
def joinS (S : Nat → ByteArray) : Nat → ByteArray
  | 0 => ⟨#[]⟩
  | k + 1 => (if k = 0 then joinS S k else joinS S k ++ ⟨#[44, 32]⟩) ++ S k
def szJ (S : Nat → ByteArray) : Nat → Nat
  | 0 => 0
  | k + 1 => szJ S k + 2 + (S k).size
theorem joinS_size (S : Nat → ByteArray) : ∀ k, (joinS S k).size ≤ szJ S k
  | 0 => by show 0 ≤ 0; omega
  | k + 1 => by
    have ih := joinS_size S k
    simp only [joinS, szJ]
    rw [ByteArray.size_append]
    split
    · omega
    · rw [ByteArray.size_append]
      have : (⟨#[44, 32]⟩ : ByteArray).size = 2 := rfl
      omega
theorem szJ_le (S : Nat → ByteArray) {k n : Nat} (h : k ≤ n) : szJ S k ≤ szJ S n := by
  induction h with
  | refl => exact Nat.le_refl _
  | step _ ih => simp only [szJ]; omega
set_option maxHeartbeats 4000000 in
theorem list_ok {w0 : World} {b off : Nat} {xs : List Gx} {S : Nat → ByteArray} (hE : Elt w0 b off xs S) (hl : xs.length ≤ 1048576) (hz : szJ S xs.length ≤ 1000000000000000000) (c : Nat) (W : World) (hB : Below w0.heap.size w0 W) :
    Calls Tryz.prog 37 #[.slice (some ⟨b, off, none⟩) xs.length c] W fun r w' => r = .returned (.string (joinS S xs.length)) ∧ Below W.heap.size W w' := by
  have HE := hid hE
  have HB := hid hB
  go_enter Tryz.func37, Tryz.ntmps37
  go_wp2_with fail
  go_loopw [3, 4] (fun s i wr => ∃ k : Nat, k ≤ xs.length ∧ i = .int .i64 k ∧ s = .string (joinS S k) ∧ Below W.heap.size W wr) (fun s i _ => xs.length - (RowKit.intOf i).toNat)
  case atStart => exact ⟨0, Nat.zero_le _, rfl, rfl, Below.refl _ _⟩
  case round =>
    obtain ⟨k, hk, rfl, rfl, hb⟩ := hrel
    have HBr := hid hb
    by_cases hlt : k < xs.length
    · obtain ⟨q, cq, g, hp⟩ := HE.out k hlt
      unfold PrOk at hp
      have HP := hid hp
      have HBw := hid (HB.out.trans (hb.mono HB.out.size))
      obtain ⟨g0, g1, g2, g3, g4, g5, g6, g7, g8, g9⟩ := ((g.below HB.out).below hb).get
      have hgl := cell_lt g0
      have hkl : (k : Int) < (xs.length : Int) := by omega
      have hs := szJ_le S (Nat.succ_le_of_lt hlt)
      have hj := joinS_size S k
      have hjs : joinS S (k + 1) = (if k = 0 then joinS S k else joinS S k ++ ⟨#[44, 32]⟩) ++ S k := rfl
      simp only [szJ] at hs
      have HJ := hid hjs
      clear hjs g hp hb
      generalize hJe : joinS S k = J at *
      generalize xs[k] = x at *
      have hz0 : J.size + (⟨#[44, 32]⟩ : ByteArray).size ≤ 9223372036854775807 := by show J.size + 2 ≤ _; omega
      have hz1 : J.size + (S k).size ≤ 9223372036854775807 := by omega
      have hz2 : (J ++ (⟨#[44, 32]⟩ : ByteArray)).size + (S k).size ≤ 9223372036854775807 := by rw [ByteArray.size_append]; show J.size + 2 + _ ≤ _; omega
      by_cases h0 : k = 0
      · have hj0 := HJ.out
        rw [if_pos h0] at hj0
        have HJ0 := hid hj0
        have hkp : ¬ (0 : Int) < (k : Int) := by omega
        have hkd : decide ((0 : Int) < (k : Int)) = false := decide_eq_false hkp
        clear h0
        go_wp2_with (first
          | (go_at_call 19; with_reducible refine (HP.out _ HBw.out).mono ?_; rintro r w2 ⟨rfl, b2⟩; have B2 := hid (HBr.out.trans (b2.mono HBr.out.size)))
          | fail)
        go_roundw
        case rel => exact ⟨k + 1, by omega, by go_num, by rw [HJ0.out], B2.out⟩
        case measure => simp [RowKit.intOf]; omega
      · have hj0 := HJ.out
        rw [if_neg h0] at hj0
        have HJ0 := hid hj0
        have hkp : (0 : Int) < (k : Int) := by omega
        go_wp2_with (first
          | (go_at_call 19; with_reducible refine (HP.out _ HBw.out).mono ?_; rintro r w2 ⟨rfl, b2⟩; have B2 := hid (HBr.out.trans (b2.mono HBr.out.size)))
          | fail)
        go_roundw
        case rel => exact ⟨k + 1, by omega, by go_num, by rw [HJ0.out], B2.out⟩
        case measure => simp [RowKit.intOf]; omega
    · have hkz : ¬ (k : Int) < (xs.length : Int) := by omega
      obtain rfl : k = xs.length := by omega
      go_wp2
      go_ret
      exact ⟨rfl, HBr.out⟩
end Go.Proofs.YtblkhlhhlalbkaaGreatDoor
namespace Go.Proofs.YtblkhlhhlalbkaaGreatDoor
open Go.RowKit Go.Lib Go.Sort
set_option linter.unusedVariables false
set_option linter.unusedSimpArgs false
set_option maxRecDepth 20000

theorem bdr {w w' : World} (b : Below w.drew.heap.size w.drew w') : Below w.heap.size w w' := (Below.refl _ _).drew.trans b
theorem alD (w : World) (o : Obj) : Below w.heap.size w (w.alloc o).drew := (alB w o).drew
theorem sz32 : (⟨#[32]⟩ : ByteArray).size = 1 := rfl
theorem sz46 : (⟨#[46]⟩ : ByteArray).size = 1 := rfl
theorem sz40 : (⟨#[40]⟩ : ByteArray).size = 1 := rfl
theorem sz41 : (⟨#[41]⟩ : ByteArray).size = 1 := rfl
theorem toL_size (t : List UInt8) : (⟨t.toArray⟩ : ByteArray).size = t.length := by simp [ByteArray.size]
set_option maxHeartbeats 8000000 in
theorem prn_none (k : Int) (op vk vn cc y : Int) (vs : ByteArray) (t n : List UInt8) (xs : List Gx) (p : Option Addr) (c : Nat) (w0 : World) (h0 : lvR k op xs.length = 0) :
    PrOk w0 ⟨k, op, ⟨vk, vn, vs⟩, t, n, cc, y, xs⟩ p c (⟨#[]⟩) := by
  unfold PrOk
  intro W hB
  have L := fun w => level_anyR op vk vn cc y k vs ⟨t.toArray⟩ ⟨n.toArray⟩ p xs.length c w
  rw [h0] at L
  have X := hid (BGx.new W ⟨k, op, ⟨vk, vn, vs⟩, t, n, cc, y, xs⟩ p c)
  have HB := hid hB
  obtain ⟨x0, x1, x2, x3, x4, x5, x6, x7, x8, x9⟩ := X.out.gc.get
  simp only [Nat.zero_add] at x1 x2 x3 x4 x5 x6 x7 x8 x9
  go_enter Tryz.func19, Tryz.ntmps19
  go_wp2_with (first
    | (go_at_call 33; with_reducible refine (L _).mono ?_; rintro r w1 ⟨rfl, b1⟩; have X1 := hid (X.out.below b1); have B1 := hid (bl2 (alB W _) b1); obtain ⟨x0, x1, x2, x3, x4, x5, x6, x7, x8, x9⟩ := X1.out.gc.get; simp only [Nat.zero_add] at x1 x2 x3 x4 x5 x6 x7 x8 x9)
    | fail)
  go_ret
  exact ⟨rfl, B1.out⟩
set_option maxHeartbeats 8000000 in
theorem prn_lit (op vk vn cc y : Int) (vs : ByteArray) (t n : List UInt8) (xs : List Gx) (p : Option Addr) (c : Nat) (w0 : World) (h0 : lvR 1 op xs.length ≠ 0) (hs : vs.size ≤ 2147483648) (hn : inR vn) :
    PrOk w0 ⟨1, op, ⟨vk, vn, vs⟩, t, n, cc, y, xs⟩ p c (⟨(litV ⟨vk, vn, vs⟩).toArray⟩) := by
  unfold PrOk
  intro W hB
  have L := fun w => level_anyR op vk vn cc y 1 vs ⟨t.toArray⟩ ⟨n.toArray⟩ p xs.length c w
  have hr := lvR_range 1 op xs.length
  generalize lvR 1 op xs.length = l at *
  have X := hid (BGx.new W ⟨1, op, ⟨vk, vn, vs⟩, t, n, cc, y, xs⟩ p c)
  have HB := hid hB
  obtain ⟨x0, x1, x2, x3, x4, x5, x6, x7, x8, x9⟩ := X.out.gc.get
  simp only [Nat.zero_add] at x1 x2 x3 x4 x5 x6 x7 x8 x9
  go_enter Tryz.func19, Tryz.ntmps19
  have e0 : (l == 0) = false := beq_eq_false_iff_ne.2 h0
  have LT := fun w => refLit_any ⟨vk, vn, vs⟩ w hs hn.1 hn.2
  generalize litV ⟨vk, vn, vs⟩ = lt at *
  unfold Val.v at LT
  simp only [] at LT
  clear hs hn h0
  go_wp2_with (first
    | (go_at_call 33; with_reducible refine (L _).mono ?_; rintro r w1 ⟨rfl, b1⟩; have X1 := hid (X.out.below b1); have B1 := hid (bl2 (alB W _) b1); obtain ⟨x0, x1, x2, x3, x4, x5, x6, x7, x8, x9⟩ := X1.out.gc.get; simp only [Nat.zero_add] at x1 x2 x3 x4 x5 x6 x7 x8 x9)
    | (go_at_call 34; with_reducible refine (LT _).mono ?_; rintro r w2 ⟨rfl, b2⟩)
    | fail)
  go_ret
  exact ⟨rfl, bl2 B1.out b2⟩
set_option maxHeartbeats 8000000 in
theorem prn_col (op vk vn cc y : Int) (vs : ByteArray) (t n : List UInt8) (xs : List Gx) (p : Option Addr) (c : Nat) (w0 : World) (h0 : lvR 2 op xs.length ≠ 0) (ht : t.length ≤ 2147483648) (hn : n.length ≤ 2147483648) :
    PrOk w0 ⟨2, op, ⟨vk, vn, vs⟩, t, n, cc, y, xs⟩ p c (if t.isEmpty then ⟨n.toArray⟩ else (⟨t.toArray⟩ ++ ⟨#[46]⟩) ++ ⟨n.toArray⟩) := by
  unfold PrOk
  intro W hB
  have L := fun w => level_anyR op vk vn cc y 2 vs ⟨t.toArray⟩ ⟨n.toArray⟩ p xs.length c w
  have hr := lvR_range 2 op xs.length
  generalize lvR 2 op xs.length = l at *
  have X := hid (BGx.new W ⟨2, op, ⟨vk, vn, vs⟩, t, n, cc, y, xs⟩ p c)
  have HB := hid hB
  obtain ⟨x0, x1, x2, x3, x4, x5, x6, x7, x8, x9⟩ := X.out.gc.get
  simp only [Nat.zero_add] at x1 x2 x3 x4 x5 x6 x7 x8 x9
  go_enter Tryz.func19, Tryz.ntmps19
  have e0 : (l == 0) = false := beq_eq_false_iff_ne.2 h0
  have z1 := toL_size t
  have z2 := toL_size n
  have hz1 : (⟨t.toArray⟩ : ByteArray).size + (⟨#[46]⟩ : ByteArray).size ≤ 9223372036854775807 := by rw [sz46]; omega
  have hz2 : ((⟨t.toArray⟩ : ByteArray) ++ (⟨#[46]⟩ : ByteArray)).size + (⟨n.toArray⟩ : ByteArray).size ≤ 9223372036854775807 := by rw [ByteArray.size_append, sz46]; omega
  have hte : (⟨t.toArray⟩ : ByteArray).toList.isEmpty = t.isEmpty := by rw [ByteArray.toList_eq]
  clear h0
  cases ht' : t.isEmpty
  · rw [ht'] at hte
    go_wp2_with (first
      | (go_at_call 33; with_reducible refine (L _).mono ?_; rintro r w1 ⟨rfl, b1⟩; have X1 := hid (X.out.below b1); have B1 := hid (bl2 (alB W _) b1); obtain ⟨x0, x1, x2, x3, x4, x5, x6, x7, x8, x9⟩ := X1.out.gc.get; simp only [Nat.zero_add] at x1 x2 x3 x4 x5 x6 x7 x8 x9)
      | fail)
    go_ret
    exact ⟨rfl, B1.out⟩
  · rw [ht'] at hte
    go_wp2_with (first
      | (go_at_call 33; with_reducible refine (L _).mono ?_; rintro r w1 ⟨rfl, b1⟩; have X1 := hid (X.out.below b1); have B1 := hid (bl2 (alB W _) b1); obtain ⟨x0, x1, x2, x3, x4, x5, x6, x7, x8, x9⟩ := X1.out.gc.get; simp only [Nat.zero_add] at x1 x2 x3 x4 x5 x6 x7 x8 x9)
      | fail)
    go_ret
    exact ⟨rfl, B1.out⟩
set_option maxHeartbeats 8000000 in
theorem prn_un (op vk vn cc y : Int) (vs : ByteArray) (t n : List UInt8) (xs : List Gx) (p : Option Addr) (c : Nat) (w0 : World) (h0 : lvR 3 op xs.length ≠ 0) (b off : Nat) (S : Nat → ByteArray) (hp : p = some ⟨b, off, none⟩) (hE : Elt w0 b off xs S) (h1 : xs.length = 1) (sg : ByteArray) (hg3 : sg.size ≤ 3) (SG : ∀ w, Calls Tryz.prog 35 #[.int .i64 op] w fun r w' => r = .returned (.string sg) ∧ Below w.heap.size w w') (hsa : (S 0).size ≤ 100000000000000000) (H0 : 0 < xs.length) :
    PrOk w0 ⟨3, op, ⟨vk, vn, vs⟩, t, n, cc, y, xs⟩ p c ((sg ++ ⟨#[32]⟩) ++ opdS (xs[0]'H0) (S 0) (lvR 3 op xs.length)) := by
  unfold PrOk
  intro W hB
  have L := fun w => level_anyR op vk vn cc y 3 vs ⟨t.toArray⟩ ⟨n.toArray⟩ p xs.length c w
  have hr := lvR_range 3 op xs.length
  generalize lvR 3 op xs.length = l at *
  have X := hid (BGx.new W ⟨3, op, ⟨vk, vn, vs⟩, t, n, cc, y, xs⟩ p c)
  have HB := hid hB
  obtain ⟨x0, x1, x2, x3, x4, x5, x6, x7, x8, x9⟩ := X.out.gc.get
  simp only [Nat.zero_add] at x1 x2 x3 x4 x5 x6 x7 x8 x9
  go_enter Tryz.func19, Tryz.ntmps19
  have e0 : (l == 0) = false := beq_eq_false_iff_ne.2 h0
  clear h1
  subst hp
  have hxl : (0 : Int) < (xs.length : Int) := by omega
  obtain ⟨qa, ca, ga, hqa⟩ := hE 0 H0
  have hsz := opdS_size xs[0] (S 0) l
  generalize xs[0] = xa at *
  have OPa := hid (fun (l : Int) W' (hW : Below w0.heap.size w0 W') => operand_ok hqa (Nat.le_trans hsa (by decide)) l W' hW)
  have SGh := hid SG
  have hz1 : sg.size + (⟨#[32]⟩ : ByteArray).size ≤ 9223372036854775807 := by rw [sz32]; omega
  have hz2 : (sg ++ (⟨#[32]⟩ : ByteArray)).size + (opdS xa (S 0) l).size ≤ 9223372036854775807 := by rw [ByteArray.size_append, sz32]; omega
  generalize opdS xa (S 0) = od at *
  clear h0 hE SG
  go_upto_region 12 with (first
    | (go_at_call 33; with_reducible refine (L _).mono ?_; rintro r w1 ⟨rfl, b1⟩; have X1 := hid (X.out.below b1); have B1 := hid (bl2 (alB W _) b1); obtain ⟨x0, x1, x2, x3, x4, x5, x6, x7, x8, x9⟩ := X1.out.gc.get; simp only [Nat.zero_add] at x1 x2 x3 x4 x5 x6 x7 x8 x9)
    | fail)
  obtain ⟨ga0, ga1, ga2, ga3, ga4, ga5, ga6, ga7, ga8, ga9⟩ := (ga.below (HB.out.trans (B1.out.mono HB.out.size))).get
  simp only [Nat.zero_mul, Nat.add_zero] at ga0 ga1 ga2 ga3 ga4 ga5 ga6 ga7 ga8 ga9
  have HS := hid (fun W' (B : Below w1.heap.size w1 W') => (And.intro (below_cell B x1) (And.intro (below_cell B x9) (And.intro (below_cell B ga0) (And.intro (below_cell B ga1) (And.intro (below_cell B ga2) (And.intro (below_cell B ga3) (And.intro (below_cell B ga4) (And.intro (below_cell B ga5) (And.intro (below_cell B ga6) (And.intro (below_cell B ga7) (And.intro (below_cell B ga8) (below_cell B ga9)))))))))))))
  have hgl := cell_lt ga0
  have hxb := cell_lt x1
  go_region_held_law (fun W' => W'.cell? ⟨W.heap.size, 1, none⟩ = some (.int .i64 op) ∧ W'.cell? ⟨W.heap.size, 9, none⟩ = some (.slice (some ⟨b, off, none⟩) xs.length c) ∧ W'.cell? ⟨b, off, none⟩ = some (.int .i64 xa.k) ∧ W'.cell? ⟨b, off + 1, none⟩ = some (.int .i64 xa.op) ∧ W'.cell? ⟨b, off + 2, none⟩ = some (.int .i64 xa.v.k) ∧ W'.cell? ⟨b, off + 3, none⟩ = some (.int .i64 xa.v.n) ∧ W'.cell? ⟨b, off + 4, none⟩ = some (.string xa.v.s) ∧ W'.cell? ⟨b, off + 5, none⟩ = some (.string ⟨xa.t.toArray⟩) ∧ W'.cell? ⟨b, off + 6, none⟩ = some (.string ⟨xa.n.toArray⟩) ∧ W'.cell? ⟨b, off + 7, none⟩ = some (.int .i64 xa.c) ∧ W'.cell? ⟨b, off + 8, none⟩ = some (.int .i64 xa.y) ∧ W'.cell? ⟨b, off + 9, none⟩ = some (.slice qa xa.xs.length ca))
    (with_reducible first | exact HS.out _ (Below.refl _ _) | exact HS.out _ (Below.refl _ _).drew | exact HS.out _ B3.out | exact HS.out _ B4.out | fail)
    (first
      | (go_at_call 35; with_reducible refine (SGh.out _).mono ?_; rintro r w3 ⟨rfl, b3⟩; have B3 := hid (bdr b3); have B3' := hid (bl2 B1.out B3.out))
      | (go_at_call 36; with_reducible refine (OPa.out _ _ (HB.out.trans (B3'.out.mono HB.out.size))).mono ?_; rintro r w4 ⟨rfl, b4⟩; have B4 := hid (bl2 B3.out b4); have B4' := hid (bl2 B3'.out b4))
      | fail)
  all_goals
    go_wp2_with fail
    go_ret
    exact ⟨rfl, B4'.out⟩
set_option maxHeartbeats 8000000 in
theorem prn_null (op vk vn cc y : Int) (vs : ByteArray) (t n : List UInt8) (xs : List Gx) (p : Option Addr) (c : Nat) (w0 : World) (h0 : lvR 7 op xs.length ≠ 0) (b off : Nat) (S : Nat → ByteArray) (hp : p = some ⟨b, off, none⟩) (hE : Elt w0 b off xs S) (h1 : xs.length = 1) (hsa : (S 0).size ≤ 100000000000000000) (H0 : 0 < xs.length) :
    PrOk w0 ⟨7, op, ⟨vk, vn, vs⟩, t, n, cc, y, xs⟩ p c (if op = 1 then opdS (xs[0]'H0) (S 0) 5 ++ ⟨#[32, 73, 83, 32, 78, 79, 84, 32, 78, 85, 76, 76]⟩ else opdS (xs[0]'H0) (S 0) 5 ++ ⟨#[32, 73, 83, 32, 78, 85, 76, 76]⟩) := by
  unfold PrOk
  intro W hB
  have L := fun w => level_anyR op vk vn cc y 7 vs ⟨t.toArray⟩ ⟨n.toArray⟩ p xs.length c w
  have hr := lvR_range 7 op xs.length
  generalize lvR 7 op xs.length = l at *
  have X := hid (BGx.new W ⟨7, op, ⟨vk, vn, vs⟩, t, n, cc, y, xs⟩ p c)
  have HB := hid hB
  obtain ⟨x0, x1, x2, x3, x4, x5, x6, x7, x8, x9⟩ := X.out.gc.get
  simp only [Nat.zero_add] at x1 x2 x3 x4 x5 x6 x7 x8 x9
  go_enter Tryz.func19, Tryz.ntmps19
  have e0 : (l == 0) = false := beq_eq_false_iff_ne.2 h0
  clear h1
  subst hp
  have hxl : (0 : Int) < (xs.length : Int) := by omega
  obtain ⟨qa, ca, ga, hqa⟩ := hE 0 H0
  have hsz := opdS_size xs[0] (S 0) 5
  generalize xs[0] = xa at *
  have OPa := hid (fun (l : Int) W' (hW : Below w0.heap.size w0 W') => operand_ok hqa (Nat.le_trans hsa (by decide)) l W' hW)
  have hz1 : (opdS xa (S 0) 5).size + (⟨#[32, 73, 83, 32, 78, 79, 84, 32, 78, 85, 76, 76]⟩ : ByteArray).size ≤ 9223372036854775807 := by show _ + 12 ≤ _; omega
  have hz2 : (opdS xa (S 0) 5).size + (⟨#[32, 73, 83, 32, 78, 85, 76, 76]⟩ : ByteArray).size ≤ 9223372036854775807 := by show _ + 8 ≤ _; omega
  generalize opdS xa (S 0) = od at *
  clear h0 hE
  by_cases ho : op = 1
  · subst ho
    rw [if_pos rfl]
    go_wp2_with (first
      | (go_at_call 33; with_reducible refine (L _).mono ?_; rintro r w1 ⟨rfl, b1⟩; have X1 := hid (X.out.below b1); have B1 := hid (bl2 (alB W _) b1); obtain ⟨x0, x1, x2, x3, x4, x5, x6, x7, x8, x9⟩ := X1.out.gc.get; simp only [Nat.zero_add] at x1 x2 x3 x4 x5 x6 x7 x8 x9; obtain ⟨ga0, ga1, ga2, ga3, ga4, ga5, ga6, ga7, ga8, ga9⟩ := (ga.below (HB.out.trans (B1.out.mono HB.out.size))).get; simp only [Nat.zero_mul, Nat.add_zero] at ga0 ga1 ga2 ga3 ga4 ga5 ga6 ga7 ga8 ga9; have hgl := cell_lt ga0)
      | (go_at_call 36; with_reducible refine (OPa.out _ _ (HB.out.trans (B1.out.mono HB.out.size))).mono ?_; rintro r w4 ⟨rfl, b4⟩; have B4' := hid (bl2 B1.out b4))
      | fail)
    go_ret
    exact ⟨rfl, B4'.out⟩
  · have eo : (op == 1) = false := beq_eq_false_iff_ne.2 ho
    rw [if_neg ho]
    go_wp2_with (first
      | (go_at_call 33; with_reducible refine (L _).mono ?_; rintro r w1 ⟨rfl, b1⟩; have X1 := hid (X.out.below b1); have B1 := hid (bl2 (alB W _) b1); obtain ⟨x0, x1, x2, x3, x4, x5, x6, x7, x8, x9⟩ := X1.out.gc.get; simp only [Nat.zero_add] at x1 x2 x3 x4 x5 x6 x7 x8 x9; obtain ⟨ga0, ga1, ga2, ga3, ga4, ga5, ga6, ga7, ga8, ga9⟩ := (ga.below (HB.out.trans (B1.out.mono HB.out.size))).get; simp only [Nat.zero_mul, Nat.add_zero] at ga0 ga1 ga2 ga3 ga4 ga5 ga6 ga7 ga8 ga9; have hgl := cell_lt ga0)
      | (go_at_call 36; with_reducible refine (OPa.out _ _ (HB.out.trans (B1.out.mono HB.out.size))).mono ?_; rintro r w4 ⟨rfl, b4⟩; have B4' := hid (bl2 B1.out b4))
      | fail)
    go_ret
    exact ⟨rfl, B4'.out⟩
end Go.Proofs.YtblkhlhhlalbkaaGreatDoor
