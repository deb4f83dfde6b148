/- What value.Check answers: 5 where the kind is none, 3 where a field is set that the kind does not name, else 0. No conditions. What the document's own Check answers: the same as value.Check. No conditions. -/
import Derived.Test.YtblkhlhhlalbkaaGreatDoorValWalks
import Derived.Deep.QuietTactic
import Derived.BigQuiet
import Derived.Lib.QuietBelow
namespace Go.Proofs.YtblkhlhhlalbkaaGreatDoor
open Go.RowKit Go.Lib Go.Sort
set_option linter.unusedVariables false
set_option maxRecDepth 20000

/-- The value with just the fields that its kind names. -/
def Val.named (a : Val) : Val :=
  if a.k = 1 ∨ a.k = 2 then ⟨a.k, a.n, ⟨#[]⟩⟩ else if a.k = 3 ∨ a.k = 4 then ⟨a.k, 0, a.s⟩ else ⟨a.k, 0, ⟨#[]⟩⟩

set_option maxHeartbeats 400000 in
theorem named_any (a : Val) (w : World) :
    Calls Tryz.prog 180 #[a.v] w fun e w' => e = .returned a.named.v ∧ Below w.heap.size w w' := by
  obtain ⟨k, n, s⟩ := a
  unfold Val.v
  by_cases h12 : k = 1 ∨ k = 2
  · rw [show (⟨k, n, s⟩ : Val).named = ⟨k, n, ⟨#[]⟩⟩ from if_pos h12]
    rcases h12 with rfl | rfl
    all_goals
      go_enter Tryz.func180, Tryz.ntmps180
      go_wp2
      go_returns
      exact ⟨rfl, by go_grown⟩
  · by_cases h34 : k = 3 ∨ k = 4
    · rw [show (⟨k, n, s⟩ : Val).named = ⟨k, 0, s⟩ from (if_neg h12).trans (if_pos h34)]
      clear h12
      rcases h34 with rfl | rfl
      all_goals
        go_enter Tryz.func180, Tryz.ntmps180
        go_wp2
        go_returns
        exact ⟨rfl, by go_grown⟩
    · rw [show (⟨k, n, s⟩ : Val).named = ⟨k, 0, ⟨#[]⟩⟩ from (if_neg h12).trans (if_neg h34)]
      have e1 : (k == 1) = false := beq_eq_false_iff_ne.2 (by omega)
      have e2 : (k == 2) = false := beq_eq_false_iff_ne.2 (by omega)
      have e3 : (k == 3) = false := beq_eq_false_iff_ne.2 (by omega)
      have e4 : (k == 4) = false := beq_eq_false_iff_ne.2 (by omega)
      clear h12 h34
      go_enter Tryz.func180, Tryz.ntmps180
      go_wp2
      go_returns
      exact ⟨rfl, by go_grown⟩

/-- Is it a right value (1.1)? -/
def Val.right (a : Val) : Bool :=
  (a.k == 0 && a.n == 0 && a.s.data.toList.isEmpty) || (a.k == 1 && (a.n == 0 || a.n == 1) && a.s.data.toList.isEmpty) || (a.k == 2 && a.s.data.toList.isEmpty) || ((a.k == 3 || a.k == 4) && a.n == 0)
def checkV (a : Val) : Int := if a.k < 0 ∨ 4 < a.k then 5 else if a.right then 0 else 3

theorem checkV_out {a : Val} (h : a.k < 0 ∨ 4 < a.k) : checkV a = 5 := if_pos h
theorem checkV_in {a : Val} (h : ¬ (a.k < 0 ∨ 4 < a.k)) (b : Bool) (hr : a.right = b) : checkV a = if b then 0 else 3 := by subst hr; exact if_neg h

set_option maxHeartbeats 1000000 in
theorem check_out (a : Val) (w : World) (hk : a.k < 0 ∨ 4 < a.k) :
    Calls Tryz.prog 150 #[a.v] w fun e w' => e = .returned (.int .i64 (checkV a)) ∧ Below w.heap.size w w' := by
  rw [checkV_out hk]
  obtain ⟨k, n, s⟩ := a
  unfold Val.v
  simp only [] at hk
  rcases hk with hk | hk
  all_goals
    go_enter Tryz.func150, Tryz.ntmps150
    go_wp2
    go_ret
    exact ⟨rfl, by go_grown⟩

set_option maxHeartbeats 1000000 in
theorem check_0ok (w : World) :
    Calls Tryz.prog 150 #[.agg #[.int .i64 0, .int .i64 0, .string ⟨⟨[]⟩⟩]] w fun e w' => e = .returned (.int .i64 0) ∧ Below w.heap.size w w' := by
  have CN : Hid (∀ (w : World) (d : Nat) (os : Array Obj), Calls Tryz.prog 180 #[.agg #[.int .i64 0, .int .i64 0, .string ⟨⟨[]⟩⟩]] (grow (redrawn w d) os) fun e w'' => e = .returned (.agg #[.int .i64 0, .int .i64 0, .string ⟨⟨[]⟩⟩]) ∧ ∃ p : Regrown, w'' = grow (redrawn w p.d) p.os) :=
    fun w d os => Calls.regrown_of (named_any ⟨0, 0, ⟨⟨[]⟩⟩⟩ _)
  have x0 := fun (w : World) => cell_regrown (w := w.alloc (.cells #[.int .i64 0, .int .i64 0, .string ⟨⟨[]⟩⟩] 23)) (a := ⟨w.heap.size, 0, none⟩) (v := .int .i64 0) (by go_simp)
  have x1 := fun (w : World) => cell_regrown (w := w.alloc (.cells #[.int .i64 0, .int .i64 0, .string ⟨⟨[]⟩⟩] 23)) (a := ⟨w.heap.size, 1, none⟩) (v := .int .i64 0) (by go_simp)
  have x2 := fun (w : World) => cell_regrown (w := w.alloc (.cells #[.int .i64 0, .int .i64 0, .string ⟨⟨[]⟩⟩] 23)) (a := ⟨w.heap.size, 2, none⟩) (v := .string ⟨⟨[]⟩⟩) (by go_simp)
  go_enter Tryz.func150, Tryz.ntmps150
  go_wp2
  refine wp_region_quiet_below (by kernel_rfl) (by kernel_rfl) ?_
  repeat (first | go_big_quiet_step (exact CN.out _ _ _) | quiet_step (exact CN.out _ _ _))
  refine wpQuiet_nil ?_
  intro _ hw'
  obtain ⟨⟨dq, osq⟩, hw''⟩ := hw'
  subst hw''
  go_wp2
  go_ret
  exact ⟨rfl, (show Below w.heap.size w (w.alloc _) by go_grown).trans ((below_regrown _ dq osq).mono (by simp))⟩

set_option maxHeartbeats 1000000 in
theorem check_0s (c : UInt8) (l : List UInt8) (w : World) :
    Calls Tryz.prog 150 #[.agg #[.int .i64 0, .int .i64 0, .string ⟨⟨c :: l⟩⟩]] w fun e w' => e = .returned (.int .i64 3) ∧ Below w.heap.size w w' := by
  have CN : Hid (∀ (w : World) (d : Nat) (os : Array Obj), Calls Tryz.prog 180 #[.agg #[.int .i64 0, .int .i64 0, .string ⟨⟨c :: l⟩⟩]] (grow (redrawn w d) os) fun e w'' => e = .returned (.agg #[.int .i64 0, .int .i64 0, .string ⟨⟨[]⟩⟩]) ∧ ∃ p : Regrown, w'' = grow (redrawn w p.d) p.os) :=
    fun w d os => Calls.regrown_of (named_any ⟨0, 0, ⟨⟨c :: l⟩⟩⟩ _)
  have x0 := fun (w : World) => cell_regrown (w := w.alloc (.cells #[.int .i64 0, .int .i64 0, .string ⟨⟨c :: l⟩⟩] 23)) (a := ⟨w.heap.size, 0, none⟩) (v := .int .i64 0) (by go_simp)
  have x1 := fun (w : World) => cell_regrown (w := w.alloc (.cells #[.int .i64 0, .int .i64 0, .string ⟨⟨c :: l⟩⟩] 23)) (a := ⟨w.heap.size, 1, none⟩) (v := .int .i64 0) (by go_simp)
  have x2 := fun (w : World) => cell_regrown (w := w.alloc (.cells #[.int .i64 0, .int .i64 0, .string ⟨⟨c :: l⟩⟩] 23)) (a := ⟨w.heap.size, 2, none⟩) (v := .string ⟨⟨c :: l⟩⟩) (by go_simp)
  go_enter Tryz.func150, Tryz.ntmps150
  go_wp2
  refine wp_region_quiet_below (by kernel_rfl) (by kernel_rfl) ?_
  repeat (first | go_big_quiet_step (exact CN.out _ _ _) | quiet_step (exact CN.out _ _ _))
  refine wpQuiet_nil ?_
  intro _ hw'
  obtain ⟨⟨dq, osq⟩, hw''⟩ := hw'
  subst hw''
  go_wp2
  go_ret
  exact ⟨rfl, (show Below w.heap.size w (w.alloc _) by go_grown).trans ((below_regrown _ dq osq).mono (by simp))⟩

set_option maxHeartbeats 1000000 in
theorem check_0n (n : Int) (s : ByteArray) (w : World) (hn : (n == 0) = false) :
    Calls Tryz.prog 150 #[.agg #[.int .i64 0, .int .i64 n, .string s]] w fun e w' => e = .returned (.int .i64 3) ∧ Below w.heap.size w w' := by
  have CN : Hid (∀ (w : World) (d : Nat) (os : Array Obj), Calls Tryz.prog 180 #[.agg #[.int .i64 0, .int .i64 n, .string s]] (grow (redrawn w d) os) fun e w'' => e = .returned (.agg #[.int .i64 0, .int .i64 0, .string ⟨⟨[]⟩⟩]) ∧ ∃ p : Regrown, w'' = grow (redrawn w p.d) p.os) :=
    fun w d os => Calls.regrown_of (named_any ⟨0, n, s⟩ _)
  have x0 := fun (w : World) => cell_regrown (w := w.alloc (.cells #[.int .i64 0, .int .i64 n, .string s] 23)) (a := ⟨w.heap.size, 0, none⟩) (v := .int .i64 0) (by go_simp)
  have x1 := fun (w : World) => cell_regrown (w := w.alloc (.cells #[.int .i64 0, .int .i64 n, .string s] 23)) (a := ⟨w.heap.size, 1, none⟩) (v := .int .i64 n) (by go_simp)
  have x2 := fun (w : World) => cell_regrown (w := w.alloc (.cells #[.int .i64 0, .int .i64 n, .string s] 23)) (a := ⟨w.heap.size, 2, none⟩) (v := .string s) (by go_simp)
  go_enter Tryz.func150, Tryz.ntmps150
  go_wp2
  refine wp_region_quiet_below (by kernel_rfl) (by kernel_rfl) ?_
  repeat (first | go_big_quiet_step (exact CN.out _ _ _) | quiet_step (exact CN.out _ _ _))
  refine wpQuiet_nil ?_
  intro _ hw'
  obtain ⟨⟨dq, osq⟩, hw''⟩ := hw'
  subst hw''
  go_wp2
  go_ret
  exact ⟨rfl, (show Below w.heap.size w (w.alloc _) by go_grown).trans ((below_regrown _ dq osq).mono (by simp))⟩

set_option maxHeartbeats 1000000 in
theorem check_1ok0 (w : World) :
    Calls Tryz.prog 150 #[.agg #[.int .i64 1, .int .i64 0, .string ⟨⟨[]⟩⟩]] w fun e w' => e = .returned (.int .i64 0) ∧ Below w.heap.size w w' := by
  have CN : Hid (∀ (w : World) (d : Nat) (os : Array Obj), Calls Tryz.prog 180 #[.agg #[.int .i64 1, .int .i64 0, .string ⟨⟨[]⟩⟩]] (grow (redrawn w d) os) fun e w'' => e = .returned (.agg #[.int .i64 1, .int .i64 0, .string ⟨⟨[]⟩⟩]) ∧ ∃ p : Regrown, w'' = grow (redrawn w p.d) p.os) :=
    fun w d os => Calls.regrown_of (named_any ⟨1, 0, ⟨⟨[]⟩⟩⟩ _)
  have x0 := fun (w : World) => cell_regrown (w := w.alloc (.cells #[.int .i64 1, .int .i64 0, .string ⟨⟨[]⟩⟩] 23)) (a := ⟨w.heap.size, 0, none⟩) (v := .int .i64 1) (by go_simp)
  have x1 := fun (w : World) => cell_regrown (w := w.alloc (.cells #[.int .i64 1, .int .i64 0, .string ⟨⟨[]⟩⟩] 23)) (a := ⟨w.heap.size, 1, none⟩) (v := .int .i64 0) (by go_simp)
  have x2 := fun (w : World) => cell_regrown (w := w.alloc (.cells #[.int .i64 1, .int .i64 0, .string ⟨⟨[]⟩⟩] 23)) (a := ⟨w.heap.size, 2, none⟩) (v := .string ⟨⟨[]⟩⟩) (by go_simp)
  go_enter Tryz.func150, Tryz.ntmps150
  go_wp2
  refine wp_region_quiet_below (by kernel_rfl) (by kernel_rfl) ?_
  repeat (first | go_big_quiet_step (exact CN.out _ _ _) | quiet_step (exact CN.out _ _ _))
  refine wpQuiet_nil ?_
  intro _ hw'
  obtain ⟨⟨dq, osq⟩, hw''⟩ := hw'
  subst hw''
  go_wp2
  go_ret
  exact ⟨rfl, (show Below w.heap.size w (w.alloc _) by go_grown).trans ((below_regrown _ dq osq).mono (by simp))⟩

set_option maxHeartbeats 1000000 in
theorem check_1ok1 (w : World) :
    Calls Tryz.prog 150 #[.agg #[.int .i64 1, .int .i64 1, .string ⟨⟨[]⟩⟩]] w fun e w' => e = .returned (.int .i64 0) ∧ Below w.heap.size w w' := by
  have CN : Hid (∀ (w : World) (d : Nat) (os : Array Obj), Calls Tryz.prog 180 #[.agg #[.int .i64 1, .int .i64 1, .string ⟨⟨[]⟩⟩]] (grow (redrawn w d) os) fun e w'' => e = .returned (.agg #[.int .i64 1, .int .i64 1, .string ⟨⟨[]⟩⟩]) ∧ ∃ p : Regrown, w'' = grow (redrawn w p.d) p.os) :=
    fun w d os => Calls.regrown_of (named_any ⟨1, 1, ⟨⟨[]⟩⟩⟩ _)
  have x0 := fun (w : World) => cell_regrown (w := w.alloc (.cells #[.int .i64 1, .int .i64 1, .string ⟨⟨[]⟩⟩] 23)) (a := ⟨w.heap.size, 0, none⟩) (v := .int .i64 1) (by go_simp)
  have x1 := fun (w : World) => cell_regrown (w := w.alloc (.cells #[.int .i64 1, .int .i64 1, .string ⟨⟨[]⟩⟩] 23)) (a := ⟨w.heap.size, 1, none⟩) (v := .int .i64 1) (by go_simp)
  have x2 := fun (w : World) => cell_regrown (w := w.alloc (.cells #[.int .i64 1, .int .i64 1, .string ⟨⟨[]⟩⟩] 23)) (a := ⟨w.heap.size, 2, none⟩) (v := .string ⟨⟨[]⟩⟩) (by go_simp)
  go_enter Tryz.func150, Tryz.ntmps150
  go_wp2
  refine wp_region_quiet_below (by kernel_rfl) (by kernel_rfl) ?_
  repeat (first | go_big_quiet_step (exact CN.out _ _ _) | quiet_step (exact CN.out _ _ _))
  refine wpQuiet_nil ?_
  intro _ hw'
  obtain ⟨⟨dq, osq⟩, hw''⟩ := hw'
  subst hw''
  go_wp2
  go_ret
  exact ⟨rfl, (show Below w.heap.size w (w.alloc _) by go_grown).trans ((below_regrown _ dq osq).mono (by simp))⟩

set_option maxHeartbeats 1000000 in
theorem check_1s (c : UInt8) (l : List UInt8) (n : Int) (w : World) :
    Calls Tryz.prog 150 #[.agg #[.int .i64 1, .int .i64 n, .string ⟨⟨c :: l⟩⟩]] w fun e w' => e = .returned (.int .i64 3) ∧ Below w.heap.size w w' := by
  have CN : Hid (∀ (w : World) (d : Nat) (os : Array Obj), Calls Tryz.prog 180 #[.agg #[.int .i64 1, .int .i64 n, .string ⟨⟨c :: l⟩⟩]] (grow (redrawn w d) os) fun e w'' => e = .returned (.agg #[.int .i64 1, .int .i64 n, .string ⟨⟨[]⟩⟩]) ∧ ∃ p : Regrown, w'' = grow (redrawn w p.d) p.os) :=
    fun w d os => Calls.regrown_of (named_any ⟨1, n, ⟨⟨c :: l⟩⟩⟩ _)
  have x0 := fun (w : World) => cell_regrown (w := w.alloc (.cells #[.int .i64 1, .int .i64 n, .string ⟨⟨c :: l⟩⟩] 23)) (a := ⟨w.heap.size, 0, none⟩) (v := .int .i64 1) (by go_simp)
  have x1 := fun (w : World) => cell_regrown (w := w.alloc (.cells #[.int .i64 1, .int .i64 n, .string ⟨⟨c :: l⟩⟩] 23)) (a := ⟨w.heap.size, 1, none⟩) (v := .int .i64 n) (by go_simp)
  have x2 := fun (w : World) => cell_regrown (w := w.alloc (.cells #[.int .i64 1, .int .i64 n, .string ⟨⟨c :: l⟩⟩] 23)) (a := ⟨w.heap.size, 2, none⟩) (v := .string ⟨⟨c :: l⟩⟩) (by go_simp)
  go_enter Tryz.func150, Tryz.ntmps150
  go_wp2
  refine wp_region_quiet_below (by kernel_rfl) (by kernel_rfl) ?_
  repeat (first | go_big_quiet_step (exact CN.out _ _ _) | quiet_step (exact CN.out _ _ _))
  refine wpQuiet_nil ?_
  intro _ hw'
  obtain ⟨⟨dq, osq⟩, hw''⟩ := hw'
  subst hw''
  go_wp2
  go_ret
  exact ⟨rfl, (show Below w.heap.size w (w.alloc _) by go_grown).trans ((below_regrown _ dq osq).mono (by simp))⟩

set_option maxHeartbeats 1000000 in
theorem check_1n (n : Int) (w : World) (hn : (n != 0) = true) (hn1 : (n != 1) = true) :
    Calls Tryz.prog 150 #[.agg #[.int .i64 1, .int .i64 n, .string ⟨⟨[]⟩⟩]] w fun e w' => e = .returned (.int .i64 3) ∧ Below w.heap.size w w' := by
  have CN : Hid (∀ (w : World) (d : Nat) (os : Array Obj), Calls Tryz.prog 180 #[.agg #[.int .i64 1, .int .i64 n, .string ⟨⟨[]⟩⟩]] (grow (redrawn w d) os) fun e w'' => e = .returned (.agg #[.int .i64 1, .int .i64 n, .string ⟨⟨[]⟩⟩]) ∧ ∃ p : Regrown, w'' = grow (redrawn w p.d) p.os) :=
    fun w d os => Calls.regrown_of (named_any ⟨1, n, ⟨⟨[]⟩⟩⟩ _)
  have x0 := fun (w : World) => cell_regrown (w := w.alloc (.cells #[.int .i64 1, .int .i64 n, .string ⟨⟨[]⟩⟩] 23)) (a := ⟨w.heap.size, 0, none⟩) (v := .int .i64 1) (by go_simp)
  have x1 := fun (w : World) => cell_regrown (w := w.alloc (.cells #[.int .i64 1, .int .i64 n, .string ⟨⟨[]⟩⟩] 23)) (a := ⟨w.heap.size, 1, none⟩) (v := .int .i64 n) (by go_simp)
  have x2 := fun (w : World) => cell_regrown (w := w.alloc (.cells #[.int .i64 1, .int .i64 n, .string ⟨⟨[]⟩⟩] 23)) (a := ⟨w.heap.size, 2, none⟩) (v := .string ⟨⟨[]⟩⟩) (by go_simp)
  go_enter Tryz.func150, Tryz.ntmps150
  go_wp2
  refine wp_region_quiet_below (by kernel_rfl) (by kernel_rfl) ?_
  repeat (first | go_big_quiet_step (exact CN.out _ _ _) | quiet_step (exact CN.out _ _ _))
  refine wpQuiet_nil ?_
  intro _ hw'
  obtain ⟨⟨dq, osq⟩, hw''⟩ := hw'
  subst hw''
  go_wp2
  go_ret
  exact ⟨rfl, (show Below w.heap.size w (w.alloc _) by go_grown).trans ((below_regrown _ dq osq).mono (by simp))⟩

set_option maxHeartbeats 1000000 in
theorem check_2ok (n : Int) (w : World) :
    Calls Tryz.prog 150 #[.agg #[.int .i64 2, .int .i64 n, .string ⟨⟨[]⟩⟩]] w fun e w' => e = .returned (.int .i64 0) ∧ Below w.heap.size w w' := by
  have CN : Hid (∀ (w : World) (d : Nat) (os : Array Obj), Calls Tryz.prog 180 #[.agg #[.int .i64 2, .int .i64 n, .string ⟨⟨[]⟩⟩]] (grow (redrawn w d) os) fun e w'' => e = .returned (.agg #[.int .i64 2, .int .i64 n, .string ⟨⟨[]⟩⟩]) ∧ ∃ p : Regrown, w'' = grow (redrawn w p.d) p.os) :=
    fun w d os => Calls.regrown_of (named_any ⟨2, n, ⟨⟨[]⟩⟩⟩ _)
  have x0 := fun (w : World) => cell_regrown (w := w.alloc (.cells #[.int .i64 2, .int .i64 n, .string ⟨⟨[]⟩⟩] 23)) (a := ⟨w.heap.size, 0, none⟩) (v := .int .i64 2) (by go_simp)
  have x1 := fun (w : World) => cell_regrown (w := w.alloc (.cells #[.int .i64 2, .int .i64 n, .string ⟨⟨[]⟩⟩] 23)) (a := ⟨w.heap.size, 1, none⟩) (v := .int .i64 n) (by go_simp)
  have x2 := fun (w : World) => cell_regrown (w := w.alloc (.cells #[.int .i64 2, .int .i64 n, .string ⟨⟨[]⟩⟩] 23)) (a := ⟨w.heap.size, 2, none⟩) (v := .string ⟨⟨[]⟩⟩) (by go_simp)
  go_enter Tryz.func150, Tryz.ntmps150
  go_wp2
  refine wp_region_quiet_below (by kernel_rfl) (by kernel_rfl) ?_
  repeat (first | go_big_quiet_step (exact CN.out _ _ _) | quiet_step (exact CN.out _ _ _))
  refine wpQuiet_nil ?_
  intro _ hw'
  obtain ⟨⟨dq, osq⟩, hw''⟩ := hw'
  subst hw''
  go_wp2
  go_ret
  exact ⟨rfl, (show Below w.heap.size w (w.alloc _) by go_grown).trans ((below_regrown _ dq osq).mono (by simp))⟩

set_option maxHeartbeats 1000000 in
theorem check_2s (c : UInt8) (l : List UInt8) (n : Int) (w : World) :
    Calls Tryz.prog 150 #[.agg #[.int .i64 2, .int .i64 n, .string ⟨⟨c :: l⟩⟩]] w fun e w' => e = .returned (.int .i64 3) ∧ Below w.heap.size w w' := by
  have CN : Hid (∀ (w : World) (d : Nat) (os : Array Obj), Calls Tryz.prog 180 #[.agg #[.int .i64 2, .int .i64 n, .string ⟨⟨c :: l⟩⟩]] (grow (redrawn w d) os) fun e w'' => e = .returned (.agg #[.int .i64 2, .int .i64 n, .string ⟨⟨[]⟩⟩]) ∧ ∃ p : Regrown, w'' = grow (redrawn w p.d) p.os) :=
    fun w d os => Calls.regrown_of (named_any ⟨2, n, ⟨⟨c :: l⟩⟩⟩ _)
  have x0 := fun (w : World) => cell_regrown (w := w.alloc (.cells #[.int .i64 2, .int .i64 n, .string ⟨⟨c :: l⟩⟩] 23)) (a := ⟨w.heap.size, 0, none⟩) (v := .int .i64 2) (by go_simp)
  have x1 := fun (w : World) => cell_regrown (w := w.alloc (.cells #[.int .i64 2, .int .i64 n, .string ⟨⟨c :: l⟩⟩] 23)) (a := ⟨w.heap.size, 1, none⟩) (v := .int .i64 n) (by go_simp)
  have x2 := fun (w : World) => cell_regrown (w := w.alloc (.cells #[.int .i64 2, .int .i64 n, .string ⟨⟨c :: l⟩⟩] 23)) (a := ⟨w.heap.size, 2, none⟩) (v := .string ⟨⟨c :: l⟩⟩) (by go_simp)
  go_enter Tryz.func150, Tryz.ntmps150
  go_wp2
  refine wp_region_quiet_below (by kernel_rfl) (by kernel_rfl) ?_
  repeat (first | go_big_quiet_step (exact CN.out _ _ _) | quiet_step (exact CN.out _ _ _))
  refine wpQuiet_nil ?_
  intro _ hw'
  obtain ⟨⟨dq, osq⟩, hw''⟩ := hw'
  subst hw''
  go_wp2
  go_ret
  exact ⟨rfl, (show Below w.heap.size w (w.alloc _) by go_grown).trans ((below_regrown _ dq osq).mono (by simp))⟩

set_option maxHeartbeats 1000000 in
theorem check_3ok (s : ByteArray) (w : World) :
    Calls Tryz.prog 150 #[.agg #[.int .i64 3, .int .i64 0, .string s]] w fun e w' => e = .returned (.int .i64 0) ∧ Below w.heap.size w w' := by
  have CN : Hid (∀ (w : World) (d : Nat) (os : Array Obj), Calls Tryz.prog 180 #[.agg #[.int .i64 3, .int .i64 0, .string s]] (grow (redrawn w d) os) fun e w'' => e = .returned (.agg #[.int .i64 3, .int .i64 0, .string s]) ∧ ∃ p : Regrown, w'' = grow (redrawn w p.d) p.os) :=
    fun w d os => Calls.regrown_of (named_any ⟨3, 0, s⟩ _)
  have x0 := fun (w : World) => cell_regrown (w := w.alloc (.cells #[.int .i64 3, .int .i64 0, .string s] 23)) (a := ⟨w.heap.size, 0, none⟩) (v := .int .i64 3) (by go_simp)
  have x1 := fun (w : World) => cell_regrown (w := w.alloc (.cells #[.int .i64 3, .int .i64 0, .string s] 23)) (a := ⟨w.heap.size, 1, none⟩) (v := .int .i64 0) (by go_simp)
  have x2 := fun (w : World) => cell_regrown (w := w.alloc (.cells #[.int .i64 3, .int .i64 0, .string s] 23)) (a := ⟨w.heap.size, 2, none⟩) (v := .string s) (by go_simp)
  go_enter Tryz.func150, Tryz.ntmps150
  go_wp2
  refine wp_region_quiet_below (by kernel_rfl) (by kernel_rfl) ?_
  repeat (first | go_big_quiet_step (exact CN.out _ _ _) | quiet_step (exact CN.out _ _ _))
  refine wpQuiet_nil ?_
  intro _ hw'
  obtain ⟨⟨dq, osq⟩, hw''⟩ := hw'
  subst hw''
  go_wp2
  go_ret
  exact ⟨rfl, (show Below w.heap.size w (w.alloc _) by go_grown).trans ((below_regrown _ dq osq).mono (by simp))⟩

set_option maxHeartbeats 1000000 in
theorem check_3n (n : Int) (s : ByteArray) (w : World) (hn : (n == 0) = false) :
    Calls Tryz.prog 150 #[.agg #[.int .i64 3, .int .i64 n, .string s]] w fun e w' => e = .returned (.int .i64 3) ∧ Below w.heap.size w w' := by
  have CN : Hid (∀ (w : World) (d : Nat) (os : Array Obj), Calls Tryz.prog 180 #[.agg #[.int .i64 3, .int .i64 n, .string s]] (grow (redrawn w d) os) fun e w'' => e = .returned (.agg #[.int .i64 3, .int .i64 0, .string s]) ∧ ∃ p : Regrown, w'' = grow (redrawn w p.d) p.os) :=
    fun w d os => Calls.regrown_of (named_any ⟨3, n, s⟩ _)
  have x0 := fun (w : World) => cell_regrown (w := w.alloc (.cells #[.int .i64 3, .int .i64 n, .string s] 23)) (a := ⟨w.heap.size, 0, none⟩) (v := .int .i64 3) (by go_simp)
  have x1 := fun (w : World) => cell_regrown (w := w.alloc (.cells #[.int .i64 3, .int .i64 n, .string s] 23)) (a := ⟨w.heap.size, 1, none⟩) (v := .int .i64 n) (by go_simp)
  have x2 := fun (w : World) => cell_regrown (w := w.alloc (.cells #[.int .i64 3, .int .i64 n, .string s] 23)) (a := ⟨w.heap.size, 2, none⟩) (v := .string s) (by go_simp)
  go_enter Tryz.func150, Tryz.ntmps150
  go_wp2
  refine wp_region_quiet_below (by kernel_rfl) (by kernel_rfl) ?_
  repeat (first | go_big_quiet_step (exact CN.out _ _ _) | quiet_step (exact CN.out _ _ _))
  refine wpQuiet_nil ?_
  intro _ hw'
  obtain ⟨⟨dq, osq⟩, hw''⟩ := hw'
  subst hw''
  go_wp2
  go_ret
  exact ⟨rfl, (show Below w.heap.size w (w.alloc _) by go_grown).trans ((below_regrown _ dq osq).mono (by simp))⟩

set_option maxHeartbeats 1000000 in
theorem check_4ok (s : ByteArray) (w : World) :
    Calls Tryz.prog 150 #[.agg #[.int .i64 4, .int .i64 0, .string s]] w fun e w' => e = .returned (.int .i64 0) ∧ Below w.heap.size w w' := by
  have CN : Hid (∀ (w : World) (d : Nat) (os : Array Obj), Calls Tryz.prog 180 #[.agg #[.int .i64 4, .int .i64 0, .string s]] (grow (redrawn w d) os) fun e w'' => e = .returned (.agg #[.int .i64 4, .int .i64 0, .string s]) ∧ ∃ p : Regrown, w'' = grow (redrawn w p.d) p.os) :=
    fun w d os => Calls.regrown_of (named_any ⟨4, 0, s⟩ _)
  have x0 := fun (w : World) => cell_regrown (w := w.alloc (.cells #[.int .i64 4, .int .i64 0, .string s] 23)) (a := ⟨w.heap.size, 0, none⟩) (v := .int .i64 4) (by go_simp)
  have x1 := fun (w : World) => cell_regrown (w := w.alloc (.cells #[.int .i64 4, .int .i64 0, .string s] 23)) (a := ⟨w.heap.size, 1, none⟩) (v := .int .i64 0) (by go_simp)
  have x2 := fun (w : World) => cell_regrown (w := w.alloc (.cells #[.int .i64 4, .int .i64 0, .string s] 23)) (a := ⟨w.heap.size, 2, none⟩) (v := .string s) (by go_simp)
  go_enter Tryz.func150, Tryz.ntmps150
  go_wp2
  refine wp_region_quiet_below (by kernel_rfl) (by kernel_rfl) ?_
  repeat (first | go_big_quiet_step (exact CN.out _ _ _) | quiet_step (exact CN.out _ _ _))
  refine wpQuiet_nil ?_
  intro _ hw'
  obtain ⟨⟨dq, osq⟩, hw''⟩ := hw'
  subst hw''
  go_wp2
  go_ret
  exact ⟨rfl, (show Below w.heap.size w (w.alloc _) by go_grown).trans ((below_regrown _ dq osq).mono (by simp))⟩

set_option maxHeartbeats 1000000 in
theorem check_4n (n : Int) (s : ByteArray) (w : World) (hn : (n == 0) = false) :
    Calls Tryz.prog 150 #[.agg #[.int .i64 4, .int .i64 n, .string s]] w fun e w' => e = .returned (.int .i64 3) ∧ Below w.heap.size w w' := by
  have CN : Hid (∀ (w : World) (d : Nat) (os : Array Obj), Calls Tryz.prog 180 #[.agg #[.int .i64 4, .int .i64 n, .string s]] (grow (redrawn w d) os) fun e w'' => e = .returned (.agg #[.int .i64 4, .int .i64 0, .string s]) ∧ ∃ p : Regrown, w'' = grow (redrawn w p.d) p.os) :=
    fun w d os => Calls.regrown_of (named_any ⟨4, n, s⟩ _)
  have x0 := fun (w : World) => cell_regrown (w := w.alloc (.cells #[.int .i64 4, .int .i64 n, .string s] 23)) (a := ⟨w.heap.size, 0, none⟩) (v := .int .i64 4) (by go_simp)
  have x1 := fun (w : World) => cell_regrown (w := w.alloc (.cells #[.int .i64 4, .int .i64 n, .string s] 23)) (a := ⟨w.heap.size, 1, none⟩) (v := .int .i64 n) (by go_simp)
  have x2 := fun (w : World) => cell_regrown (w := w.alloc (.cells #[.int .i64 4, .int .i64 n, .string s] 23)) (a := ⟨w.heap.size, 2, none⟩) (v := .string s) (by go_simp)
  go_enter Tryz.func150, Tryz.ntmps150
  go_wp2
  refine wp_region_quiet_below (by kernel_rfl) (by kernel_rfl) ?_
  repeat (first | go_big_quiet_step (exact CN.out _ _ _) | quiet_step (exact CN.out _ _ _))
  refine wpQuiet_nil ?_
  intro _ hw'
  obtain ⟨⟨dq, osq⟩, hw''⟩ := hw'
  subst hw''
  go_wp2
  go_ret
  exact ⟨rfl, (show Below w.heap.size w (w.alloc _) by go_grown).trans ((below_regrown _ dq osq).mono (by simp))⟩

theorem check_any (a : Val) (w : World) :
    Calls Tryz.prog 150 #[a.v] w fun e w' => e = .returned (.int .i64 (checkV a)) ∧ Below w.heap.size w w' := by
  by_cases hk : a.k < 0 ∨ 4 < a.k
  · exact check_out a w hk
  · have hf := fun b => checkV_in hk b
    obtain ⟨k, n, ⟨⟨l⟩⟩⟩ := a
    simp only [] at hk
    have hk5 : k = 0 ∨ k = 1 ∨ k = 2 ∨ k = 3 ∨ k = 4 := by omega
    clear hk
    unfold Val.v
    simp only []
    rcases hk5 with rfl | rfl | rfl | rfl | rfl
    · by_cases hn : n = 0
      · subst hn
        cases l with
        | nil => rw [hf true rfl]; exact check_0ok w
        | cons c l => rw [hf false rfl]; exact check_0s c l w
      · rw [hf false (by simp [Val.right, hn])]; exact check_0n n _ w (beq_eq_false_iff_ne.2 hn)
    · cases l with
      | nil =>
        by_cases hn : n = 0
        · subst hn; rw [hf true rfl]; exact check_1ok0 w
        · by_cases hn1 : n = 1
          · subst hn1; rw [hf true rfl]; exact check_1ok1 w
          · rw [hf false (by simp [Val.right, hn, hn1])]; exact check_1n n w (bne_iff_ne.2 hn) (bne_iff_ne.2 hn1)
      | cons c l => rw [hf false (by simp [Val.right])]; exact check_1s c l n w
    · cases l with
      | nil => rw [hf true (by simp [Val.right])]; exact check_2ok n w
      | cons c l => rw [hf false (by simp [Val.right])]; exact check_2s c l n w
    · by_cases hn : n = 0
      · subst hn; rw [hf true (by simp [Val.right])]; exact check_3ok _ w
      · rw [hf false (by simp [Val.right, hn])]; exact check_3n n _ w (beq_eq_false_iff_ne.2 hn)
    · by_cases hn : n = 0
      · subst hn; rw [hf true (by simp [Val.right])]; exact check_4ok _ w
      · rw [hf false (by simp [Val.right, hn])]; exact check_4n n _ w (beq_eq_false_iff_ne.2 hn)
end Go.Proofs.YtblkhlhhlalbkaaGreatDoor
namespace Go.Proofs.YtblkhlhhlalbkaaGreatDoor
open Go.RowKit Go.Lib Go.Sort
set_option linter.unusedVariables false
set_option maxRecDepth 20000

set_option maxHeartbeats 1000000 in
theorem refCheck_out (a : Val) (w : World) (hk : a.k < 0 ∨ 4 < a.k) :
    Calls Tryz.prog 10 #[a.v] w fun e w' => e = .returned (.int .i64 (checkV a)) ∧ Below w.heap.size w w' := by
  rw [checkV_out hk]
  obtain ⟨k, n, s⟩ := a
  unfold Val.v
  simp only [] at hk
  rcases hk with hk | hk
  all_goals
    go_enter Tryz.func10, Tryz.ntmps10
    go_wp2
    go_ret
    exact ⟨rfl, by go_grown⟩

set_option maxHeartbeats 1000000 in
theorem refCheck_0ok (w : World) :
    Calls Tryz.prog 10 #[.agg #[.int .i64 0, .int .i64 0, .string ⟨⟨[]⟩⟩]] w fun e w' => e = .returned (.int .i64 0) ∧ Below w.heap.size w w' := by
  go_enter Tryz.func10, Tryz.ntmps10
  go_wp2
  go_ret
  exact ⟨rfl, by go_grown⟩

set_option maxHeartbeats 1000000 in
theorem refCheck_0s (c : UInt8) (l : List UInt8) (w : World) :
    Calls Tryz.prog 10 #[.agg #[.int .i64 0, .int .i64 0, .string ⟨⟨c :: l⟩⟩]] w fun e w' => e = .returned (.int .i64 3) ∧ Below w.heap.size w w' := by
  go_enter Tryz.func10, Tryz.ntmps10
  go_wp2
  go_ret
  exact ⟨rfl, by go_grown⟩

set_option maxHeartbeats 1000000 in
theorem refCheck_0n (n : Int) (s : ByteArray) (w : World) (hn : (n == 0) = false) :
    Calls Tryz.prog 10 #[.agg #[.int .i64 0, .int .i64 n, .string s]] w fun e w' => e = .returned (.int .i64 3) ∧ Below w.heap.size w w' := by
  go_enter Tryz.func10, Tryz.ntmps10
  go_wp2
  go_ret
  exact ⟨rfl, by go_grown⟩

set_option maxHeartbeats 1000000 in
theorem refCheck_1ok0 (w : World) :
    Calls Tryz.prog 10 #[.agg #[.int .i64 1, .int .i64 0, .string ⟨⟨[]⟩⟩]] w fun e w' => e = .returned (.int .i64 0) ∧ Below w.heap.size w w' := by
  go_enter Tryz.func10, Tryz.ntmps10
  go_wp2
  go_ret
  exact ⟨rfl, by go_grown⟩

set_option maxHeartbeats 1000000 in
theorem refCheck_1ok1 (w : World) :
    Calls Tryz.prog 10 #[.agg #[.int .i64 1, .int .i64 1, .string ⟨⟨[]⟩⟩]] w fun e w' => e = .returned (.int .i64 0) ∧ Below w.heap.size w w' := by
  go_enter Tryz.func10, Tryz.ntmps10
  go_wp2
  go_ret
  exact ⟨rfl, by go_grown⟩

set_option maxHeartbeats 1000000 in
theorem refCheck_1s (c : UInt8) (l : List UInt8) (n : Int) (w : World) :
    Calls Tryz.prog 10 #[.agg #[.int .i64 1, .int .i64 n, .string ⟨⟨c :: l⟩⟩]] w fun e w' => e = .returned (.int .i64 3) ∧ Below w.heap.size w w' := by
  go_enter Tryz.func10, Tryz.ntmps10
  go_wp2
  go_ret
  exact ⟨rfl, by go_grown⟩

set_option maxHeartbeats 1000000 in
theorem refCheck_1n (n : Int) (w : World) (hn : (n != 0) = true) (hn1 : (n != 1) = true) :
    Calls Tryz.prog 10 #[.agg #[.int .i64 1, .int .i64 n, .string ⟨⟨[]⟩⟩]] w fun e w' => e = .returned (.int .i64 3) ∧ Below w.heap.size w w' := by
  go_enter Tryz.func10, Tryz.ntmps10
  go_wp2
  go_ret
  exact ⟨rfl, by go_grown⟩

set_option maxHeartbeats 1000000 in
theorem refCheck_2ok (n : Int) (w : World) :
    Calls Tryz.prog 10 #[.agg #[.int .i64 2, .int .i64 n, .string ⟨⟨[]⟩⟩]] w fun e w' => e = .returned (.int .i64 0) ∧ Below w.heap.size w w' := by
  go_enter Tryz.func10, Tryz.ntmps10
  go_wp2
  go_ret
  exact ⟨rfl, by go_grown⟩

set_option maxHeartbeats 1000000 in
theorem refCheck_2s (c : UInt8) (l : List UInt8) (n : Int) (w : World) :
    Calls Tryz.prog 10 #[.agg #[.int .i64 2, .int .i64 n, .string ⟨⟨c :: l⟩⟩]] w fun e w' => e = .returned (.int .i64 3) ∧ Below w.heap.size w w' := by
  go_enter Tryz.func10, Tryz.ntmps10
  go_wp2
  go_ret
  exact ⟨rfl, by go_grown⟩

set_option maxHeartbeats 1000000 in
theorem refCheck_3ok (s : ByteArray) (w : World) :
    Calls Tryz.prog 10 #[.agg #[.int .i64 3, .int .i64 0, .string s]] w fun e w' => e = .returned (.int .i64 0) ∧ Below w.heap.size w w' := by
  go_enter Tryz.func10, Tryz.ntmps10
  go_wp2
  go_ret
  exact ⟨rfl, by go_grown⟩

set_option maxHeartbeats 1000000 in
theorem refCheck_3n (n : Int) (s : ByteArray) (w : World) (hn : (n != 0) = true) :
    Calls Tryz.prog 10 #[.agg #[.int .i64 3, .int .i64 n, .string s]] w fun e w' => e = .returned (.int .i64 3) ∧ Below w.heap.size w w' := by
  go_enter Tryz.func10, Tryz.ntmps10
  go_wp2
  go_ret
  exact ⟨rfl, by go_grown⟩

set_option maxHeartbeats 1000000 in
theorem refCheck_4ok (s : ByteArray) (w : World) :
    Calls Tryz.prog 10 #[.agg #[.int .i64 4, .int .i64 0, .string s]] w fun e w' => e = .returned (.int .i64 0) ∧ Below w.heap.size w w' := by
  go_enter Tryz.func10, Tryz.ntmps10
  go_wp2
  go_ret
  exact ⟨rfl, by go_grown⟩

set_option maxHeartbeats 1000000 in
theorem refCheck_4n (n : Int) (s : ByteArray) (w : World) (hn : (n != 0) = true) :
    Calls Tryz.prog 10 #[.agg #[.int .i64 4, .int .i64 n, .string s]] w fun e w' => e = .returned (.int .i64 3) ∧ Below w.heap.size w w' := by
  go_enter Tryz.func10, Tryz.ntmps10
  go_wp2
  go_ret
  exact ⟨rfl, by go_grown⟩

theorem refCheck_any (a : Val) (w : World) :
    Calls Tryz.prog 10 #[a.v] w fun e w' => e = .returned (.int .i64 (checkV a)) ∧ Below w.heap.size w w' := by
  by_cases hk : a.k < 0 ∨ 4 < a.k
  · exact refCheck_out a w hk
  · have hf := fun b => checkV_in hk b
    obtain ⟨k, n, ⟨⟨l⟩⟩⟩ := a
    simp only [] at hk
    have hk5 : k = 0 ∨ k = 1 ∨ k = 2 ∨ k = 3 ∨ k = 4 := by omega
    clear hk
    unfold Val.v
    simp only []
    rcases hk5 with rfl | rfl | rfl | rfl | rfl
    · by_cases hn : n = 0
      · subst hn
        cases l with
        | nil => rw [hf true rfl]; exact refCheck_0ok w
        | cons c l => rw [hf false rfl]; exact refCheck_0s c l w
      · rw [hf false (by simp [Val.right, hn])]; exact refCheck_0n n _ w (beq_eq_false_iff_ne.2 hn)
    · cases l with
      | nil =>
        by_cases hn : n = 0
        · subst hn; rw [hf true rfl]; exact refCheck_1ok0 w
        · by_cases hn1 : n = 1
          · subst hn1; rw [hf true rfl]; exact refCheck_1ok1 w
          · rw [hf false (by simp [Val.right, hn, hn1])]; exact refCheck_1n n w (bne_iff_ne.2 hn) (bne_iff_ne.2 hn1)
      | cons c l => rw [hf false (by simp [Val.right])]; exact refCheck_1s c l n w
    · cases l with
      | nil => rw [hf true (by simp [Val.right])]; exact refCheck_2ok n w
      | cons c l => rw [hf false (by simp [Val.right])]; exact refCheck_2s c l n w
    · by_cases hn : n = 0
      · subst hn; rw [hf true (by simp [Val.right])]; exact refCheck_3ok _ w
      · rw [hf false (by simp [Val.right, hn])]; exact refCheck_3n n _ w (bne_iff_ne.2 hn)
    · by_cases hn : n = 0
      · subst hn; rw [hf true (by simp [Val.right])]; exact refCheck_4ok _ w
      · rw [hf false (by simp [Val.right, hn])]; exact refCheck_4n n _ w (bne_iff_ne.2 hn)
end Go.Proofs.YtblkhlhhlalbkaaGreatDoor
