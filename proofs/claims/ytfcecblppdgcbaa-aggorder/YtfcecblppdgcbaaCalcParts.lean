/- What calc.True, nullOr, fit, and, or, holds, joined answer. Condition (joined): the texts' lengths together are Go's. -/
import Derived.Test.YtfcecblppdgcbaaCalcSum
import Derived.Deep.QuietTactic
import Derived.BigQuiet
import Derived.Lib.QuietBelow
namespace Go.Proofs.Ytfcecblppdgcbaa
open Go.RowKit Go.Lib Go.Sort
set_option linter.unusedVariables false
set_option maxRecDepth 20000

/-- A variable that holds a value. -/
def Box (w : World) (b : Nat) (a : Val) : Prop :=
  w.cell? ⟨b, 0, none⟩ = some (.int .i64 a.k) ∧ w.cell? ⟨b, 1, none⟩ = some (.int .i64 a.n) ∧ w.cell? ⟨b, 2, none⟩ = some (.string a.s) ∧
  w.frozen? ⟨b, 0, none⟩ = false ∧ w.frozen? ⟨b, 1, none⟩ = false ∧ w.frozen? ⟨b, 2, none⟩ = false
theorem Box.out {w : World} {b : Nat} {k n : Int} {s : ByteArray} (h : Box w b ⟨k, n, s⟩) :
    w.cell? ⟨b, 0, none⟩ = some (.int .i64 k) ∧ w.cell? ⟨b, 1, none⟩ = some (.int .i64 n) ∧ w.cell? ⟨b, 2, none⟩ = some (.string s) ∧
    w.frozen? ⟨b, 0, none⟩ = false ∧ w.frozen? ⟨b, 1, none⟩ = false ∧ w.frozen? ⟨b, 2, none⟩ = false := h
theorem Box.get {w : World} {b : Nat} {k n : Int} {s : ByteArray} (h : Box w b ⟨k, n, s⟩) :
    w.cell? ⟨b, 0, none⟩ = some (.int .i64 k) ∧ w.cell? ⟨b, 1, none⟩ = some (.int .i64 n) ∧ w.cell? ⟨b, 2, none⟩ = some (.string s) ∧ b < w.heap.size := ⟨h.1, h.2.1, h.2.2.1, cell_lt h.1⟩
theorem Box.new (w : World) (k n : Int) (s : ByteArray) (t : TypeId) : Box (w.alloc (.cells #[.int .i64 k, .int .i64 n, .string s] t)) w.heap.size ⟨k, n, s⟩ := by
  unfold Box; refine ⟨?_, ?_, ?_, ?_, ?_, ?_⟩ <;> go_simp
theorem Box.at {w : World} {b : Nat} (hb : w.heap.size = b) (k n : Int) (s : ByteArray) (t : TypeId) : Box (w.alloc (.cells #[.int .i64 k, .int .i64 n, .string s] t)) b ⟨k, n, s⟩ := by
  subst hb; exact Box.new w k n s t
theorem Box.below {w w' : World} {b : Nat} {a : Val} (h : Box w b a) (k : Below w.heap.size w w') : Box w' b a := by
  obtain ⟨c0, c1, c2, f0, f1, f2⟩ := h
  have hb : b < w.heap.size := cell_lt c0
  refine ⟨below_cell k c0, below_cell k c1, below_cell k c2, ?_, ?_, ?_⟩
  · rw [k.frozen (p := ⟨b, 0, none⟩) hb]; exact f0
  · rw [k.frozen (p := ⟨b, 1, none⟩) hb]; exact f1
  · rw [k.frozen (p := ⟨b, 2, none⟩) hb]; exact f2
theorem Box.alloc {w : World} {b : Nat} {a : Val} (h : Box w b a) (o : Obj) : Box (w.alloc o) b a := h.below ((Below.refl _ _).alloc (Nat.le_refl _) o)
theorem Box.set {w : World} {b : Nat} {a : Val} (h : Box w b a) {p : Addr} (hp : p.block ≠ b) (u : Value) : Box (w.setCell p u) b a := by
  obtain ⟨c0, c1, c2, f0, f1, f2⟩ := h
  have k : (w.setCell p u).heap[b]? = w.heap[b]? := Below.heap_setCell w p u b (fun e => hp e.symm)
  refine ⟨?_, ?_, ?_, ?_, ?_, ?_⟩
  · exact (World.cell?_of_block (w := w) (a := ⟨b, 0, none⟩) k).trans c0
  · exact (World.cell?_of_block (w := w) (a := ⟨b, 1, none⟩) k).trans c1
  · exact (World.cell?_of_block (w := w) (a := ⟨b, 2, none⟩) k).trans c2
  · exact (World.frozen?_of_block (w := w) (a := ⟨b, 0, none⟩) k).trans f0
  · exact (World.frozen?_of_block (w := w) (a := ⟨b, 1, none⟩) k).trans f1
  · exact (World.frozen?_of_block (w := w) (a := ⟨b, 2, none⟩) k).trans f2

/-- '==' of two values. -/
theorem run_eqv (k n k2 n2 : Int) (s s2 : ByteArray) (w : World) :
    (binOp .eql 32 (.agg #[.int .i64 k, .int .i64 n, .string s]) (.agg #[.int .i64 k2, .int .i64 n2, .string s2])).run Try.prog w = .ok (.bool (eqv k n s k2 n2 s2)) w := by
  rw [run_eql_struct, run_equalIn_agg _ _ _ _ _ (by kernel_rfl) (by kernel_rfl)]
  simp [go_sem]
  unfold eqv
  rw [← ByteArray.toList_eq, ← ByteArray.toList_eq]
  by_cases h1 : k = k2
  · by_cases h2 : n = n2
    · by_cases h3 : s.toList = s2.toList
      · simp [h1, h2, h3]
      · simp [h1, h2, h3]
    · simp [h1, h2]
  · simp [h1]
theorem run_neqv (k n k2 n2 : Int) (s s2 : ByteArray) (w : World) :
    (binOp .neq 32 (.agg #[.int .i64 k, .int .i64 n, .string s]) (.agg #[.int .i64 k2, .int .i64 n2, .string s2])).run Try.prog w = .ok (.bool (!eqv k n s k2 n2 s2)) w := by
  rw [run_neq_struct, run_equalIn_agg _ _ _ _ _ (by kernel_rfl) (by kernel_rfl)]
  simp [go_sem]
  unfold eqv
  rw [← ByteArray.toList_eq, ← ByteArray.toList_eq]
  by_cases h1 : k = k2
  · by_cases h2 : n = n2
    · by_cases h3 : s.toList = s2.toList
      · simp [h1, h2, h3]
      · simp [h1, h2, h3]
    · simp [h1, h2]
  · simp [h1]

theorem nullOr_any (k : Int) (a : Val) (w : World) :
    Calls Try.prog 65 #[.int .i64 k, a.v] w fun e w' => e = .returned (.bool (nullOrV k a)) ∧ Below w.heap.size w w' := by
  obtain ⟨ka, n, s⟩ := a
  unfold Val.v nullOrV
  by_cases h : ka = 0
  · subst h
    go_enter Try.func65, Try.ntmps65
    go_wp2
    go_ret
    exact ⟨rfl, by go_grown⟩
  · have d : (ka == 0) = false := beq_eq_false_iff_ne.2 h
    clear h
    rw [d]
    go_enter Try.func65, Try.ntmps65
    go_wp2
    go_ret
    exact ⟨rfl, by go_grown⟩

theorem holds_any (op c : Int) (w : World) :
    Calls Try.prog 59 #[.int .i64 op, .int .i64 c] w fun e w' => e = .returned (.bool (holdsV op c)) ∧ w' = w := by
  unfold holdsV
  by_cases h5 : op = 5
  · subst h5; go_enter Try.func59, Try.ntmps59
    go_wp2
    go_ret
    exact ⟨rfl, rfl⟩
  by_cases h6 : op = 6
  · subst h6; go_enter Try.func59, Try.ntmps59
    go_wp2
    go_ret
    exact ⟨rfl, rfl⟩
  by_cases h7 : op = 7
  · subst h7; go_enter Try.func59, Try.ntmps59
    go_wp2
    go_ret
    exact ⟨rfl, rfl⟩
  by_cases h8 : op = 8
  · subst h8; go_enter Try.func59, Try.ntmps59
    go_wp2
    go_ret
    exact ⟨rfl, rfl⟩
  by_cases h9 : op = 9
  · subst h9; go_enter Try.func59, Try.ntmps59
    go_wp2
    go_ret
    exact ⟨rfl, rfl⟩
  rw [if_neg h5, if_neg h6, if_neg h7, if_neg h8, if_neg h9]
  have d5 : (op == 5) = false := beq_eq_false_iff_ne.2 h5
  have d6 : (op == 6) = false := beq_eq_false_iff_ne.2 h6
  have d7 : (op == 7) = false := beq_eq_false_iff_ne.2 h7
  have d8 : (op == 8) = false := beq_eq_false_iff_ne.2 h8
  have d9 : (op == 9) = false := beq_eq_false_iff_ne.2 h9
  clear h5 h6 h7 h8 h9
  go_enter Try.func59, Try.ntmps59
  go_wp2
  go_ret
  exact ⟨rfl, rfl⟩

set_option maxHeartbeats 400000 in
theorem true_any (a : Val) (w : World) :
    Calls Try.prog 66 #[a.v] w fun e w' => e = .returned (.bool (a.eqb (truthV true))) ∧ Below w.heap.size w w' := by
  obtain ⟨k, n, s⟩ := a
  unfold Val.v
  simp only []
  obtain ⟨c0, c1, c2, _⟩ := Box.new w k n s 32
  have g0 := cell_regrown c0
  have g1 := cell_regrown c1
  have g2 := cell_regrown c2
  clear c0 c1 c2
  have C1 : Hid (∀ d os, Calls Try.prog 58 #[.bool true] (grow (redrawn (w.alloc (.cells #[.int .i64 k, .int .i64 n, .string s] 32)) d) os) fun e w'' => e = .returned (.agg #[.int .i64 1, .int .i64 1, .string ⟨#[]⟩]) ∧ ∃ p : Regrown, w'' = grow (redrawn (w.alloc (.cells #[.int .i64 k, .int .i64 n, .string s] 32)) p.d) p.os) :=
    fun d os => Calls.regrown_of (truth_any true _)
  have he := run_eqv
  go_enter Try.func66, Try.ntmps66
  go_wp2_with fail
  refine wp_region_quiet_below (by kernel_rfl) (by kernel_rfl) ?_
  repeat (quiet_step (first | (go_at_call 58; with_reducible exact C1.out _ _)))
  refine wpQuiet_nil ?_
  intro _ hw'
  obtain ⟨⟨dq, osq⟩, hw''⟩ := hw'
  subst hw''
  go_wp2
  go_ret
  exact ⟨rfl, (show Below w.heap.size w (w.alloc _) by go_grown).trans ((below_regrown _ dq osq).mono (by simp))⟩

set_option maxHeartbeats 400000 in
theorem fit_logic (op : Int) (a b : Val) (w : World) (h : op ≤ 4) :
    Calls Try.prog 55 #[.int .i64 op, a.v, b.v] w fun e w' => e = .returned (.bool (nullOrV 1 a && nullOrV 1 b)) ∧ Below w.heap.size w w' := by
  have C1 := fun w => nullOr_any 1 a w
  have C2 := fun w => nullOr_any 1 b w
  generalize nullOrV 1 a = x at *
  generalize nullOrV 1 b = y at *
  obtain ⟨k1, n1, s1⟩ := a
  obtain ⟨k2, n2, s2⟩ := b
  unfold Val.v at *
  cases x
  · go_enter Try.func55, Try.ntmps55
    go_wp2_with (go_at_call 65; with_reducible refine (C1 _).mono ?_; rintro e w1 ⟨rfl, b1⟩)
    go_ret
    exact ⟨rfl, below_new2 b1⟩
  · go_enter Try.func55, Try.ntmps55
    go_wp2_with (first
      | (go_at_call 65; with_reducible refine (C1 _).mono ?_; rintro e w1 ⟨rfl, b1⟩; obtain ⟨c0, c1, c2, _⟩ := ((Box.at (b := w.heap.size + 1) (by simp) k2 n2 s2 32).below b1).out)
      | (go_at_call 65; with_reducible refine (C2 _).mono ?_; rintro e w2 ⟨rfl, b2⟩))
    go_ret
    exact ⟨rfl, (below_new2 b1).trans (b2.mono (below_new2 b1).size)⟩

set_option maxHeartbeats 400000 in
theorem fit_cat (op : Int) (a b : Val) (w : World) (h : op = 16) :
    Calls Try.prog 55 #[.int .i64 op, a.v, b.v] w fun e w' => e = .returned (.bool (nullOrV 3 a && nullOrV 3 b)) ∧ Below w.heap.size w w' := by
  have C1 := fun w => nullOr_any 3 a w
  have C2 := fun w => nullOr_any 3 b w
  generalize nullOrV 3 a = x at *
  generalize nullOrV 3 b = y at *
  obtain ⟨k1, n1, s1⟩ := a
  obtain ⟨k2, n2, s2⟩ := b
  unfold Val.v at *
  cases x
  · go_enter Try.func55, Try.ntmps55
    go_wp2_with (go_at_call 65; with_reducible refine (C1 _).mono ?_; rintro e w1 ⟨rfl, b1⟩)
    go_ret
    exact ⟨rfl, below_new2 b1⟩
  · go_enter Try.func55, Try.ntmps55
    go_wp2_with (first
      | (go_at_call 65; with_reducible refine (C1 _).mono ?_; rintro e w1 ⟨rfl, b1⟩; obtain ⟨c0, c1, c2, _⟩ := ((Box.at (b := w.heap.size + 1) (by simp) k2 n2 s2 32).below b1).out)
      | (go_at_call 65; with_reducible refine (C2 _).mono ?_; rintro e w2 ⟨rfl, b2⟩))
    go_ret
    exact ⟨rfl, (below_new2 b1).trans (b2.mono (below_new2 b1).size)⟩

set_option maxHeartbeats 400000 in
theorem fit_sum (op : Int) (a b : Val) (w : World) (h : 10 < op) (h2 : op < 16) :
    Calls Try.prog 55 #[.int .i64 op, a.v, b.v] w fun e w' => e = .returned (.bool (nullOrV 2 a && nullOrV 2 b)) ∧ Below w.heap.size w w' := by
  have C1 := fun w => nullOr_any 2 a w
  have C2 := fun w => nullOr_any 2 b w
  generalize nullOrV 2 a = x at *
  generalize nullOrV 2 b = y at *
  obtain ⟨k1, n1, s1⟩ := a
  obtain ⟨k2, n2, s2⟩ := b
  unfold Val.v at *
  cases x
  · go_enter Try.func55, Try.ntmps55
    go_wp2_with (go_at_call 65; with_reducible refine (C1 _).mono ?_; rintro e w1 ⟨rfl, b1⟩)
    go_ret
    exact ⟨rfl, below_new2 b1⟩
  · go_enter Try.func55, Try.ntmps55
    go_wp2_with (first
      | (go_at_call 65; with_reducible refine (C1 _).mono ?_; rintro e w1 ⟨rfl, b1⟩; obtain ⟨c0, c1, c2, _⟩ := ((Box.at (b := w.heap.size + 1) (by simp) k2 n2 s2 32).below b1).out)
      | (go_at_call 65; with_reducible refine (C2 _).mono ?_; rintro e w2 ⟨rfl, b2⟩))
    go_ret
    exact ⟨rfl, (below_new2 b1).trans (b2.mono (below_new2 b1).size)⟩

set_option maxHeartbeats 400000 in
theorem fit_cmp (op : Int) (a b : Val) (w : World) (h : 4 < op) (h2 : op ≤ 10) :
    Calls Try.prog 55 #[.int .i64 op, a.v, b.v] w fun e w' => e = .returned (.bool (nullOrV b.k a || b.k == 0)) ∧ Below w.heap.size w w' := by
  have C1 := fun w => nullOr_any b.k a w
  generalize nullOrV b.k a = x at *
  obtain ⟨k1, n1, s1⟩ := a
  obtain ⟨k2, n2, s2⟩ := b
  unfold Val.v at *
  simp only [] at *
  cases x
  · go_enter Try.func55, Try.ntmps55
    go_wp2_with (go_at_call 65; with_reducible refine (C1 _).mono ?_; rintro e w1 ⟨rfl, b1⟩; obtain ⟨c0, c1, c2, _⟩ := ((Box.at (b := w.heap.size + 1) (by simp) k2 n2 s2 32).below b1).out)
    go_ret
    exact ⟨rfl, below_new2 b1⟩
  · go_enter Try.func55, Try.ntmps55
    go_wp2_with (go_at_call 65; with_reducible refine (C1 _).mono ?_; rintro e w1 ⟨rfl, b1⟩)
    go_ret
    exact ⟨rfl, below_new2 b1⟩

theorem fit_any (op : Int) (a b : Val) (w : World) (h : op ≤ 16) :
    Calls Try.prog 55 #[.int .i64 op, a.v, b.v] w fun e w' => e = .returned (.bool (fitV op a b)) ∧ Below w.heap.size w w' := by
  unfold fitV
  by_cases h4 : op ≤ 4
  · rw [if_pos h4]; exact fit_logic op a b w h4
  · rw [if_neg h4]
    by_cases h10 : op ≤ 10
    · rw [if_pos h10]; exact fit_cmp op a b w (by omega) h10
    · rw [if_neg h10]
      by_cases h16 : op = 16
      · rw [if_pos h16]; exact fit_cat op a b w h16
      · rw [if_neg h16]; exact fit_sum op a b w (by omega) (by omega)
end Go.Proofs.Ytfcecblppdgcbaa
