/- What calc.True, nullOr, fit, and, or, holds, joined answer. Condition (joined): the texts' lengths together are Go's. What calc.and and calc.or answer. No conditions. What calc.Args, takes, coalesce answer. No conditions. What calc.Unary answers. Condition: the number is within the numbers. More on variables that hold a value: behind a draw, behind a store. No conditions. What the document's own Number, Truth, text, holds, goes, sum and times answer. Conditions: the numbers are within the numbers; a divisor isn't 0. What the document's own goes, logic, True and Unary answer. Condition (Unary): the value is right. -/
import Derived.Test.YtblkhlhhlalbkaaGreatDoorCA
import Derived.Deep.QuietTactic
import Derived.BigQuiet
import Derived.Lib.QuietBelow
namespace Go.Proofs.YtblkhlhhlalbkaaGreatDoor
open Go.RowKit Go.Lib Go.Sort
set_option linter.unusedVariables false
set_option maxRecDepth 20000

/-- A variable that holds a value. -/
def Box (w : World) (b : Nat) (a : Val) : Prop :=
  w.cell? ⟨b, 0, none⟩ = some (.int .i64 a.k) ∧ w.cell? ⟨b, 1, none⟩ = some (.int .i64 a.n) ∧ w.cell? ⟨b, 2, none⟩ = some (.string a.s) ∧
  w.frozen? ⟨b, 0, none⟩ = false ∧ w.frozen? ⟨b, 1, none⟩ = false ∧ w.frozen? ⟨b, 2, none⟩ = false
theorem Box.out {w : World} {b : Nat} {k n : Int} {s : ByteArray} (h : Box w b ⟨k, n, s⟩) :
    w.cell? ⟨b, 0, none⟩ = some (.int .i64 k) ∧ w.cell? ⟨b, 1, none⟩ = some (.int .i64 n) ∧ w.cell? ⟨b, 2, none⟩ = some (.string s) ∧
    w.frozen? ⟨b, 0, none⟩ = false ∧ w.frozen? ⟨b, 1, none⟩ = false ∧ w.frozen? ⟨b, 2, none⟩ = false := h
theorem Box.get {w : World} {b : Nat} {k n : Int} {s : ByteArray} (h : Box w b ⟨k, n, s⟩) :
    w.cell? ⟨b, 0, none⟩ = some (.int .i64 k) ∧ w.cell? ⟨b, 1, none⟩ = some (.int .i64 n) ∧ w.cell? ⟨b, 2, none⟩ = some (.string s) ∧ b < w.heap.size := ⟨h.1, h.2.1, h.2.2.1, cell_lt h.1⟩
theorem Box.new (w : World) (k n : Int) (s : ByteArray) (t : TypeId) : Box (w.alloc (.cells #[.int .i64 k, .int .i64 n, .string s] t)) w.heap.size ⟨k, n, s⟩ := by
  unfold Box; refine ⟨?_, ?_, ?_, ?_, ?_, ?_⟩ <;> go_simp
theorem Box.at {w : World} {b : Nat} (hb : w.heap.size = b) (k n : Int) (s : ByteArray) (t : TypeId) : Box (w.alloc (.cells #[.int .i64 k, .int .i64 n, .string s] t)) b ⟨k, n, s⟩ := by
  subst hb; exact Box.new w k n s t
theorem Box.below {w w' : World} {b : Nat} {a : Val} (h : Box w b a) (k : Below w.heap.size w w') : Box w' b a := by
  obtain ⟨c0, c1, c2, f0, f1, f2⟩ := h
  have hb : b < w.heap.size := cell_lt c0
  refine ⟨below_cell k c0, below_cell k c1, below_cell k c2, ?_, ?_, ?_⟩
  · rw [k.frozen (p := ⟨b, 0, none⟩) hb]; exact f0
  · rw [k.frozen (p := ⟨b, 1, none⟩) hb]; exact f1
  · rw [k.frozen (p := ⟨b, 2, none⟩) hb]; exact f2
theorem Box.alloc {w : World} {b : Nat} {a : Val} (h : Box w b a) (o : Obj) : Box (w.alloc o) b a := h.below ((Below.refl _ _).alloc (Nat.le_refl _) o)
theorem Box.set {w : World} {b : Nat} {a : Val} (h : Box w b a) {p : Addr} (hp : p.block ≠ b) (u : Value) : Box (w.setCell p u) b a := by
  obtain ⟨c0, c1, c2, f0, f1, f2⟩ := h
  have k : (w.setCell p u).heap[b]? = w.heap[b]? := Below.heap_setCell w p u b (fun e => hp e.symm)
  refine ⟨?_, ?_, ?_, ?_, ?_, ?_⟩
  · exact (World.cell?_of_block (w := w) (a := ⟨b, 0, none⟩) k).trans c0
  · exact (World.cell?_of_block (w := w) (a := ⟨b, 1, none⟩) k).trans c1
  · exact (World.cell?_of_block (w := w) (a := ⟨b, 2, none⟩) k).trans c2
  · exact (World.frozen?_of_block (w := w) (a := ⟨b, 0, none⟩) k).trans f0
  · exact (World.frozen?_of_block (w := w) (a := ⟨b, 1, none⟩) k).trans f1
  · exact (World.frozen?_of_block (w := w) (a := ⟨b, 2, none⟩) k).trans f2

/-- '==' of two values. -/
theorem run_eqv (k n k2 n2 : Int) (s s2 : ByteArray) (w : World) :
    (binOp .eql 23 (.agg #[.int .i64 k, .int .i64 n, .string s]) (.agg #[.int .i64 k2, .int .i64 n2, .string s2])).run Tryz.prog w = .ok (.bool (eqv k n s k2 n2 s2)) w := by
  rw [run_eql_struct, run_equalIn_agg _ _ _ _ _ (by kernel_rfl) (by kernel_rfl)]
  simp [go_sem]
  unfold eqv
  rw [← ByteArray.toList_eq, ← ByteArray.toList_eq]
  by_cases h1 : k = k2
  · by_cases h2 : n = n2
    · by_cases h3 : s.toList = s2.toList
      · simp [h1, h2, h3]
      · simp [h1, h2, h3]
    · simp [h1, h2]
  · simp [h1]
theorem run_neqv (k n k2 n2 : Int) (s s2 : ByteArray) (w : World) :
    (binOp .neq 23 (.agg #[.int .i64 k, .int .i64 n, .string s]) (.agg #[.int .i64 k2, .int .i64 n2, .string s2])).run Tryz.prog w = .ok (.bool (!eqv k n s k2 n2 s2)) w := by
  rw [run_neq_struct, run_equalIn_agg _ _ _ _ _ (by kernel_rfl) (by kernel_rfl)]
  simp [go_sem]
  unfold eqv
  rw [← ByteArray.toList_eq, ← ByteArray.toList_eq]
  by_cases h1 : k = k2
  · by_cases h2 : n = n2
    · by_cases h3 : s.toList = s2.toList
      · simp [h1, h2, h3]
      · simp [h1, h2, h3]
    · simp [h1, h2]
  · simp [h1]

theorem nullOr_any (k : Int) (a : Val) (w : World) :
    Calls Tryz.prog 160 #[.int .i64 k, a.v] w fun e w' => e = .returned (.bool (nullOrV k a)) ∧ Below w.heap.size w w' := by
  obtain ⟨ka, n, s⟩ := a
  unfold Val.v nullOrV
  by_cases h : ka = 0
  · subst h
    go_enter Tryz.func160, Tryz.ntmps160
    go_wp2
    go_ret
    exact ⟨rfl, by go_grown⟩
  · have d : (ka == 0) = false := beq_eq_false_iff_ne.2 h
    clear h
    rw [d]
    go_enter Tryz.func160, Tryz.ntmps160
    go_wp2
    go_ret
    exact ⟨rfl, by go_grown⟩

theorem holds_any (op c : Int) (w : World) :
    Calls Tryz.prog 114 #[.int .i64 op, .int .i64 c] w fun e w' => e = .returned (.bool (holdsV op c)) ∧ w' = w := by
  unfold holdsV
  by_cases h5 : op = 5
  · subst h5; go_enter Tryz.func114, Tryz.ntmps114
    go_wp2
    go_ret
    exact ⟨rfl, rfl⟩
  by_cases h6 : op = 6
  · subst h6; go_enter Tryz.func114, Tryz.ntmps114
    go_wp2
    go_ret
    exact ⟨rfl, rfl⟩
  by_cases h7 : op = 7
  · subst h7; go_enter Tryz.func114, Tryz.ntmps114
    go_wp2
    go_ret
    exact ⟨rfl, rfl⟩
  by_cases h8 : op = 8
  · subst h8; go_enter Tryz.func114, Tryz.ntmps114
    go_wp2
    go_ret
    exact ⟨rfl, rfl⟩
  by_cases h9 : op = 9
  · subst h9; go_enter Tryz.func114, Tryz.ntmps114
    go_wp2
    go_ret
    exact ⟨rfl, rfl⟩
  rw [if_neg h5, if_neg h6, if_neg h7, if_neg h8, if_neg h9]
  have d5 : (op == 5) = false := beq_eq_false_iff_ne.2 h5
  have d6 : (op == 6) = false := beq_eq_false_iff_ne.2 h6
  have d7 : (op == 7) = false := beq_eq_false_iff_ne.2 h7
  have d8 : (op == 8) = false := beq_eq_false_iff_ne.2 h8
  have d9 : (op == 9) = false := beq_eq_false_iff_ne.2 h9
  clear h5 h6 h7 h8 h9
  go_enter Tryz.func114, Tryz.ntmps114
  go_wp2
  go_ret
  exact ⟨rfl, rfl⟩

set_option maxHeartbeats 400000 in
theorem true_any (a : Val) (w : World) :
    Calls Tryz.prog 106 #[a.v] w fun e w' => e = .returned (.bool (a.eqb (truthV true))) ∧ Below w.heap.size w w' := by
  obtain ⟨k, n, s⟩ := a
  unfold Val.v
  simp only []
  obtain ⟨c0, c1, c2, _⟩ := Box.new w k n s 23
  have g0 := cell_regrown c0
  have g1 := cell_regrown c1
  have g2 := cell_regrown c2
  clear c0 c1 c2
  have C1 : Hid (∀ d os, Calls Tryz.prog 105 #[.bool true] (grow (redrawn (w.alloc (.cells #[.int .i64 k, .int .i64 n, .string s] 23)) d) os) fun e w'' => e = .returned (.agg #[.int .i64 1, .int .i64 1, .string ⟨#[]⟩]) ∧ ∃ p : Regrown, w'' = grow (redrawn (w.alloc (.cells #[.int .i64 k, .int .i64 n, .string s] 23)) p.d) p.os) :=
    fun d os => Calls.regrown_of (kTruth_any true _)
  have he := run_eqv
  go_enter Tryz.func106, Tryz.ntmps106
  go_wp2_with fail
  refine wp_region_quiet_below (by kernel_rfl) (by kernel_rfl) ?_
  repeat (quiet_step (first | (go_at_call 105; with_reducible exact C1.out _ _)))
  refine wpQuiet_nil ?_
  intro _ hw'
  obtain ⟨⟨dq, osq⟩, hw''⟩ := hw'
  subst hw''
  go_wp2
  go_ret
  exact ⟨rfl, (show Below w.heap.size w (w.alloc _) by go_grown).trans ((below_regrown _ dq osq).mono (by simp))⟩

set_option maxHeartbeats 400000 in
theorem fit_logic (op : Int) (a b : Val) (w : World) (h : op ≤ 4) :
    Calls Tryz.prog 111 #[.int .i64 op, a.v, b.v] w fun e w' => e = .returned (.bool (nullOrV 1 a && nullOrV 1 b)) ∧ Below w.heap.size w w' := by
  have C1 := fun w => nullOr_any 1 a w
  have C2 := fun w => nullOr_any 1 b w
  generalize nullOrV 1 a = x at *
  generalize nullOrV 1 b = y at *
  obtain ⟨k1, n1, s1⟩ := a
  obtain ⟨k2, n2, s2⟩ := b
  unfold Val.v at *
  cases x
  · go_enter Tryz.func111, Tryz.ntmps111
    go_wp2_with (go_at_call 160; with_reducible refine (C1 _).mono ?_; rintro e w1 ⟨rfl, b1⟩)
    go_ret
    exact ⟨rfl, below_new2 b1⟩
  · go_enter Tryz.func111, Tryz.ntmps111
    go_wp2_with (first
      | (go_at_call 160; with_reducible refine (C1 _).mono ?_; rintro e w1 ⟨rfl, b1⟩; obtain ⟨c0, c1, c2, _⟩ := ((Box.at (b := w.heap.size + 1) (by simp) k2 n2 s2 23).below b1).out)
      | (go_at_call 160; with_reducible refine (C2 _).mono ?_; rintro e w2 ⟨rfl, b2⟩))
    go_ret
    exact ⟨rfl, (below_new2 b1).trans (b2.mono (below_new2 b1).size)⟩

set_option maxHeartbeats 400000 in
theorem fit_cat (op : Int) (a b : Val) (w : World) (h : op = 16) :
    Calls Tryz.prog 111 #[.int .i64 op, a.v, b.v] w fun e w' => e = .returned (.bool (nullOrV 3 a && nullOrV 3 b)) ∧ Below w.heap.size w w' := by
  have C1 := fun w => nullOr_any 3 a w
  have C2 := fun w => nullOr_any 3 b w
  generalize nullOrV 3 a = x at *
  generalize nullOrV 3 b = y at *
  obtain ⟨k1, n1, s1⟩ := a
  obtain ⟨k2, n2, s2⟩ := b
  unfold Val.v at *
  cases x
  · go_enter Tryz.func111, Tryz.ntmps111
    go_wp2_with (go_at_call 160; with_reducible refine (C1 _).mono ?_; rintro e w1 ⟨rfl, b1⟩)
    go_ret
    exact ⟨rfl, below_new2 b1⟩
  · go_enter Tryz.func111, Tryz.ntmps111
    go_wp2_with (first
      | (go_at_call 160; with_reducible refine (C1 _).mono ?_; rintro e w1 ⟨rfl, b1⟩; obtain ⟨c0, c1, c2, _⟩ := ((Box.at (b := w.heap.size + 1) (by simp) k2 n2 s2 23).below b1).out)
      | (go_at_call 160; with_reducible refine (C2 _).mono ?_; rintro e w2 ⟨rfl, b2⟩))
    go_ret
    exact ⟨rfl, (below_new2 b1).trans (b2.mono (below_new2 b1).size)⟩

set_option maxHeartbeats 400000 in
theorem fit_sum (op : Int) (a b : Val) (w : World) (h : 10 < op) (h2 : op < 16) :
    Calls Tryz.prog 111 #[.int .i64 op, a.v, b.v] w fun e w' => e = .returned (.bool (nullOrV 2 a && nullOrV 2 b)) ∧ Below w.heap.size w w' := by
  have C1 := fun w => nullOr_any 2 a w
  have C2 := fun w => nullOr_any 2 b w
  generalize nullOrV 2 a = x at *
  generalize nullOrV 2 b = y at *
  obtain ⟨k1, n1, s1⟩ := a
  obtain ⟨k2, n2, s2⟩ := b
  unfold Val.v at *
  cases x
  · go_enter Tryz.func111, Tryz.ntmps111
    go_wp2_with (go_at_call 160; with_reducible refine (C1 _).mono ?_; rintro e w1 ⟨rfl, b1⟩)
    go_ret
    exact ⟨rfl, below_new2 b1⟩
  · go_enter Tryz.func111, Tryz.ntmps111
    go_wp2_with (first
      | (go_at_call 160; with_reducible refine (C1 _).mono ?_; rintro e w1 ⟨rfl, b1⟩; obtain ⟨c0, c1, c2, _⟩ := ((Box.at (b := w.heap.size + 1) (by simp) k2 n2 s2 23).below b1).out)
      | (go_at_call 160; with_reducible refine (C2 _).mono ?_; rintro e w2 ⟨rfl, b2⟩))
    go_ret
    exact ⟨rfl, (below_new2 b1).trans (b2.mono (below_new2 b1).size)⟩

set_option maxHeartbeats 400000 in
theorem fit_cmp (op : Int) (a b : Val) (w : World) (h : 4 < op) (h2 : op ≤ 10) :
    Calls Tryz.prog 111 #[.int .i64 op, a.v, b.v] w fun e w' => e = .returned (.bool (nullOrV b.k a || b.k == 0)) ∧ Below w.heap.size w w' := by
  have C1 := fun w => nullOr_any b.k a w
  generalize nullOrV b.k a = x at *
  obtain ⟨k1, n1, s1⟩ := a
  obtain ⟨k2, n2, s2⟩ := b
  unfold Val.v at *
  simp only [] at *
  cases x
  · go_enter Tryz.func111, Tryz.ntmps111
    go_wp2_with (go_at_call 160; with_reducible refine (C1 _).mono ?_; rintro e w1 ⟨rfl, b1⟩; obtain ⟨c0, c1, c2, _⟩ := ((Box.at (b := w.heap.size + 1) (by simp) k2 n2 s2 23).below b1).out)
    go_ret
    exact ⟨rfl, below_new2 b1⟩
  · go_enter Tryz.func111, Tryz.ntmps111
    go_wp2_with (go_at_call 160; with_reducible refine (C1 _).mono ?_; rintro e w1 ⟨rfl, b1⟩)
    go_ret
    exact ⟨rfl, below_new2 b1⟩

theorem fit_any (op : Int) (a b : Val) (w : World) (h : op ≤ 16) :
    Calls Tryz.prog 111 #[.int .i64 op, a.v, b.v] w fun e w' => e = .returned (.bool (fitV op a b)) ∧ Below w.heap.size w w' := by
  unfold fitV
  by_cases h4 : op ≤ 4
  · rw [if_pos h4]; exact fit_logic op a b w h4
  · rw [if_neg h4]
    by_cases h10 : op ≤ 10
    · rw [if_pos h10]; exact fit_cmp op a b w (by omega) h10
    · rw [if_neg h10]
      by_cases h16 : op = 16
      · rw [if_pos h16]; exact fit_cat op a b w h16
      · rw [if_neg h16]; exact fit_sum op a b w (by omega) (by omega)
end Go.Proofs.YtblkhlhhlalbkaaGreatDoor
namespace Go.Proofs.YtblkhlhhlalbkaaGreatDoor
open Go.RowKit Go.Lib Go.Sort
set_option linter.unusedVariables false
set_option maxRecDepth 20000

theorem below_new3 {w w1 : World} {o o' o'' : Obj} (h : Below (((w.alloc o).alloc o').alloc o'').heap.size (((w.alloc o).alloc o').alloc o'') w1) : Below w.heap.size w w1 :=
  ((((Below.refl _ _).alloc (Nat.le_refl _) o).alloc (by simp) o').alloc (by simp; omega) o'').trans (h.mono (by simp; omega))
theorem below_new4 {w w1 : World} {o o' o'' o3 : Obj} (h : Below ((((w.alloc o).alloc o').alloc o'').alloc o3).heap.size ((((w.alloc o).alloc o').alloc o'').alloc o3) w1) : Below w.heap.size w w1 :=
  (((((Below.refl _ _).alloc (Nat.le_refl _) o).alloc (by simp) o').alloc (by simp; omega) o'').alloc (by simp; omega) o3).trans (h.mono (by simp; omega))

theorem boxes3 (w : World) (k1 n1 k2 n2 k3 n3 : Int) (s1 s2 s3 : ByteArray) (t : TypeId) :
    Box (((w.alloc (.cells #[.int .i64 k1, .int .i64 n1, .string s1] t)).alloc (.cells #[.int .i64 k2, .int .i64 n2, .string s2] t)).alloc (.cells #[.int .i64 k3, .int .i64 n3, .string s3] t)) w.heap.size ⟨k1, n1, s1⟩ ∧
    Box (((w.alloc (.cells #[.int .i64 k1, .int .i64 n1, .string s1] t)).alloc (.cells #[.int .i64 k2, .int .i64 n2, .string s2] t)).alloc (.cells #[.int .i64 k3, .int .i64 n3, .string s3] t)) (w.heap.size + 1) ⟨k2, n2, s2⟩ ∧
    Box (((w.alloc (.cells #[.int .i64 k1, .int .i64 n1, .string s1] t)).alloc (.cells #[.int .i64 k2, .int .i64 n2, .string s2] t)).alloc (.cells #[.int .i64 k3, .int .i64 n3, .string s3] t)) (w.heap.size + 1 + 1) ⟨k3, n3, s3⟩ :=
  ⟨((Box.new w k1 n1 s1 t).alloc _).alloc _, (Box.at (by simp) k2 n2 s2 t).alloc _, Box.at (by simp) k3 n3 s3 t⟩

set_option maxHeartbeats 1000000 in
theorem and_any (a b : Val) (w : World) :
    Calls Tryz.prog 112 #[a.v, b.v] w fun e w' => e = .returned (andV a b).v ∧ Below w.heap.size w w' := by
  obtain ⟨k1, n1, s1⟩ := a
  obtain ⟨k2, n2, s2⟩ := b
  have he := run_eqv
  cases dx : eqv k1 n1 s1 1 0 ⟨#[]⟩
  · cases dy : eqv k2 n2 s2 1 0 ⟨#[]⟩
    · by_cases h0 : k1 = 0
      · subst h0
        rw [show andV ⟨0, n1, s1⟩ ⟨k2, n2, s2⟩ = nullV by simp [andV, Val.eqb, truthV, dx, dy]]
        unfold Val.v
        go_enter Tryz.func112, Tryz.ntmps112
        go_wp2
        go_returns
        exact ⟨rfl, by go_grown⟩
      · have d0 : (k1 == 0) = false := beq_eq_false_iff_ne.2 h0
        by_cases h1 : k2 = 0
        · subst h1
          rw [show andV ⟨k1, n1, s1⟩ ⟨0, n2, s2⟩ = nullV by simp [andV, Val.eqb, truthV, dx, dy]]
          unfold Val.v
          clear h0
          go_enter Tryz.func112, Tryz.ntmps112
          go_wp2
          go_returns
          exact ⟨rfl, by go_grown⟩
        · have d1 : (k2 == 0) = false := beq_eq_false_iff_ne.2 h1
          rw [show andV ⟨k1, n1, s1⟩ ⟨k2, n2, s2⟩ = truthV true by simp [andV, Val.eqb, truthV, dx, dy, h0, h1]]
          unfold Val.v
          clear h0 h1
          go_enter Tryz.func112, Tryz.ntmps112
          go_wp2
          go_returns
          exact ⟨rfl, by go_grown⟩
    · rw [show andV ⟨k1, n1, s1⟩ ⟨k2, n2, s2⟩ = truthV false by simp [andV, Val.eqb, truthV, dx, dy]]
      unfold Val.v
      go_enter Tryz.func112, Tryz.ntmps112
      go_wp2
      go_returns
      exact ⟨rfl, by go_grown⟩
  · rw [show andV ⟨k1, n1, s1⟩ ⟨k2, n2, s2⟩ = truthV false by simp [andV, Val.eqb, truthV, dx]]
    unfold Val.v
    go_enter Tryz.func112, Tryz.ntmps112
    go_wp2
    go_returns
    exact ⟨rfl, by go_grown⟩

set_option maxHeartbeats 1000000 in
theorem or_any (a b : Val) (w : World) :
    Calls Tryz.prog 113 #[a.v, b.v] w fun e w' => e = .returned (orV a b).v ∧ Below w.heap.size w w' := by
  obtain ⟨k1, n1, s1⟩ := a
  obtain ⟨k2, n2, s2⟩ := b
  have C1 := fun w => true_any ⟨k1, n1, s1⟩ w
  have C2 := fun w => true_any ⟨k2, n2, s2⟩ w
  unfold Val.v at C1 C2
  simp only [] at C1 C2
  obtain ⟨bA, bB, bR⟩ := boxes3 w k1 n1 k2 n2 0 0 s1 s2 ⟨#[]⟩ 23
  cases dx : (⟨k1, n1, s1⟩ : Val).eqb (truthV true)
  · rw [dx] at C1
    cases dy : (⟨k2, n2, s2⟩ : Val).eqb (truthV true)
    · rw [dy] at C2
      by_cases h0 : k1 = 0
      · subst h0
        rw [show orV ⟨0, n1, s1⟩ ⟨k2, n2, s2⟩ = nullV by simp [orV, dx, dy]]
        clear dx dy
        unfold Val.v
        go_enter Tryz.func113, Tryz.ntmps113
        go_wp2_with (first
          | (go_at_call 106; with_reducible refine (C1 _).mono ?_; rintro e w1 ⟨rfl, b1⟩; obtain ⟨c0, c1, c2, _⟩ := (bB.below b1).out; obtain ⟨r0, r1, r2, f0, f1, f2⟩ := (bR.below b1).out; have B1 := below_new3 b1)
          | (go_at_call 106; with_reducible refine (C2 _).mono ?_; rintro e w2 ⟨rfl, b2⟩; obtain ⟨a0, a1, a2, _⟩ := ((bA.below b1).below b2).out; obtain ⟨d0, d1, d2, _⟩ := ((bB.below b1).below b2).out; obtain ⟨r0, r1, r2, f0, f1, f2⟩ := ((bR.below b1).below b2).out; have B2 := B1.trans (b2.mono B1.size))
          | fail)
        refine bodyPost_ret (by simp [results, Tryz.results113, go_sem, r0, r1, r2]; try rfl) rfl ?_
        exact ⟨rfl, by go_grown⟩
      · have d0 : (k1 == 0) = false := beq_eq_false_iff_ne.2 h0
        by_cases h1 : k2 = 0
        · subst h1
          rw [show orV ⟨k1, n1, s1⟩ ⟨0, n2, s2⟩ = nullV by simp [orV, dx, dy]]
          clear dx dy h0
          unfold Val.v
          go_enter Tryz.func113, Tryz.ntmps113
          go_wp2_with (first
            | (go_at_call 106; with_reducible refine (C1 _).mono ?_; rintro e w1 ⟨rfl, b1⟩; obtain ⟨c0, c1, c2, _⟩ := (bB.below b1).out; obtain ⟨r0, r1, r2, f0, f1, f2⟩ := (bR.below b1).out; have B1 := below_new3 b1)
            | (go_at_call 106; with_reducible refine (C2 _).mono ?_; rintro e w2 ⟨rfl, b2⟩; obtain ⟨a0, a1, a2, _⟩ := ((bA.below b1).below b2).out; obtain ⟨d0, d1, d2, _⟩ := ((bB.below b1).below b2).out; obtain ⟨r0, r1, r2, f0, f1, f2⟩ := ((bR.below b1).below b2).out; have B2 := B1.trans (b2.mono B1.size))
            | fail)
          refine bodyPost_ret (by simp [results, Tryz.results113, go_sem, r0, r1, r2]; try rfl) rfl ?_
          exact ⟨rfl, by go_grown⟩
        · have d1 : (k2 == 0) = false := beq_eq_false_iff_ne.2 h1
          rw [show orV ⟨k1, n1, s1⟩ ⟨k2, n2, s2⟩ = truthV false by simp [orV, dx, dy, h0, h1]]
          clear dx dy h0 h1
          unfold Val.v
          go_enter Tryz.func113, Tryz.ntmps113
          go_wp2_with (first
            | (go_at_call 106; with_reducible refine (C1 _).mono ?_; rintro e w1 ⟨rfl, b1⟩; obtain ⟨c0, c1, c2, _⟩ := (bB.below b1).out; obtain ⟨r0, r1, r2, f0, f1, f2⟩ := (bR.below b1).out; have B1 := below_new3 b1)
            | (go_at_call 106; with_reducible refine (C2 _).mono ?_; rintro e w2 ⟨rfl, b2⟩; obtain ⟨a0, a1, a2, _⟩ := ((bA.below b1).below b2).out; obtain ⟨d0, d1, d2, _⟩ := ((bB.below b1).below b2).out; obtain ⟨r0, r1, r2, f0, f1, f2⟩ := ((bR.below b1).below b2).out; have B2 := B1.trans (b2.mono B1.size))
            | (go_at_call 105; with_reducible refine (kTruth_any _ _).mono ?_; rintro e w3 ⟨rfl, b3⟩; obtain ⟨r0, r1, r2, f0, f1, f2⟩ := (((bR.below b1).below b2).below b3).out; have B3 := B2.trans (b3.mono B2.size))
            | fail)
          refine bodyPost_ret (by simp [results, Tryz.results113, go_sem, r0, r1, r2]; try rfl) rfl ?_
          exact ⟨rfl, by go_grown⟩
    · rw [dy] at C2
      rw [show orV ⟨k1, n1, s1⟩ ⟨k2, n2, s2⟩ = truthV true by simp [orV, dx, dy]]
      clear dx dy
      unfold Val.v
      go_enter Tryz.func113, Tryz.ntmps113
      go_wp2_with (first
        | (go_at_call 106; with_reducible refine (C1 _).mono ?_; rintro e w1 ⟨rfl, b1⟩; obtain ⟨c0, c1, c2, _⟩ := (bB.below b1).out; obtain ⟨r0, r1, r2, f0, f1, f2⟩ := (bR.below b1).out; have B1 := below_new3 b1)
        | (go_at_call 106; with_reducible refine (C2 _).mono ?_; rintro e w2 ⟨rfl, b2⟩; obtain ⟨a0, a1, a2, _⟩ := ((bA.below b1).below b2).out; obtain ⟨d0, d1, d2, _⟩ := ((bB.below b1).below b2).out; obtain ⟨r0, r1, r2, f0, f1, f2⟩ := ((bR.below b1).below b2).out; have B2 := B1.trans (b2.mono B1.size))
        | (go_at_call 105; with_reducible refine (kTruth_any _ _).mono ?_; rintro e w3 ⟨rfl, b3⟩; obtain ⟨r0, r1, r2, f0, f1, f2⟩ := (((bR.below b1).below b2).below b3).out; have B3 := B2.trans (b3.mono B2.size))
        | fail)
      refine bodyPost_ret (by simp [results, Tryz.results113, go_sem, r0, r1, r2]; try rfl) rfl ?_
      exact ⟨rfl, by go_grown⟩
  · rw [dx] at C1
    rw [show orV ⟨k1, n1, s1⟩ ⟨k2, n2, s2⟩ = truthV true by simp [orV, dx]]
    clear dx
    unfold Val.v
    go_enter Tryz.func113, Tryz.ntmps113
    go_wp2_with (first
      | (go_at_call 106; with_reducible refine (C1 _).mono ?_; rintro e w1 ⟨rfl, b1⟩; obtain ⟨c0, c1, c2, _⟩ := (bB.below b1).out; obtain ⟨r0, r1, r2, f0, f1, f2⟩ := (bR.below b1).out; have B1 := below_new3 b1)
      | (go_at_call 105; with_reducible refine (kTruth_any _ _).mono ?_; rintro e w3 ⟨rfl, b3⟩; obtain ⟨r0, r1, r2, f0, f1, f2⟩ := ((bR.below b1).below b3).out; have B3 := B1.trans (b3.mono B1.size))
      | fail)
    refine bodyPost_ret (by simp [results, Tryz.results113, go_sem, r0, r1, r2]; try rfl) rfl ?_
    exact ⟨rfl, by go_grown⟩
end Go.Proofs.YtblkhlhhlalbkaaGreatDoor
namespace Go.Proofs.YtblkhlhhlalbkaaGreatDoor
open Go.RowKit Go.Lib Go.Sort
set_option linter.unusedVariables false
set_option maxRecDepth 20000

def argsV (f : Int) : Int := if f = 1 ∨ f = 2 ∨ f = 3 ∨ f = 4 then 1 else if f = 6 then 2 else if f = 5 then 3 else 0
def takesV (f i k : Int) : Bool := if f = 1 then (k == 3 || k == 4) else if f = 2 then k == 2 else if f = 5 ∧ 0 < i then k == 2 else k == 3
/-- Does the value at a place not go there? -/
def badV (f : Int) (i : Nat) (v : Val) : Bool := v.k != 0 && !takesV f i v.k
def isNull (v : Val) : Bool := v.k == 0

theorem args_any (f : Int) (w : World) :
    Calls Tryz.prog 119 #[.int .i64 f] w fun e w' => e = .returned (.int .i64 (argsV f)) ∧ w' = w := by
  unfold argsV
  by_cases h1 : f = 1
  · subst h1
    rw [show (if ((1 : Int) = 1 ∨ (1 : Int) = 2 ∨ (1 : Int) = 3 ∨ (1 : Int) = 4) then 1 else if (1 : Int) = 6 then 2 else if (1 : Int) = 5 then 3 else 0 : Int) = 1 by decide]
    go_enter Tryz.func119, Tryz.ntmps119
    go_wp2
    go_ret
    exact ⟨rfl, rfl⟩
  by_cases h2 : f = 2
  · subst h2
    rw [show (if ((2 : Int) = 1 ∨ (2 : Int) = 2 ∨ (2 : Int) = 3 ∨ (2 : Int) = 4) then 1 else if (2 : Int) = 6 then 2 else if (2 : Int) = 5 then 3 else 0 : Int) = 1 by decide]
    go_enter Tryz.func119, Tryz.ntmps119
    go_wp2
    go_ret
    exact ⟨rfl, rfl⟩
  by_cases h3 : f = 3
  · subst h3
    rw [show (if ((3 : Int) = 1 ∨ (3 : Int) = 2 ∨ (3 : Int) = 3 ∨ (3 : Int) = 4) then 1 else if (3 : Int) = 6 then 2 else if (3 : Int) = 5 then 3 else 0 : Int) = 1 by decide]
    go_enter Tryz.func119, Tryz.ntmps119
    go_wp2
    go_ret
    exact ⟨rfl, rfl⟩
  by_cases h4 : f = 4
  · subst h4
    rw [show (if ((4 : Int) = 1 ∨ (4 : Int) = 2 ∨ (4 : Int) = 3 ∨ (4 : Int) = 4) then 1 else if (4 : Int) = 6 then 2 else if (4 : Int) = 5 then 3 else 0 : Int) = 1 by decide]
    go_enter Tryz.func119, Tryz.ntmps119
    go_wp2
    go_ret
    exact ⟨rfl, rfl⟩
  by_cases h6 : f = 6
  · subst h6
    rw [show (if ((6 : Int) = 1 ∨ (6 : Int) = 2 ∨ (6 : Int) = 3 ∨ (6 : Int) = 4) then 1 else if (6 : Int) = 6 then 2 else if (6 : Int) = 5 then 3 else 0 : Int) = 2 by decide]
    go_enter Tryz.func119, Tryz.ntmps119
    go_wp2
    go_ret
    exact ⟨rfl, rfl⟩
  by_cases h5 : f = 5
  · subst h5
    rw [show (if ((5 : Int) = 1 ∨ (5 : Int) = 2 ∨ (5 : Int) = 3 ∨ (5 : Int) = 4) then 1 else if (5 : Int) = 6 then 2 else if (5 : Int) = 5 then 3 else 0 : Int) = 3 by decide]
    go_enter Tryz.func119, Tryz.ntmps119
    go_wp2
    go_ret
    exact ⟨rfl, rfl⟩
  rw [if_neg (by omega), if_neg h6, if_neg h5]
  have d1 : (f == 1) = false := beq_eq_false_iff_ne.2 h1
  have d2 : (f == 2) = false := beq_eq_false_iff_ne.2 h2
  have d3 : (f == 3) = false := beq_eq_false_iff_ne.2 h3
  have d4 : (f == 4) = false := beq_eq_false_iff_ne.2 h4
  have d5 : (f == 5) = false := beq_eq_false_iff_ne.2 h5
  have d6 : (f == 6) = false := beq_eq_false_iff_ne.2 h6
  clear h1 h2 h3 h4 h5 h6
  go_enter Tryz.func119, Tryz.ntmps119
  go_wp2
  go_ret
  exact ⟨rfl, rfl⟩

theorem takes_any (f i k : Int) (w : World) :
    Calls Tryz.prog 121 #[.int .i64 f, .int .i64 i, .int .i64 k] w fun e w' => e = .returned (.bool (takesV f i k)) ∧ w' = w := by
  unfold takesV
  by_cases h1 : f = 1
  · subst h1
    rw [if_pos rfl]
    by_cases h3 : k = 3
    · subst h3
      go_enter Tryz.func121, Tryz.ntmps121
      go_wp2
      go_ret
      exact ⟨rfl, rfl⟩
    · have d3 : (k == 3) = false := beq_eq_false_iff_ne.2 h3
      rw [d3]
      clear h3
      go_enter Tryz.func121, Tryz.ntmps121
      go_wp2
      go_ret
      exact ⟨rfl, rfl⟩
  rw [if_neg h1]
  have d1 : (f == 1) = false := beq_eq_false_iff_ne.2 h1
  by_cases h2 : f = 2
  · subst h2
    rw [if_pos rfl]
    clear h1
    go_enter Tryz.func121, Tryz.ntmps121
    go_wp2
    go_ret
    exact ⟨rfl, rfl⟩
  rw [if_neg h2]
  have d2 : (f == 2) = false := beq_eq_false_iff_ne.2 h2
  by_cases h5 : f = 5
  · subst h5
    clear h1 h2
    by_cases hi : 0 < i
    · rw [if_pos ⟨rfl, hi⟩]
      go_enter Tryz.func121, Tryz.ntmps121
      go_wp2
      go_ret
      exact ⟨rfl, rfl⟩
    · rw [if_neg (fun h => hi h.2)]
      go_enter Tryz.func121, Tryz.ntmps121
      go_wp2
      go_ret
      exact ⟨rfl, rfl⟩
  rw [if_neg (fun h => h5 h.1)]
  have d5 : (f == 5) = false := beq_eq_false_iff_ne.2 h5
  clear h1 h2 h5
  go_enter Tryz.func121, Tryz.ntmps121
  go_wp2
  go_ret
  exact ⟨rfl, rfl⟩


def coalV (a b : Val) : Ans := if a.k = 0 then ⟨b, 0⟩ else if nullOrV a.k b then ⟨a, 0⟩ else ⟨nullV, 35⟩

set_option maxHeartbeats 400000 in
theorem coalesce_any (a b : Val) (w : World) :
    Calls Tryz.prog 120 #[a.v, b.v] w fun e w' => e = .returned (coalV a b).out ∧ Below w.heap.size w w' := by
  obtain ⟨k1, n1, s1⟩ := a
  obtain ⟨k2, n2, s2⟩ := b
  unfold coalV
  by_cases h0 : k1 = 0
  · rw [if_pos h0]
    subst h0
    unfold Val.v
    go_enter Tryz.func120, Tryz.ntmps120
    go_wp2
    go_returns
    exact ⟨rfl, by go_grown⟩
  · rw [if_neg h0]
    have d0 : (k1 == 0) = false := beq_eq_false_iff_ne.2 h0
    have C1 := fun w => nullOr_any k1 ⟨k2, n2, s2⟩ w
    unfold Val.v at *
    simp only [] at *
    obtain ⟨bA, bB, bR⟩ := boxes3 w k1 n1 k2 n2 0 0 s1 s2 ⟨#[]⟩ 23
    generalize nullOrV k1 ⟨k2, n2, s2⟩ = x at *
    clear h0
    cases x
    all_goals
      go_enter Tryz.func120, Tryz.ntmps120
      go_wp2_with (go_at_call 160; with_reducible refine (C1 _).mono ?_; rintro e w1 ⟨rfl, b1⟩; obtain ⟨a0, a1, a2, _⟩ := (bA.below b1).out; obtain ⟨r0, r1, r2, f0, f1, f2⟩ := (bR.below b1).out; have B1 := below_new3 b1)
      refine bodyPost_ret (by simp [results, Tryz.results120, go_sem, r0, r1, r2]; try rfl) rfl ?_
      exact ⟨rfl, by go_grown⟩
end Go.Proofs.YtblkhlhhlalbkaaGreatDoor
namespace Go.Proofs.YtblkhlhhlalbkaaGreatDoor
open Go.RowKit Go.Lib Go.Sort
set_option linter.unusedVariables false
set_option maxRecDepth 20000

theorem endA_out {k n er : Int} {s : ByteArray} {e : Ending} (h : endA ⟨⟨k, n, s⟩, er⟩ e) :
    e = .returned (.tuple #[.agg #[.int .i64 k, .int .i64 n, .string s], .int .i64 er]) ∨ (e = .panicked thrown ∧ (⟨k, n, s⟩ : Val) = nullV ∧ er = 40) := h

set_option maxHeartbeats 400000 in
theorem unary1_any (b : Nat) (a : Val) (w : World) (hB : Box w b a) (hn : inR a.n) :
    Calls Tryz.prog 108 #[.pointer (some ⟨b, 0, none⟩)] w fun e w' => endA (over (0 - a.n)) e ∧ Below w.heap.size w w' := by
  obtain ⟨k, n, s⟩ := a
  have Q := fun w => difference_any 0 n w (by decide) hn
  obtain ⟨c0, c1, c2, _⟩ := (hB.alloc (.cells #[.int .i64 0, .int .i64 0, .string ⟨#[]⟩] 23)).out
  by_cases h : inR (0 - n)
  · rw [endN_in h] at Q
    rw [show over (0 - n) = ⟨numV (0 - n), 0⟩ from if_pos h]
    clear h hn hB
    generalize 0 - n = m at *
    go_enter Tryz.func108, Tryz.ntmps108
    go_wp2_with (first
      | (go_at_call 110; with_reducible refine (Q _).mono ?_; rintro e w' ⟨rfl, rfl⟩)
      | (go_at_call 109; with_reducible refine (number_any _ _).mono ?_; rintro e w1 ⟨rfl, b1⟩; obtain ⟨r0, r1, r2, f0, f1, f2⟩ := cells3 b1; have B1 := below_new b1))
    refine bodyPost_ret (by simp [results, Tryz.results108, go_sem, r0, r1, r2]; try rfl) rfl ?_
    exact ⟨Or.inl rfl, by go_grown⟩
  · rw [endN_out h] at Q
    rw [show over (0 - n) = ⟨nullV, 40⟩ from if_neg h]
    clear h hn hB
    go_enter Tryz.func108, Tryz.ntmps108
    go_wp2_with (go_at_call 110; with_reducible refine (Q _).mono ?_; rintro e w' ⟨rfl, rfl⟩)
    exact ⟨rfl, Or.inr ⟨rfl, rfl, rfl⟩, by go_grown⟩

theorem enters_unary1 (args : Array Value) (w : World) : (callFunc 108 args).run Tryz.prog w = .ok (.enter 108 args) w := by
  first | (simp [go_sem]; done) | kernel_rfl

theorem Ans.out_eq (x : Ans) : x.out = .tuple #[.agg #[.int .i64 x.v.k, .int .i64 x.v.n, .string x.v.s], .int .i64 x.e] := rfl

set_option maxHeartbeats 400000 in
theorem unary_neg (a : Val) (w : World) (hn : inR a.n) (h2 : a.k = 2) :
    Calls Tryz.prog 79 #[.int .i64 1, a.v] w fun e w' => e = .returned (over (0 - a.n)).out ∧ Below w.heap.size w w' := by
  have hmf : ∀ (fn : Fn) (first cap : Array Value) (w : World), (Instr.makeFunc fn first cap).run Tryz.prog w = .ok (.func fn first cap) w := fun _ _ _ _ => rfl
  obtain ⟨k, n, s⟩ := a
  obtain rfl : k = 2 := h2
  unfold Val.v
  simp only [] at *
  have bA := (Box.new w 2 n s 23).alloc (.cells #[.int .i64 0, .int .i64 0, .string ⟨#[]⟩] 23)
  have bR := Box.at (b := w.heap.size + 1) (w := w.alloc (.cells #[.int .i64 2, .int .i64 n, .string s] 23)) (by simp) 0 0 ⟨#[]⟩ 23
  have Q := caught_any 108 #[.pointer (some ⟨w.heap.size, 0, none⟩)] (over (0 - n)) _ (enters_unary1 _) (fun w0 b0 => unary1_any w.heap.size ⟨2, n, s⟩ w0 (bA.below b0) hn)
  rw [Ans.out_eq] at *
  generalize over (0 - n) = x at *
  obtain ⟨⟨k', n', s'⟩, er⟩ := x
  simp only [] at *
  clear hn
  go_enter Tryz.func79, Tryz.ntmps79
  go_wp2_with (go_at_call 107; with_reducible refine Q.mono ?_; rintro e w1 ⟨rfl, b1⟩; obtain ⟨r0, r1, r2, f0, f1, f2⟩ := (bR.below b1).out; have B1 := below_new2 b1)
  refine bodyPost_ret (by simp [results, Tryz.results79, go_sem, r0, r1, r2]; try rfl) rfl ?_
  exact ⟨rfl, by go_grown⟩

set_option maxHeartbeats 400000 in
theorem unary_kind (op : Int) (a : Val) (w : World) (h1 : (op == 1) = false) (h2 : (op == 2) = false) :
    Calls Tryz.prog 79 #[.int .i64 op, a.v] w fun e w' => e = .returned (⟨nullV, 5⟩ : Ans).out ∧ Below w.heap.size w w' := by
  obtain ⟨k, n, s⟩ := a
  unfold Val.v
  go_enter Tryz.func79, Tryz.ntmps79
  go_wp2
  go_returns
  exact ⟨rfl, by go_grown⟩

set_option maxHeartbeats 400000 in
theorem unary_null (op : Int) (n : Int) (s : ByteArray) (w : World) (h : op = 1 ∨ op = 2) :
    Calls Tryz.prog 79 #[.int .i64 op, .agg #[.int .i64 0, .int .i64 n, .string s]] w fun e w' => e = .returned (⟨nullV, 0⟩ : Ans).out ∧ Below w.heap.size w w' := by
  rcases h with rfl | rfl
  all_goals
    go_enter Tryz.func79, Tryz.ntmps79
    go_wp2
    go_returns
    exact ⟨rfl, by go_grown⟩

set_option maxHeartbeats 400000 in
theorem unary_type1 (k n : Int) (s : ByteArray) (w : World) (h0 : (k == 0) = false) (h : (k != 2) = true) :
    Calls Tryz.prog 79 #[.int .i64 1, .agg #[.int .i64 k, .int .i64 n, .string s]] w fun e w' => e = .returned (⟨nullV, 35⟩ : Ans).out ∧ Below w.heap.size w w' := by
  go_enter Tryz.func79, Tryz.ntmps79
  go_wp2
  go_returns
  exact ⟨rfl, by go_grown⟩
set_option maxHeartbeats 400000 in
theorem unary_type2 (k n : Int) (s : ByteArray) (w : World) (h0 : (k == 0) = false) (h : (k != 1) = true) :
    Calls Tryz.prog 79 #[.int .i64 2, .agg #[.int .i64 k, .int .i64 n, .string s]] w fun e w' => e = .returned (⟨nullV, 35⟩ : Ans).out ∧ Below w.heap.size w w' := by
  go_enter Tryz.func79, Tryz.ntmps79
  go_wp2
  go_returns
  exact ⟨rfl, by go_grown⟩

set_option maxHeartbeats 400000 in
theorem unary_not (n : Int) (s : ByteArray) (w : World) :
    Calls Tryz.prog 79 #[.int .i64 2, .agg #[.int .i64 1, .int .i64 n, .string s]] w fun e w' => e = .returned (⟨truthV (!(⟨1, n, s⟩ : Val).eqb (truthV true)), 0⟩ : Ans).out ∧ Below w.heap.size w w' := by
  have C := fun w => true_any ⟨1, n, s⟩ w
  unfold Val.v at C
  simp only [] at C
  generalize (⟨1, n, s⟩ : Val).eqb (truthV true) = x at *
  have bR := Box.at (b := w.heap.size + 1) (w := w.alloc (.cells #[.int .i64 1, .int .i64 n, .string s] 23)) (by simp) 0 0 ⟨#[]⟩ 23
  cases x
  all_goals
    go_enter Tryz.func79, Tryz.ntmps79
    go_wp2_with (first
      | (go_at_call 106; with_reducible refine (C _).mono ?_; rintro e w1 ⟨rfl, b1⟩; have B1 := below_new2 b1)
      | (go_at_call 105; with_reducible refine (kTruth_any _ _).mono ?_; rintro e w2 ⟨rfl, b2⟩; obtain ⟨r0, r1, r2, f0, f1, f2⟩ := ((bR.below b1).below b2).out; have B2 := B1.trans (b2.mono B1.size)))
    refine bodyPost_ret (by simp [results, Tryz.results79, go_sem, r0, r1, r2]; try rfl) rfl ?_
    exact ⟨rfl, by go_grown⟩

theorem unary_any (op : Int) (a : Val) (w : World) (hn : inR a.n) :
    Calls Tryz.prog 79 #[.int .i64 op, a.v] w fun e w' => e = .returned (unV op a).out ∧ Below w.heap.size w w' := by
  by_cases h1 : op = 1 ∨ op = 2
  · by_cases h0 : a.k = 0
    · rw [show unV op a = ⟨nullV, 0⟩ by unfold unV; rw [if_neg (by omega), if_pos h0]]
      obtain ⟨k, n, s⟩ := a
      obtain rfl : k = 0 := h0
      exact unary_null op n s w h1
    · have d0 : (a.k == 0) = false := beq_eq_false_iff_ne.2 h0
      rcases h1 with rfl | rfl
      · by_cases h2 : a.k = 2
        · rw [show unV 1 a = over (0 - a.n) by unfold unV; rw [if_neg (by omega), if_neg h0, if_neg (by omega), if_pos h2]]
          exact unary_neg a w hn h2
        · rw [show unV 1 a = ⟨nullV, 35⟩ by unfold unV; rw [if_neg (by omega), if_neg h0, if_neg (by omega), if_neg h2]]
          exact unary_type1 a.k a.n a.s w d0 (bne_iff_ne.2 h2)
      · by_cases h2 : a.k = 1
        · rw [show unV 2 a = ⟨truthV (!a.eqb (truthV true)), 0⟩ by unfold unV; rw [if_neg (by omega), if_neg h0, if_pos rfl, if_pos h2]]
          obtain ⟨k, n, s⟩ := a
          obtain rfl : k = 1 := h2
          exact unary_not n s w
        · rw [show unV 2 a = ⟨nullV, 35⟩ by unfold unV; rw [if_neg (by omega), if_neg h0, if_pos rfl, if_neg h2]]
          exact unary_type2 a.k a.n a.s w d0 (bne_iff_ne.2 h2)
  · rw [show unV op a = ⟨nullV, 5⟩ by unfold unV; rw [if_pos (by omega)]]
    exact unary_kind op a w (beq_eq_false_iff_ne.2 (by omega)) (beq_eq_false_iff_ne.2 (by omega))
end Go.Proofs.YtblkhlhhlalbkaaGreatDoor
namespace Go.Proofs.YtblkhlhhlalbkaaGreatDoor
open Go.RowKit Go.Lib Go.Sort
set_option linter.unusedVariables false
set_option maxRecDepth 20000

theorem Box.drew {w : World} {b : Nat} {a : Val} (h : Box w b a) : Box w.drew b a := h.below ((Below.refl _ _).drew)
theorem Box.put {w : World} {b : Nat} {z : Val} (h : Box w b z) (k n : Int) (s : ByteArray) : Box (((w.setCell ⟨b, 0, none⟩ (.int .i64 k)).setCell ⟨b, 1, none⟩ (.int .i64 n)).setCell ⟨b, 2, none⟩ (.string s)) b ⟨k, n, s⟩ := by
  obtain ⟨c0, c1, c2, f0, f1, f2⟩ := h
  unfold Box
  refine ⟨?_, ?_, ?_, ?_, ?_, ?_⟩ <;> simp [go_sem, c0, c1, c2, f0, f1, f2]
theorem Box.put3 {w : World} {b d : Nat} {a : Val} (h : Box w b a) (hne : d ≠ b) (x y z : Value) : Box (((w.setCell ⟨d, 0, none⟩ x).setCell ⟨d, 1, none⟩ y).setCell ⟨d, 2, none⟩ z) b a :=
  ((h.set (p := ⟨d, 0, none⟩) hne x).set (p := ⟨d, 1, none⟩) hne y).set (p := ⟨d, 2, none⟩) hne z
theorem below_put3 {B d : Nat} {a w : World} (h : Below B a w) (hd : B ≤ d) (x y z : Value) : Below B a (((w.setCell ⟨d, 0, none⟩ x).setCell ⟨d, 1, none⟩ y).setCell ⟨d, 2, none⟩ z) :=
  ((h.setCell (p := ⟨d, 0, none⟩) hd x).setCell (p := ⟨d, 1, none⟩) hd y).setCell (p := ⟨d, 2, none⟩) hd z
theorem below_newd {w w1 : World} {o : Obj} (h : Below (w.alloc o).drew.heap.size (w.alloc o).drew w1) : Below w.heap.size w w1 :=
  ((Below.refl _ _).alloc (Nat.le_refl _) o).drew.trans (h.mono (by simp))
end Go.Proofs.YtblkhlhhlalbkaaGreatDoor
namespace Go.Proofs.YtblkhlhhlalbkaaGreatDoor
open Go.RowKit Go.Lib Go.Sort
set_option linter.unusedVariables false
set_option maxRecDepth 20000

theorem refNumber_any (n : Int) (w : World) :
    Calls Tryz.prog 45 #[.int .i64 n] w fun e w' => e = .returned (.agg #[.int .i64 2, .int .i64 n, .string ⟨#[]⟩]) ∧ Below w.heap.size w w' := by
  go_enter Tryz.func45, Tryz.ntmps45
  go_wp2
  go_returns
  exact ⟨rfl, by go_grown⟩
theorem refTruth_any (b : Bool) (w : World) :
    Calls Tryz.prog 28 #[.bool b] w fun e w' => e = .returned (.agg #[.int .i64 1, .int .i64 (if b then 1 else 0), .string ⟨#[]⟩]) ∧ Below w.heap.size w w' := by
  cases b
  all_goals
    go_enter Tryz.func28, Tryz.ntmps28
    go_wp2
    go_returns
    exact ⟨rfl, by go_grown⟩
theorem refText_any (s : ByteArray) (w : World) :
    Calls Tryz.prog 50 #[.string s] w fun e w' => e = .returned (.agg #[.int .i64 3, .int .i64 0, .string s]) ∧ Below w.heap.size w w' := by
  go_enter Tryz.func50, Tryz.ntmps50
  go_wp2
  go_returns
  exact ⟨rfl, by go_grown⟩

theorem refHolds_any (op c : Int) (w : World) :
    Calls Tryz.prog 48 #[.int .i64 op, .int .i64 c] w fun e w' => e = .returned (.bool (holdsV op c)) ∧ w' = w := by
  unfold holdsV
  by_cases h5 : op = 5
  · subst h5; go_enter Tryz.func48, Tryz.ntmps48
    go_wp2
    go_ret
    exact ⟨rfl, rfl⟩
  by_cases h6 : op = 6
  · subst h6; go_enter Tryz.func48, Tryz.ntmps48
    go_wp2
    go_ret
    exact ⟨rfl, rfl⟩
  by_cases h7 : op = 7
  · subst h7; go_enter Tryz.func48, Tryz.ntmps48
    go_wp2
    go_ret
    exact ⟨rfl, rfl⟩
  by_cases h8 : op = 8
  · subst h8; go_enter Tryz.func48, Tryz.ntmps48
    go_wp2
    go_ret
    exact ⟨rfl, rfl⟩
  by_cases h9 : op = 9
  · subst h9; go_enter Tryz.func48, Tryz.ntmps48
    go_wp2
    go_ret
    exact ⟨rfl, rfl⟩
  rw [if_neg h5, if_neg h6, if_neg h7, if_neg h8, if_neg h9]
  have d5 : (op == 5) = false := beq_eq_false_iff_ne.2 h5
  have d6 : (op == 6) = false := beq_eq_false_iff_ne.2 h6
  have d7 : (op == 7) = false := beq_eq_false_iff_ne.2 h7
  have d8 : (op == 8) = false := beq_eq_false_iff_ne.2 h8
  have d9 : (op == 9) = false := beq_eq_false_iff_ne.2 h9
  clear h5 h6 h7 h8 h9
  go_enter Tryz.func48, Tryz.ntmps48
  go_wp2
  go_ret
  exact ⟨rfl, rfl⟩

/-- The number that an operator makes, without bounds. -/
def zV (op a b : Int) : Int := if op = 11 then a + b else if op = 12 then a - b else if op = 13 then a * b else if op = 14 then a.tdiv b else a.tmod b

theorem refSum_add (a b : Int) (w : World) (ha : inR a) (hb : inR b) :
    Calls Tryz.prog 51 #[.int .i64 11, .int .i64 a, .int .i64 b] w fun e w' => e = .returned (.tuple #[.int .i64 (wrap64 (a + b)), .bool (decide (inR (a + b)))]) ∧ w' = w := by
  obtain ⟨a1, a2⟩ := ha
  obtain ⟨b1, b2⟩ := hb
  by_cases h : inR (a + b)
  · rw [decide_eq_true h, wrap_in h]
    obtain ⟨h1, h2⟩ := h
    by_cases hp : 0 < b
    · have d : decide (a < a + b) = true := decide_eq_true (by omega)
      go_enter Tryz.func51, Tryz.ntmps51
      go_wp2
      go_returns
      exact ⟨rfl, rfl⟩
    · have d : decide (a < a + b) = false := decide_eq_false (by omega)
      go_enter Tryz.func51, Tryz.ntmps51
      go_wp2
      go_returns
      exact ⟨rfl, rfl⟩
  · rw [decide_eq_false h]
    unfold inR at h
    have h0 : (b == 0) = false := beq_eq_false_iff_ne.2 (by omega)
    by_cases hp : 0 < b
    · have d : decide (a < wrap64 (a + b)) = false := decide_eq_false (by rw [wrap_over (by omega) (by omega)]; omega)
      clear h
      go_enter Tryz.func51, Tryz.ntmps51
      go_wp2
      go_returns
      exact ⟨rfl, rfl⟩
    · have d : decide (a < wrap64 (a + b)) = true := decide_eq_true (by rw [wrap_under (by omega) (by omega)]; omega)
      clear h
      go_enter Tryz.func51, Tryz.ntmps51
      go_wp2
      go_returns
      exact ⟨rfl, rfl⟩

theorem refSum_sub (a b : Int) (w : World) (ha : inR a) (hb : inR b) :
    Calls Tryz.prog 51 #[.int .i64 12, .int .i64 a, .int .i64 b] w fun e w' => e = .returned (.tuple #[.int .i64 (wrap64 (a - b)), .bool (decide (inR (a - b)))]) ∧ w' = w := by
  obtain ⟨a1, a2⟩ := ha
  obtain ⟨b1, b2⟩ := hb
  by_cases h : inR (a - b)
  · rw [decide_eq_true h, wrap_in h]
    obtain ⟨h1, h2⟩ := h
    by_cases hp : 0 < b
    · have d : decide (a - b < a) = true := decide_eq_true (by omega)
      go_enter Tryz.func51, Tryz.ntmps51
      go_wp2
      go_returns
      exact ⟨rfl, rfl⟩
    · have d : decide (a - b < a) = false := decide_eq_false (by omega)
      go_enter Tryz.func51, Tryz.ntmps51
      go_wp2
      go_returns
      exact ⟨rfl, rfl⟩
  · rw [decide_eq_false h]
    unfold inR at h
    have h0 : (b == 0) = false := beq_eq_false_iff_ne.2 (by omega)
    by_cases hp : 0 < b
    · have d : decide (wrap64 (a - b) < a) = false := decide_eq_false (by rw [wrap_under (by omega) (by omega)]; omega)
      clear h
      go_enter Tryz.func51, Tryz.ntmps51
      go_wp2
      go_returns
      exact ⟨rfl, rfl⟩
    · have d : decide (wrap64 (a - b) < a) = true := decide_eq_true (by rw [wrap_over (by omega) (by omega)]; omega)
      clear h
      go_enter Tryz.func51, Tryz.ntmps51
      go_wp2
      go_returns
      exact ⟨rfl, rfl⟩

theorem times_zero (a b : Int) (w : World) (h : a = 0 ∨ b = 0) :
    Calls Tryz.prog 67 #[.int .i64 a, .int .i64 b] w fun e w' => e = .returned (.tuple #[.int .i64 0, .bool true]) ∧ w' = w := by
  by_cases ha : a = 0
  · subst ha
    clear h
    go_enter Tryz.func67, Tryz.ntmps67
    go_wp2
    go_returns
    exact ⟨rfl, rfl⟩
  · have d : (a == 0) = false := beq_eq_false_iff_ne.2 ha
    obtain rfl : b = 0 := by omega
    clear h ha
    go_enter Tryz.func67, Tryz.ntmps67
    go_wp2
    go_returns
    exact ⟨rfl, rfl⟩

theorem times_na (b : Int) (w : World) (hb0 : b ≠ 0) (hb : inR b) :
    Calls Tryz.prog 67 #[.int .i64 (-1), .int .i64 b] w fun e w' => e = .returned (.tuple #[.int .i64 (wrap64 (-1 * b)), .bool (decide (inR (-1 * b)))]) ∧ w' = w := by
  have d : (b == 0) = false := beq_eq_false_iff_ne.2 hb0
  have k : decide (inR (-1 * b)) = (b != -9223372036854775808) := by
    unfold inR at *
    by_cases h : b = -9223372036854775808
    · subst h; decide
    · rw [show (b != -9223372036854775808) = true from bne_iff_ne.2 h]; exact decide_eq_true (by omega)
  rw [k, show (-1 * b : Int) = -b by omega]
  clear k hb hb0
  go_enter Tryz.func67, Tryz.ntmps67
  go_wp2
  go_returns
  exact ⟨rfl, rfl⟩

theorem times_nb (a : Int) (w : World) (ha0 : a ≠ 0) (ha1 : a ≠ -1) (ha : inR a) :
    Calls Tryz.prog 67 #[.int .i64 a, .int .i64 (-1)] w fun e w' => e = .returned (.tuple #[.int .i64 (wrap64 (a * -1)), .bool (decide (inR (a * -1)))]) ∧ w' = w := by
  have d : (a == 0) = false := beq_eq_false_iff_ne.2 ha0
  have d1 : (a == -1) = false := beq_eq_false_iff_ne.2 ha1
  have k : decide (inR (a * -1)) = (a != -9223372036854775808) := by
    unfold inR at *
    by_cases h : a = -9223372036854775808
    · subst h; decide
    · rw [show (a != -9223372036854775808) = true from bne_iff_ne.2 h]; exact decide_eq_true (by omega)
  rw [k, show (a * -1 : Int) = -a by omega]
  clear k ha ha0 ha1
  go_enter Tryz.func67, Tryz.ntmps67
  go_wp2
  go_returns
  exact ⟨rfl, rfl⟩

theorem times_gen (a b : Int) (w : World) (ha0 : a ≠ 0) (ha1 : a ≠ -1) (hb0 : b ≠ 0) (hb1 : b ≠ -1) (ha : inR a) (hb : inR b) :
    Calls Tryz.prog 67 #[.int .i64 a, .int .i64 b] w fun e w' => e = .returned (.tuple #[.int .i64 (wrap64 (a * b)), .bool (decide (inR (a * b)))]) ∧ Below w.heap.size w w' := by
  have d : (a == 0) = false := beq_eq_false_iff_ne.2 ha0
  have d1 : (a == -1) = false := beq_eq_false_iff_ne.2 ha1
  have e : (b == 0) = false := beq_eq_false_iff_ne.2 hb0
  have e1 : (b == -1) = false := beq_eq_false_iff_ne.2 hb1
  have k : decide (inR (a * b)) = ((wrap64 (a * b)).tdiv b == a) := by
    by_cases h : inR (a * b)
    · rw [decide_eq_true h, mul_fore hb0 h]; simp
    · rw [decide_eq_false h]; exact (beq_eq_false_iff_ne.2 (fun e => h (mul_back hb0 hb e))).symm
  have kk : Hid (wrap64 ((wrap64 (a * b)).tdiv b) = (wrap64 (a * b)).tdiv b) := wrap_in (tdiv_in (wrap_bd _) hb0 (fun h => hb1 h.2))
  rw [k]
  have hb' : ¬ b = 0 := hb0
  clear k ha ha0 ha1 hb hb0 hb1
  go_enter Tryz.func67, Tryz.ntmps67
  go_wp2
  go_region
  all_goals
    go_wp2
    go_returns
    rw [kk.out]
    exact ⟨rfl, by go_grown⟩

theorem times_any (a b : Int) (w : World) (ha : inR a) (hb : inR b) :
    Calls Tryz.prog 67 #[.int .i64 a, .int .i64 b] w fun e w' => e = .returned (.tuple #[.int .i64 (wrap64 (a * b)), .bool (decide (inR (a * b)))]) ∧ Below w.heap.size w w' := by
  by_cases h0 : a = 0 ∨ b = 0
  · have hz : a * b = 0 := by rcases h0 with rfl | rfl <;> simp
    rw [hz, wrap_in (by decide), decide_eq_true (show inR 0 by decide)]
    exact (times_zero a b w h0).mono (by rintro e w' ⟨rfl, rfl⟩; exact ⟨rfl, Below.refl _ _⟩)
  · by_cases h1 : a = -1
    · subst h1
      exact (times_na b w (by omega) hb).mono (by rintro e w' ⟨rfl, rfl⟩; exact ⟨rfl, Below.refl _ _⟩)
    · by_cases h2 : b = -1
      · subst h2
        exact (times_nb a w (by omega) h1 ha).mono (by rintro e w' ⟨rfl, rfl⟩; exact ⟨rfl, Below.refl _ _⟩)
      · exact times_gen a b w (by omega) h1 (by omega) h2 ha hb

theorem refSum_mul (a b : Int) (w : World) (ha : inR a) (hb : inR b) :
    Calls Tryz.prog 51 #[.int .i64 13, .int .i64 a, .int .i64 b] w fun e w' => e = .returned (.tuple #[.int .i64 (wrap64 (a * b)), .bool (decide (inR (a * b)))]) ∧ Below w.heap.size w w' := by
  have Q := fun w => times_any a b w ha hb
  clear ha hb
  generalize wrap64 (a * b) = m at *
  generalize decide (inR (a * b)) = z at *
  go_enter Tryz.func51, Tryz.ntmps51
  go_wp2_with (go_at_call 67; with_reducible refine (Q _).mono ?_; rintro e w1 ⟨rfl, b1⟩)
  go_returns
  exact ⟨rfl, b1⟩

theorem refSum_quo1 (a : Int) (w : World) (ha : inR a) :
    Calls Tryz.prog 51 #[.int .i64 14, .int .i64 a, .int .i64 (-1)] w fun e w' => e = .returned (.tuple #[.int .i64 (wrap64 (a.tdiv (-1))), .bool (decide (inR (a.tdiv (-1))))]) ∧ w' = w := by
  have e0 : a.tdiv (-1) = -a := by rw [Int.tdiv_neg, Int.tdiv_one]
  have k : decide (inR (-a)) = (a != -9223372036854775808) := by
    unfold inR at *
    by_cases h : a = -9223372036854775808
    · subst h; decide
    · rw [show (a != -9223372036854775808) = true from bne_iff_ne.2 h]; exact decide_eq_true (by omega)
  rw [e0, k]
  clear k ha e0
  go_enter Tryz.func51, Tryz.ntmps51
  go_wp2
  go_returns
  exact ⟨rfl, rfl⟩

theorem refSum_quo (a b : Int) (w : World) (ha : inR a) (hb0 : b ≠ 0) (hb1 : b ≠ -1) :
    Calls Tryz.prog 51 #[.int .i64 14, .int .i64 a, .int .i64 b] w fun e w' => e = .returned (.tuple #[.int .i64 (wrap64 (a.tdiv b)), .bool (decide (inR (a.tdiv b)))]) ∧ w' = w := by
  rw [decide_eq_true (tdiv_in ha hb0 (fun h => hb1 h.2))]
  have d1 : (b == -1) = false := beq_eq_false_iff_ne.2 hb1
  have hb' : ¬ b = 0 := hb0
  clear ha hb0 hb1
  go_enter Tryz.func51, Tryz.ntmps51
  go_wp2
  go_returns
  exact ⟨rfl, rfl⟩

theorem refSum_rem1 (a : Int) (w : World) :
    Calls Tryz.prog 51 #[.int .i64 15, .int .i64 a, .int .i64 (-1)] w fun e w' => e = .returned (.tuple #[.int .i64 (a.tmod (-1)), .bool true]) ∧ w' = w := by
  have e0 : a.tmod (-1) = 0 := by rw [Int.tmod_neg, Int.tmod_one]
  rw [e0]
  clear e0
  go_enter Tryz.func51, Tryz.ntmps51
  go_wp2
  go_returns
  exact ⟨rfl, rfl⟩

theorem refSum_rem (a b : Int) (w : World) (hb0 : b ≠ 0) (hb1 : b ≠ -1) :
    Calls Tryz.prog 51 #[.int .i64 15, .int .i64 a, .int .i64 b] w fun e w' => e = .returned (.tuple #[.int .i64 (a.tmod b), .bool true]) ∧ w' = w := by
  have d1 : (b == -1) = false := beq_eq_false_iff_ne.2 hb1
  have hb' : ¬ b = 0 := hb0
  clear hb0 hb1
  go_enter Tryz.func51, Tryz.ntmps51
  go_wp2
  go_returns
  exact ⟨rfl, rfl⟩

theorem refSum_any (op a b : Int) (w : World) (h1 : 11 ≤ op) (h2 : op ≤ 15) (ha : inR a) (hb : inR b) (h0 : 14 ≤ op → b ≠ 0) :
    Calls Tryz.prog 51 #[.int .i64 op, .int .i64 a, .int .i64 b] w fun e w' => e = .returned (.tuple #[.int .i64 (wrap64 (zV op a b)), .bool (decide (inR (zV op a b)))]) ∧ Below w.heap.size w w' := by
  have same : ∀ {f : FuncId} {args : Array Value} {v : Value}, (Calls Tryz.prog f args w fun e w' => e = .returned v ∧ w' = w) → Calls Tryz.prog f args w fun e w' => e = .returned v ∧ Below w.heap.size w w' :=
    fun h => h.mono (by rintro e w' ⟨rfl, rfl⟩; exact ⟨rfl, Below.refl _ _⟩)
  have h5 : op = 11 ∨ op = 12 ∨ op = 13 ∨ op = 14 ∨ op = 15 := by omega
  rcases h5 with rfl | rfl | rfl | rfl | rfl
  · exact same (refSum_add a b w ha hb)
  · exact same (refSum_sub a b w ha hb)
  · exact refSum_mul a b w ha hb
  · by_cases hn : b = -1
    · subst hn; exact same (refSum_quo1 a w ha)
    · exact same (refSum_quo a b w ha (h0 (by omega)) hn)
  · rw [show zV 15 a b = a.tmod b from rfl, wrap_in (tmod_in ha), decide_eq_true (tmod_in ha)]
    by_cases hn : b = -1
    · subst hn; exact same (refSum_rem1 a w)
    · exact same (refSum_rem a b w (h0 (by omega)) hn)

theorem sumV_z (op a b : Int) (h1 : 11 ≤ op) (h2 : op ≤ 15) (ha : inR a) (h0 : 14 ≤ op → b ≠ 0) : sumV op a b = over (zV op a b) := by
  have h5 : op = 11 ∨ op = 12 ∨ op = 13 ∨ op = 14 ∨ op = 15 := by omega
  rcases h5 with rfl | rfl | rfl | rfl | rfl
  · rfl
  · rfl
  · rfl
  · simp [sumV, zV, h0 (by omega)]
  · have : over (a.tmod b) = ⟨numV (a.tmod b), 0⟩ := if_pos (tmod_in ha)
    simp [sumV, zV, h0 (by omega), this]
end Go.Proofs.YtblkhlhhlalbkaaGreatDoor
namespace Go.Proofs.YtblkhlhhlalbkaaGreatDoor
open Go.RowKit Go.Lib Go.Sort
set_option linter.unusedVariables false
set_option maxRecDepth 20000

def goesV (op k : Int) : Bool :=
  if k = 0 ∨ (5 ≤ op ∧ op ≤ 10) then true else if op = 3 ∨ op = 4 then k == 1 else if op = 16 then k == 3 else k == 2

set_option maxHeartbeats 400000 in
theorem goes_any (op k : Int) (w : World) :
    Calls Tryz.prog 46 #[.int .i64 op, .int .i64 k] w fun e w' => e = .returned (.bool (goesV op k)) ∧ w' = w := by
  unfold goesV
  by_cases h0 : k = 0
  · subst h0
    rw [if_pos (Or.inl rfl)]
    go_enter Tryz.func46, Tryz.ntmps46
    go_wp2
    go_returns
    exact ⟨rfl, rfl⟩
  have d0 : (k == 0) = false := beq_eq_false_iff_ne.2 h0
  by_cases h1 : 5 ≤ op ∧ op ≤ 10
  · rw [if_pos (Or.inr h1)]
    obtain ⟨h1, h2⟩ := h1
    clear h0
    go_enter Tryz.func46, Tryz.ntmps46
    go_wp2
    go_returns
    exact ⟨rfl, rfl⟩
  rw [if_neg (fun h => h.elim h0 h1)]
  clear h0
  by_cases h3 : op = 3
  · subst h3
    rw [if_pos (Or.inl rfl)]
    clear h1
    go_enter Tryz.func46, Tryz.ntmps46
    go_wp2
    go_returns
    exact ⟨rfl, rfl⟩
  by_cases h4 : op = 4
  · subst h4
    rw [if_pos (Or.inr rfl)]
    clear h1 h3
    go_enter Tryz.func46, Tryz.ntmps46
    go_wp2
    go_returns
    exact ⟨rfl, rfl⟩
  rw [if_neg (by omega)]
  have d3 : (op == 3) = false := beq_eq_false_iff_ne.2 h3
  have d4 : (op == 4) = false := beq_eq_false_iff_ne.2 h4
  by_cases h16 : op = 16
  · subst h16
    rw [if_pos rfl]
    clear h1 h3 h4
    go_enter Tryz.func46, Tryz.ntmps46
    go_wp2
    go_returns
    exact ⟨rfl, rfl⟩
  rw [if_neg h16]
  have d16 : (op == 16) = false := beq_eq_false_iff_ne.2 h16
  by_cases h5 : 5 ≤ op
  · have h10 : ¬ op ≤ 10 := fun h => h1 ⟨h5, h⟩
    clear h1 h3 h4 h16
    go_enter Tryz.func46, Tryz.ntmps46
    go_wp2
    go_returns
    exact ⟨rfl, rfl⟩
  · clear h1 h3 h4 h16
    go_enter Tryz.func46, Tryz.ntmps46
    go_wp2
    go_returns
    exact ⟨rfl, rfl⟩

set_option maxHeartbeats 1000000 in
theorem logic_4 (a b : Val) (w : World) :
    Calls Tryz.prog 47 #[.int .i64 4, a.v, b.v] w fun e w' => e = .returned (andV a b).v ∧ Below w.heap.size w w' := by
  obtain ⟨k1, n1, s1⟩ := a
  obtain ⟨k2, n2, s2⟩ := b
  have he := run_eqv
  cases dx : eqv k1 n1 s1 1 0 ⟨#[]⟩
  · cases dy : eqv k2 n2 s2 1 0 ⟨#[]⟩
    · by_cases h0 : k1 = 0
      · subst h0
        rw [show andV ⟨0, n1, s1⟩ ⟨k2, n2, s2⟩ = nullV by simp [andV, Val.eqb, truthV, dx, dy]]
        unfold Val.v
        go_enter Tryz.func47, Tryz.ntmps47
        go_wp2
        go_returns
        exact ⟨rfl, by go_grown⟩
      · have d0 : (k1 == 0) = false := beq_eq_false_iff_ne.2 h0
        by_cases h1 : k2 = 0
        · subst h1
          rw [show andV ⟨k1, n1, s1⟩ ⟨0, n2, s2⟩ = nullV by simp [andV, Val.eqb, truthV, dx, dy]]
          unfold Val.v
          clear h0
          go_enter Tryz.func47, Tryz.ntmps47
          go_wp2
          go_returns
          exact ⟨rfl, by go_grown⟩
        · have d1 : (k2 == 0) = false := beq_eq_false_iff_ne.2 h1
          rw [show andV ⟨k1, n1, s1⟩ ⟨k2, n2, s2⟩ = truthV true by simp [andV, Val.eqb, truthV, dx, dy, h0, h1]]
          unfold Val.v
          clear h0 h1
          go_enter Tryz.func47, Tryz.ntmps47
          go_wp2
          go_returns
          exact ⟨rfl, by go_grown⟩
    · rw [show andV ⟨k1, n1, s1⟩ ⟨k2, n2, s2⟩ = truthV false by simp [andV, Val.eqb, truthV, dx, dy]]
      unfold Val.v
      go_enter Tryz.func47, Tryz.ntmps47
      go_wp2
      go_returns
      exact ⟨rfl, by go_grown⟩
  · rw [show andV ⟨k1, n1, s1⟩ ⟨k2, n2, s2⟩ = truthV false by simp [andV, Val.eqb, truthV, dx]]
    unfold Val.v
    go_enter Tryz.func47, Tryz.ntmps47
    go_wp2
    go_returns
    exact ⟨rfl, by go_grown⟩

set_option maxHeartbeats 1000000 in
theorem logic_3 (a b : Val) (w : World) :
    Calls Tryz.prog 47 #[.int .i64 3, a.v, b.v] w fun e w' => e = .returned (orV a b).v ∧ Below w.heap.size w w' := by
  obtain ⟨k1, n1, s1⟩ := a
  obtain ⟨k2, n2, s2⟩ := b
  have he := run_eqv
  cases dx : eqv k1 n1 s1 1 1 ⟨#[]⟩
  · cases dy : eqv k2 n2 s2 1 1 ⟨#[]⟩
    · by_cases h0 : k1 = 0
      · subst h0
        rw [show orV ⟨0, n1, s1⟩ ⟨k2, n2, s2⟩ = nullV by simp [orV, Val.eqb, truthV, dx, dy]]
        unfold Val.v
        go_enter Tryz.func47, Tryz.ntmps47
        go_wp2
        go_returns
        exact ⟨rfl, by go_grown⟩
      · have d0 : (k1 == 0) = false := beq_eq_false_iff_ne.2 h0
        by_cases h1 : k2 = 0
        · subst h1
          rw [show orV ⟨k1, n1, s1⟩ ⟨0, n2, s2⟩ = nullV by simp [orV, Val.eqb, truthV, dx, dy]]
          unfold Val.v
          clear h0
          go_enter Tryz.func47, Tryz.ntmps47
          go_wp2
          go_returns
          exact ⟨rfl, by go_grown⟩
        · have d1 : (k2 == 0) = false := beq_eq_false_iff_ne.2 h1
          rw [show orV ⟨k1, n1, s1⟩ ⟨k2, n2, s2⟩ = truthV false by simp [orV, Val.eqb, truthV, dx, dy, h0, h1]]
          unfold Val.v
          clear h0 h1
          go_enter Tryz.func47, Tryz.ntmps47
          go_wp2
          go_returns
          exact ⟨rfl, by go_grown⟩
    · rw [show orV ⟨k1, n1, s1⟩ ⟨k2, n2, s2⟩ = truthV true by simp [orV, Val.eqb, truthV, dx, dy]]
      unfold Val.v
      go_enter Tryz.func47, Tryz.ntmps47
      go_wp2
      go_returns
      exact ⟨rfl, by go_grown⟩
  · rw [show orV ⟨k1, n1, s1⟩ ⟨k2, n2, s2⟩ = truthV true by simp [orV, Val.eqb, truthV, dx]]
    unfold Val.v
    go_enter Tryz.func47, Tryz.ntmps47
    go_wp2
    go_returns
    exact ⟨rfl, by go_grown⟩

set_option maxHeartbeats 400000 in
theorem refUnary_kind (op k n : Int) (s : ByteArray) (h1 : (op != 1) = true) (h2 : (op != 2) = true) (w : World) :
    Calls Tryz.prog 26 #[.int .i64 op, .agg #[.int .i64 k, .int .i64 n, .string s]] w fun e w' => e = .returned (⟨nullV, 5⟩ : Ans).out ∧ Below w.heap.size w w' := by
  go_enter Tryz.func26, Tryz.ntmps26
  go_wp2
  go_returns
  exact ⟨rfl, by go_grown⟩

set_option maxHeartbeats 400000 in
theorem refUnary_null1 (n : Int) (s : ByteArray) (w : World) :
    Calls Tryz.prog 26 #[.int .i64 1, .agg #[.int .i64 0, .int .i64 n, .string s]] w fun e w' => e = .returned (⟨nullV, 0⟩ : Ans).out ∧ Below w.heap.size w w' := by
  go_enter Tryz.func26, Tryz.ntmps26
  go_wp2
  go_returns
  exact ⟨rfl, by go_grown⟩

set_option maxHeartbeats 400000 in
theorem refUnary_null2 (n : Int) (s : ByteArray) (w : World) :
    Calls Tryz.prog 26 #[.int .i64 2, .agg #[.int .i64 0, .int .i64 n, .string s]] w fun e w' => e = .returned (⟨nullV, 0⟩ : Ans).out ∧ Below w.heap.size w w' := by
  go_enter Tryz.func26, Tryz.ntmps26
  go_wp2
  go_returns
  exact ⟨rfl, by go_grown⟩

set_option maxHeartbeats 400000 in
theorem refUnary_type1 (k n : Int) (s : ByteArray) (h0 : (k == 0) = false) (h : (k != 2) = true) (w : World) :
    Calls Tryz.prog 26 #[.int .i64 1, .agg #[.int .i64 k, .int .i64 n, .string s]] w fun e w' => e = .returned (⟨nullV, 35⟩ : Ans).out ∧ Below w.heap.size w w' := by
  go_enter Tryz.func26, Tryz.ntmps26
  go_wp2
  go_returns
  exact ⟨rfl, by go_grown⟩

set_option maxHeartbeats 400000 in
theorem refUnary_type2 (k n : Int) (s : ByteArray) (h0 : (k == 0) = false) (h : (k != 1) = true) (w : World) :
    Calls Tryz.prog 26 #[.int .i64 2, .agg #[.int .i64 k, .int .i64 n, .string s]] w fun e w' => e = .returned (⟨nullV, 35⟩ : Ans).out ∧ Below w.heap.size w w' := by
  go_enter Tryz.func26, Tryz.ntmps26
  go_wp2
  go_returns
  exact ⟨rfl, by go_grown⟩

set_option maxHeartbeats 400000 in
theorem refUnary_not0 (s : ByteArray) (w : World) :
    Calls Tryz.prog 26 #[.int .i64 2, .agg #[.int .i64 1, .int .i64 0, .string s]] w fun e w' => e = .returned (⟨truthV true, 0⟩ : Ans).out ∧ Below w.heap.size w w' := by
  go_enter Tryz.func26, Tryz.ntmps26
  go_wp2
  go_returns
  exact ⟨rfl, by go_grown⟩

set_option maxHeartbeats 400000 in
theorem refUnary_not1 (s : ByteArray) (w : World) :
    Calls Tryz.prog 26 #[.int .i64 2, .agg #[.int .i64 1, .int .i64 1, .string s]] w fun e w' => e = .returned (⟨truthV false, 0⟩ : Ans).out ∧ Below w.heap.size w w' := by
  go_enter Tryz.func26, Tryz.ntmps26
  go_wp2
  go_returns
  exact ⟨rfl, by go_grown⟩

set_option maxHeartbeats 400000 in
theorem refUnary_least (s : ByteArray) (w : World) :
    Calls Tryz.prog 26 #[.int .i64 1, .agg #[.int .i64 2, .int .i64 (-9223372036854775808), .string s]] w fun e w' => e = .returned (⟨nullV, 40⟩ : Ans).out ∧ Below w.heap.size w w' := by
  go_enter Tryz.func26, Tryz.ntmps26
  go_wp2
  go_returns
  exact ⟨rfl, by go_grown⟩

set_option maxHeartbeats 400000 in
theorem refUnary_neg (n : Int) (s : ByteArray) (w : World) (h : (n == -9223372036854775808) = false) (hn : inR n) :
    Calls Tryz.prog 26 #[.int .i64 1, .agg #[.int .i64 2, .int .i64 n, .string s]] w fun e w' => e = .returned (⟨numV (0 - n), 0⟩ : Ans).out ∧ Below w.heap.size w w' := by
  have h' := beq_eq_false_iff_ne.1 h
  rw [show (0 - n : Int) = -n by omega]
  obtain ⟨h1, h2⟩ := hn
  have h3 : -9223372036854775808 < n := by omega
  clear h'
  go_enter Tryz.func26, Tryz.ntmps26
  go_wp2
  go_returns
  exact ⟨rfl, by go_grown⟩

theorem over_in {n : Int} (h : inR n) : over n = ⟨numV n, 0⟩ := if_pos h
theorem over_out {n : Int} (h : ¬ inR n) : over n = ⟨nullV, 40⟩ := if_neg h

/-- The number of a Bool that is right. -/
def boolRight (a : Val) : Prop := a.k = 1 → (a.n = 0 ∨ a.n = 1) ∧ a.s.data.toList = []

theorem refUnary_any (op : Int) (a : Val) (w : World) (hn : inR a.n) (hr : boolRight a) :
    Calls Tryz.prog 26 #[.int .i64 op, a.v] w fun e w' => e = .returned (unV op a).out ∧ Below w.heap.size w w' := by
  obtain ⟨k, n, s⟩ := a
  by_cases h1 : op = 1 ∨ op = 2
  · by_cases h0 : k = 0
    · rw [show unV op ⟨k, n, s⟩ = ⟨nullV, 0⟩ by unfold unV; rw [if_neg (by omega), if_pos h0]]
      subst h0
      rcases h1 with rfl | rfl
      · exact refUnary_null1 n s w
      · exact refUnary_null2 n s w
    · have d0 : (k == 0) = false := beq_eq_false_iff_ne.2 h0
      rcases h1 with rfl | rfl
      · by_cases h2 : k = 2
        · rw [show unV 1 ⟨k, n, s⟩ = over (0 - n) by unfold unV; rw [if_neg (by omega), if_neg h0, if_neg (by omega), if_pos h2]]
          subst h2
          simp only [inR] at hn
          by_cases hl : n = -9223372036854775808
          · subst hl
            rw [over_out (by decide)]
            exact refUnary_least s w
          · rw [over_in (by unfold inR; omega)]
            exact refUnary_neg n s w (beq_eq_false_iff_ne.2 hl) hn
        · rw [show unV 1 ⟨k, n, s⟩ = ⟨nullV, 35⟩ by unfold unV; rw [if_neg (by omega), if_neg h0, if_neg (by omega), if_neg h2]]
          exact refUnary_type1 k n s d0 (bne_iff_ne.2 h2) w
      · by_cases h2 : k = 1
        · rw [show unV 2 ⟨k, n, s⟩ = ⟨truthV (!(⟨k, n, s⟩ : Val).eqb (truthV true)), 0⟩ by unfold unV; rw [if_neg (by omega), if_neg h0, if_pos rfl, if_pos h2]]
          subst h2
          obtain ⟨hb, hs⟩ := hr rfl
          simp only [] at hb hs
          rcases hb with rfl | rfl
          · rw [show (⟨1, 0, s⟩ : Val).eqb (truthV true) = false by simp [Val.eqb, eqv, truthV]]
            exact refUnary_not0 s w
          · rw [show (⟨1, 1, s⟩ : Val).eqb (truthV true) = true by simp [Val.eqb, eqv, truthV, hs]]
            exact refUnary_not1 s w
        · rw [show unV 2 ⟨k, n, s⟩ = ⟨nullV, 35⟩ by unfold unV; rw [if_neg (by omega), if_neg h0, if_pos rfl, if_neg h2]]
          exact refUnary_type2 k n s d0 (bne_iff_ne.2 h2) w
  · rw [show unV op ⟨k, n, s⟩ = ⟨nullV, 5⟩ by unfold unV; rw [if_pos (by omega)]]
    exact refUnary_kind op k n s (bne_iff_ne.2 (by omega)) (bne_iff_ne.2 (by omega)) w
end Go.Proofs.YtblkhlhhlalbkaaGreatDoor
