/- What the document's own Binary answers. Conditions: the numbers are within the numbers; the texts' lengths are Go's. -/
import Derived.Test.YtfcecblppdgcbaaRefUnary
import Derived.Test.YtfcecblppdgcbaaValRef
namespace Go.Proofs.Ytfcecblppdgcbaa
open Go.RowKit Go.Lib Go.Sort
set_option linter.unusedVariables false
set_option maxRecDepth 20000

set_option maxHeartbeats 400000 in
theorem refBin_kind (op : Int) (a b : Val) (w : World) (h : op < 3 ∨ 16 < op) :
    Calls Try.prog 23 #[.int .i64 op, a.v, b.v] w fun e w' => e = .returned (⟨nullV, 5⟩ : Ans).out ∧ Below w.heap.size w w' := by
  obtain ⟨k1, n1, s1⟩ := a
  obtain ⟨k2, n2, s2⟩ := b
  unfold Val.v
  rcases h with h | h
  all_goals
    go_enter Try.func23, Try.ntmps23
    go_wp2
    go_returns
    exact ⟨rfl, by go_grown⟩

set_option maxHeartbeats 800000 in
theorem refBin_type_a (op : Int) (a b : Val) (w : World) (h1 : 3 ≤ op) (h2 : op ≤ 16) (h0 : a.k ≠ 0) (g1 : goesV op a.k = false) :
    Calls Try.prog 23 #[.int .i64 op, a.v, b.v] w fun e w' => e = .returned (⟨nullV, 35⟩ : Ans).out ∧ Below w.heap.size w w' := by
  obtain ⟨k1, n1, s1⟩ := a
  obtain ⟨k2, n2, s2⟩ := b
  obtain ⟨bA, bB, bR⟩ := boxes3 w k1 n1 k2 n2 0 0 s1 s2 ⟨#[]⟩ 32
  have G1 := fun w => goes_any op k1 w
  have G2 := fun w => goes_any op k2 w
  unfold Val.v
  simp only [] at *
  have e0 : (k1 == 0) = false := beq_eq_false_iff_ne.2 h0
  rw [g1] at G1
  clear g1 h0
  go_enter Try.func23, Try.ntmps23
  go_wp2_with (first
    | (go_at_call 25; with_reducible refine (G1 _).mono ?_; rintro e w' ⟨rfl, rfl⟩)
    | (go_at_call 25; with_reducible refine (G2 _).mono ?_; rintro e w' ⟨rfl, rfl⟩)
    | fail)
  go_returns
  exact ⟨rfl, by go_grown⟩

set_option maxHeartbeats 800000 in
theorem refBin_type_b1 (op : Int) (a b : Val) (w : World) (h1 : 3 ≤ op) (h2 : op ≤ 16) (h0 : a.k = 0) (g1 : goesV op a.k = true) (g2 : goesV op b.k = false) :
    Calls Try.prog 23 #[.int .i64 op, a.v, b.v] w fun e w' => e = .returned (⟨nullV, 35⟩ : Ans).out ∧ Below w.heap.size w w' := by
  obtain ⟨k1, n1, s1⟩ := a
  obtain ⟨k2, n2, s2⟩ := b
  obtain ⟨bA, bB, bR⟩ := boxes3 w k1 n1 k2 n2 0 0 s1 s2 ⟨#[]⟩ 32
  have G1 := fun w => goes_any op k1 w
  have G2 := fun w => goes_any op k2 w
  unfold Val.v
  simp only [] at *
  rw [g1] at G1
  rw [g2] at G2
  subst h0
  clear g1 g2
  go_enter Try.func23, Try.ntmps23
  go_wp2_with (first
    | (go_at_call 25; with_reducible refine (G1 _).mono ?_; rintro e w' ⟨rfl, rfl⟩)
    | (go_at_call 25; with_reducible refine (G2 _).mono ?_; rintro e w' ⟨rfl, rfl⟩)
    | fail)
  go_returns
  exact ⟨rfl, by go_grown⟩

set_option maxHeartbeats 800000 in
theorem refBin_type_b2 (op : Int) (a b : Val) (w : World) (h1 : 3 ≤ op) (h2 : op ≤ 16) (h0 : a.k ≠ 0) (g1 : goesV op a.k = true) (g2 : goesV op b.k = false) :
    Calls Try.prog 23 #[.int .i64 op, a.v, b.v] w fun e w' => e = .returned (⟨nullV, 35⟩ : Ans).out ∧ Below w.heap.size w w' := by
  obtain ⟨k1, n1, s1⟩ := a
  obtain ⟨k2, n2, s2⟩ := b
  obtain ⟨bA, bB, bR⟩ := boxes3 w k1 n1 k2 n2 0 0 s1 s2 ⟨#[]⟩ 32
  have G1 := fun w => goes_any op k1 w
  have G2 := fun w => goes_any op k2 w
  unfold Val.v
  simp only [] at *
  have e0 : (k1 == 0) = false := beq_eq_false_iff_ne.2 h0
  rw [g1] at G1
  rw [g2] at G2
  clear g1 g2 h0
  go_enter Try.func23, Try.ntmps23
  go_wp2_with (first
    | (go_at_call 25; with_reducible refine (G1 _).mono ?_; rintro e w' ⟨rfl, rfl⟩)
    | (go_at_call 25; with_reducible refine (G2 _).mono ?_; rintro e w' ⟨rfl, rfl⟩)
    | fail)
  go_returns
  exact ⟨rfl, by go_grown⟩

set_option maxHeartbeats 800000 in
theorem refBin_type_c (op : Int) (a b : Val) (w : World) (h1 : 5 ≤ op) (h2 : op ≤ 10) (h0 : a.k ≠ 0) (h3 : b.k ≠ 0) (hne : a.k ≠ b.k) :
    Calls Try.prog 23 #[.int .i64 op, a.v, b.v] w fun e w' => e = .returned (⟨nullV, 35⟩ : Ans).out ∧ Below w.heap.size w w' := by
  obtain ⟨k1, n1, s1⟩ := a
  obtain ⟨k2, n2, s2⟩ := b
  obtain ⟨bA, bB, bR⟩ := boxes3 w k1 n1 k2 n2 0 0 s1 s2 ⟨#[]⟩ 32
  have G1 := fun w => goes_any op k1 w
  have G2 := fun w => goes_any op k2 w
  unfold Val.v
  simp only [] at *
  have g1 : goesV op k1 = true := if_pos (Or.inr ⟨h1, h2⟩)
  have g2 : goesV op k2 = true := if_pos (Or.inr ⟨h1, h2⟩)
  have e0 : (k1 == 0) = false := beq_eq_false_iff_ne.2 h0
  have e1 : (k2 == 0) = false := beq_eq_false_iff_ne.2 h3
  have e2 : (k1 != k2) = true := bne_iff_ne.2 hne
  rw [g1] at G1
  rw [g2] at G2
  clear g1 g2 h0 h3 hne
  go_enter Try.func23, Try.ntmps23
  go_wp2_with (first
    | (go_at_call 25; with_reducible refine (G1 _).mono ?_; rintro e w' ⟨rfl, rfl⟩)
    | (go_at_call 25; with_reducible refine (G2 _).mono ?_; rintro e w' ⟨rfl, rfl⟩)
    | fail)
  go_returns
  exact ⟨rfl, by go_grown⟩

set_option maxHeartbeats 800000 in
theorem refBin_logic4_0 (op : Int) (a b : Val) (w : World) (h : op = 4) (h0 : a.k = 0) (g1 : goesV op a.k = true) (g2 : goesV op b.k = true) :
    Calls Try.prog 23 #[.int .i64 op, a.v, b.v] w fun e w' => e = .returned (⟨andV a b, 0⟩ : Ans).out ∧ Below w.heap.size w w' := by
  obtain ⟨k1, n1, s1⟩ := a
  obtain ⟨k2, n2, s2⟩ := b
  obtain ⟨bA, bB, bR⟩ := boxes3 w k1 n1 k2 n2 0 0 s1 s2 ⟨#[]⟩ 32
  have G1 := fun w => goes_any op k1 w
  have G2 := fun w => goes_any op k2 w
  unfold Val.v
  simp only [] at *
  rw [g1] at G1
  rw [g2] at G2
  clear g1 g2
  have D := fun w => logic_4 ⟨k1, n1, s1⟩ ⟨k2, n2, s2⟩ w
  rw [show (⟨andV ⟨k1, n1, s1⟩ ⟨k2, n2, s2⟩, 0⟩ : Ans).out = .tuple #[(andV ⟨k1, n1, s1⟩ ⟨k2, n2, s2⟩).v, .int .i64 0] from rfl]
  generalize andV ⟨k1, n1, s1⟩ ⟨k2, n2, s2⟩ = r at *
  obtain ⟨k', n', s'⟩ := r
  unfold Val.v at *
  simp only [] at *
  subst h
  subst h0
  go_enter Try.func23, Try.ntmps23
  go_wp2_with (first
    | (go_at_call 25; with_reducible refine (G1 _).mono ?_; rintro e w' ⟨rfl, rfl⟩)
    | (go_at_call 25; with_reducible refine (G2 _).mono ?_; rintro e w' ⟨rfl, rfl⟩)
    | (go_at_call 26; with_reducible refine (D _).mono ?_; rintro e w1 ⟨rfl, b1⟩; obtain ⟨r0, r1, r2, f0, f1, f2⟩ := (bR.below b1).out; have B1 := below_new3 b1)
    | fail)
  refine bodyPost_ret (by simp [results, Try.results23, go_sem, r0, r1, r2]; try rfl) rfl ?_
  exact ⟨rfl, by go_grown⟩

set_option maxHeartbeats 800000 in
theorem refBin_logic3_0 (op : Int) (a b : Val) (w : World) (h : op = 3) (h0 : a.k = 0) (g1 : goesV op a.k = true) (g2 : goesV op b.k = true) :
    Calls Try.prog 23 #[.int .i64 op, a.v, b.v] w fun e w' => e = .returned (⟨orV a b, 0⟩ : Ans).out ∧ Below w.heap.size w w' := by
  obtain ⟨k1, n1, s1⟩ := a
  obtain ⟨k2, n2, s2⟩ := b
  obtain ⟨bA, bB, bR⟩ := boxes3 w k1 n1 k2 n2 0 0 s1 s2 ⟨#[]⟩ 32
  have G1 := fun w => goes_any op k1 w
  have G2 := fun w => goes_any op k2 w
  unfold Val.v
  simp only [] at *
  rw [g1] at G1
  rw [g2] at G2
  clear g1 g2
  have D := fun w => logic_3 ⟨k1, n1, s1⟩ ⟨k2, n2, s2⟩ w
  rw [show (⟨orV ⟨k1, n1, s1⟩ ⟨k2, n2, s2⟩, 0⟩ : Ans).out = .tuple #[(orV ⟨k1, n1, s1⟩ ⟨k2, n2, s2⟩).v, .int .i64 0] from rfl]
  generalize orV ⟨k1, n1, s1⟩ ⟨k2, n2, s2⟩ = r at *
  obtain ⟨k', n', s'⟩ := r
  unfold Val.v at *
  simp only [] at *
  subst h
  subst h0
  go_enter Try.func23, Try.ntmps23
  go_wp2_with (first
    | (go_at_call 25; with_reducible refine (G1 _).mono ?_; rintro e w' ⟨rfl, rfl⟩)
    | (go_at_call 25; with_reducible refine (G2 _).mono ?_; rintro e w' ⟨rfl, rfl⟩)
    | (go_at_call 26; with_reducible refine (D _).mono ?_; rintro e w1 ⟨rfl, b1⟩; obtain ⟨r0, r1, r2, f0, f1, f2⟩ := (bR.below b1).out; have B1 := below_new3 b1)
    | fail)
  refine bodyPost_ret (by simp [results, Try.results23, go_sem, r0, r1, r2]; try rfl) rfl ?_
  exact ⟨rfl, by go_grown⟩

set_option maxHeartbeats 800000 in
theorem refBin_logic4_1 (op : Int) (a b : Val) (w : World) (h : op = 4) (h0 : a.k ≠ 0) (g1 : goesV op a.k = true) (g2 : goesV op b.k = true) :
    Calls Try.prog 23 #[.int .i64 op, a.v, b.v] w fun e w' => e = .returned (⟨andV a b, 0⟩ : Ans).out ∧ Below w.heap.size w w' := by
  obtain ⟨k1, n1, s1⟩ := a
  obtain ⟨k2, n2, s2⟩ := b
  obtain ⟨bA, bB, bR⟩ := boxes3 w k1 n1 k2 n2 0 0 s1 s2 ⟨#[]⟩ 32
  have G1 := fun w => goes_any op k1 w
  have G2 := fun w => goes_any op k2 w
  unfold Val.v
  simp only [] at *
  rw [g1] at G1
  rw [g2] at G2
  clear g1 g2
  have D := fun w => logic_4 ⟨k1, n1, s1⟩ ⟨k2, n2, s2⟩ w
  rw [show (⟨andV ⟨k1, n1, s1⟩ ⟨k2, n2, s2⟩, 0⟩ : Ans).out = .tuple #[(andV ⟨k1, n1, s1⟩ ⟨k2, n2, s2⟩).v, .int .i64 0] from rfl]
  generalize andV ⟨k1, n1, s1⟩ ⟨k2, n2, s2⟩ = r at *
  obtain ⟨k', n', s'⟩ := r
  unfold Val.v at *
  simp only [] at *
  subst h
  have e0 : (k1 == 0) = false := beq_eq_false_iff_ne.2 h0
  clear h0
  go_enter Try.func23, Try.ntmps23
  go_wp2_with (first
    | (go_at_call 25; with_reducible refine (G1 _).mono ?_; rintro e w' ⟨rfl, rfl⟩)
    | (go_at_call 25; with_reducible refine (G2 _).mono ?_; rintro e w' ⟨rfl, rfl⟩)
    | (go_at_call 26; with_reducible refine (D _).mono ?_; rintro e w1 ⟨rfl, b1⟩; obtain ⟨r0, r1, r2, f0, f1, f2⟩ := (bR.below b1).out; have B1 := below_new3 b1)
    | fail)
  refine bodyPost_ret (by simp [results, Try.results23, go_sem, r0, r1, r2]; try rfl) rfl ?_
  exact ⟨rfl, by go_grown⟩

set_option maxHeartbeats 800000 in
theorem refBin_logic3_1 (op : Int) (a b : Val) (w : World) (h : op = 3) (h0 : a.k ≠ 0) (g1 : goesV op a.k = true) (g2 : goesV op b.k = true) :
    Calls Try.prog 23 #[.int .i64 op, a.v, b.v] w fun e w' => e = .returned (⟨orV a b, 0⟩ : Ans).out ∧ Below w.heap.size w w' := by
  obtain ⟨k1, n1, s1⟩ := a
  obtain ⟨k2, n2, s2⟩ := b
  obtain ⟨bA, bB, bR⟩ := boxes3 w k1 n1 k2 n2 0 0 s1 s2 ⟨#[]⟩ 32
  have G1 := fun w => goes_any op k1 w
  have G2 := fun w => goes_any op k2 w
  unfold Val.v
  simp only [] at *
  rw [g1] at G1
  rw [g2] at G2
  clear g1 g2
  have D := fun w => logic_3 ⟨k1, n1, s1⟩ ⟨k2, n2, s2⟩ w
  rw [show (⟨orV ⟨k1, n1, s1⟩ ⟨k2, n2, s2⟩, 0⟩ : Ans).out = .tuple #[(orV ⟨k1, n1, s1⟩ ⟨k2, n2, s2⟩).v, .int .i64 0] from rfl]
  generalize orV ⟨k1, n1, s1⟩ ⟨k2, n2, s2⟩ = r at *
  obtain ⟨k', n', s'⟩ := r
  unfold Val.v at *
  simp only [] at *
  subst h
  have e0 : (k1 == 0) = false := beq_eq_false_iff_ne.2 h0
  clear h0
  go_enter Try.func23, Try.ntmps23
  go_wp2_with (first
    | (go_at_call 25; with_reducible refine (G1 _).mono ?_; rintro e w' ⟨rfl, rfl⟩)
    | (go_at_call 25; with_reducible refine (G2 _).mono ?_; rintro e w' ⟨rfl, rfl⟩)
    | (go_at_call 26; with_reducible refine (D _).mono ?_; rintro e w1 ⟨rfl, b1⟩; obtain ⟨r0, r1, r2, f0, f1, f2⟩ := (bR.below b1).out; have B1 := below_new3 b1)
    | fail)
  refine bodyPost_ret (by simp [results, Try.results23, go_sem, r0, r1, r2]; try rfl) rfl ?_
  exact ⟨rfl, by go_grown⟩

set_option maxHeartbeats 800000 in
theorem refBin_none_as (op : Int) (a b : Val) (w : World) (h1 : 10 < op) (h2 : op ≤ 16) (h0 : a.k = 0) (g1 : goesV op a.k = true) (g2 : goesV op b.k = true) :
    Calls Try.prog 23 #[.int .i64 op, a.v, b.v] w fun e w' => e = .returned (⟨nullV, 0⟩ : Ans).out ∧ Below w.heap.size w w' := by
  obtain ⟨k1, n1, s1⟩ := a
  obtain ⟨k2, n2, s2⟩ := b
  obtain ⟨bA, bB, bR⟩ := boxes3 w k1 n1 k2 n2 0 0 s1 s2 ⟨#[]⟩ 32
  have G1 := fun w => goes_any op k1 w
  have G2 := fun w => goes_any op k2 w
  unfold Val.v
  simp only [] at *
  rw [g1] at G1
  rw [g2] at G2
  clear g1 g2
  subst h0
  go_enter Try.func23, Try.ntmps23
  go_wp2_with (first
    | (go_at_call 25; with_reducible refine (G1 _).mono ?_; rintro e w' ⟨rfl, rfl⟩)
    | (go_at_call 25; with_reducible refine (G2 _).mono ?_; rintro e w' ⟨rfl, rfl⟩)
    | fail)
  go_returns
  exact ⟨rfl, by go_grown⟩

set_option maxHeartbeats 800000 in
theorem refBin_none_bs (op : Int) (a b : Val) (w : World) (h1 : 10 < op) (h2 : op ≤ 16) (h0 : a.k ≠ 0) (h3 : b.k = 0) (g1 : goesV op a.k = true) (g2 : goesV op b.k = true) :
    Calls Try.prog 23 #[.int .i64 op, a.v, b.v] w fun e w' => e = .returned (⟨nullV, 0⟩ : Ans).out ∧ Below w.heap.size w w' := by
  obtain ⟨k1, n1, s1⟩ := a
  obtain ⟨k2, n2, s2⟩ := b
  obtain ⟨bA, bB, bR⟩ := boxes3 w k1 n1 k2 n2 0 0 s1 s2 ⟨#[]⟩ 32
  have G1 := fun w => goes_any op k1 w
  have G2 := fun w => goes_any op k2 w
  unfold Val.v
  simp only [] at *
  have e0 : (k1 == 0) = false := beq_eq_false_iff_ne.2 h0
  rw [g1] at G1
  rw [g2] at G2
  clear g1 g2
  subst h3
  clear h0
  go_enter Try.func23, Try.ntmps23
  go_wp2_with (first
    | (go_at_call 25; with_reducible refine (G1 _).mono ?_; rintro e w' ⟨rfl, rfl⟩)
    | (go_at_call 25; with_reducible refine (G2 _).mono ?_; rintro e w' ⟨rfl, rfl⟩)
    | fail)
  go_returns
  exact ⟨rfl, by go_grown⟩

set_option maxHeartbeats 800000 in
theorem refBin_none_ac (op : Int) (a b : Val) (w : World) (h1 : 5 ≤ op) (h2 : op ≤ 10) (h0 : a.k = 0) (g1 : goesV op a.k = true) (g2 : goesV op b.k = true) :
    Calls Try.prog 23 #[.int .i64 op, a.v, b.v] w fun e w' => e = .returned (⟨nullV, 0⟩ : Ans).out ∧ Below w.heap.size w w' := by
  obtain ⟨k1, n1, s1⟩ := a
  obtain ⟨k2, n2, s2⟩ := b
  obtain ⟨bA, bB, bR⟩ := boxes3 w k1 n1 k2 n2 0 0 s1 s2 ⟨#[]⟩ 32
  have G1 := fun w => goes_any op k1 w
  have G2 := fun w => goes_any op k2 w
  unfold Val.v
  simp only [] at *
  rw [g1] at G1
  rw [g2] at G2
  clear g1 g2
  subst h0
  go_enter Try.func23, Try.ntmps23
  go_wp2_with (first
    | (go_at_call 25; with_reducible refine (G1 _).mono ?_; rintro e w' ⟨rfl, rfl⟩)
    | (go_at_call 25; with_reducible refine (G2 _).mono ?_; rintro e w' ⟨rfl, rfl⟩)
    | fail)
  go_returns
  exact ⟨rfl, by go_grown⟩

set_option maxHeartbeats 800000 in
theorem refBin_none_bc (op : Int) (a b : Val) (w : World) (h1 : 5 ≤ op) (h2 : op ≤ 10) (h0 : a.k ≠ 0) (h3 : b.k = 0) (g1 : goesV op a.k = true) (g2 : goesV op b.k = true) :
    Calls Try.prog 23 #[.int .i64 op, a.v, b.v] w fun e w' => e = .returned (⟨nullV, 0⟩ : Ans).out ∧ Below w.heap.size w w' := by
  obtain ⟨k1, n1, s1⟩ := a
  obtain ⟨k2, n2, s2⟩ := b
  obtain ⟨bA, bB, bR⟩ := boxes3 w k1 n1 k2 n2 0 0 s1 s2 ⟨#[]⟩ 32
  have G1 := fun w => goes_any op k1 w
  have G2 := fun w => goes_any op k2 w
  unfold Val.v
  simp only [] at *
  have e0 : (k1 == 0) = false := beq_eq_false_iff_ne.2 h0
  rw [g1] at G1
  rw [g2] at G2
  clear g1 g2
  subst h3
  clear h0
  go_enter Try.func23, Try.ntmps23
  go_wp2_with (first
    | (go_at_call 25; with_reducible refine (G1 _).mono ?_; rintro e w' ⟨rfl, rfl⟩)
    | (go_at_call 25; with_reducible refine (G2 _).mono ?_; rintro e w' ⟨rfl, rfl⟩)
    | fail)
  go_returns
  exact ⟨rfl, by go_grown⟩

set_option maxHeartbeats 800000 in
theorem refBin_cmp (op : Int) (a b : Val) (w : World) (h1 : 5 ≤ op) (h2 : op ≤ 10) (h0 : a.k ≠ 0) (heq : a.k = b.k) (hA : a.s.size ≤ maxLen) (hB : b.s.size ≤ maxLen) :
    Calls Try.prog 23 #[.int .i64 op, a.v, b.v] w fun e w' => e = .returned (⟨truthV (holdsV op (cmpV a b)), 0⟩ : Ans).out ∧ Below w.heap.size w w' := by
  obtain ⟨k1, n1, s1⟩ := a
  obtain ⟨k2, n2, s2⟩ := b
  obtain ⟨bA, bB, bR⟩ := boxes3 w k1 n1 k2 n2 0 0 s1 s2 ⟨#[]⟩ 32
  have G1 := fun w => goes_any op k1 w
  have G2 := fun w => goes_any op k2 w
  unfold Val.v
  simp only [] at *
  subst heq
  have g1 : goesV op k1 = true := if_pos (Or.inr ⟨h1, h2⟩)
  have e0 : (k1 == 0) = false := beq_eq_false_iff_ne.2 h0
  rw [g1] at G1 G2
  have D := fun w => refCompare_any ⟨k1, n1, s1⟩ ⟨k1, n2, s2⟩ w hA hB
  generalize cmpV ⟨k1, n1, s1⟩ ⟨k1, n2, s2⟩ = c at *
  have E := fun w => refHolds_any op c w
  have T := fun w => refTruth_any (holdsV op c) w
  generalize holdsV op c = t at *
  have key : (⟨truthV t, 0⟩ : Ans).out = .tuple #[.agg #[.int .i64 1, .int .i64 (if t then 1 else 0), .string ⟨#[]⟩], .int .i64 0] := by cases t <;> rfl
  rw [key]
  clear key g1 h0 hA hB
  generalize (if t then 1 else 0 : Int) = z at *
  unfold Val.v at D
  simp only [] at D
  go_enter Try.func23, Try.ntmps23
  go_wp2_with (first
    | (go_at_call 25; with_reducible refine (G1 _).mono ?_; rintro e w' ⟨rfl, rfl⟩)
    | (go_at_call 25; with_reducible refine (G2 _).mono ?_; rintro e w' ⟨rfl, rfl⟩)
    | (go_at_call 17; with_reducible refine (D _).mono ?_; rintro e w1 ⟨rfl, b1⟩; have R1 := bR.below b1; have B1 := below_new3 b1)
    | (go_at_call 28; with_reducible refine (E _).mono ?_; rintro e w' ⟨rfl, rfl⟩)
    | (go_at_call 27; with_reducible refine (T _).mono ?_; rintro e w2 ⟨rfl, b2⟩; obtain ⟨r0, r1, r2, f0, f1, f2⟩ := (R1.below b2).out; have B2 := B1.trans (b2.mono B1.size))
    | fail)
  refine bodyPost_ret (by simp [results, Try.results23, go_sem, r0, r1, r2]; try rfl) rfl ?_
  exact ⟨rfl, by go_grown⟩

set_option maxHeartbeats 800000 in
theorem refBin_cat1 (op : Int) (a b : Val) (w : World) (h : op = 16) (h0 : a.k ≠ 0) (h3 : b.k ≠ 0) (g1 : goesV op a.k = true) (g2 : goesV op b.k = true) (hl : 2048 < a.s.size) (hA : a.s.size ≤ maxLen) :
    Calls Try.prog 23 #[.int .i64 op, a.v, b.v] w fun e w' => e = .returned (⟨nullV, 8⟩ : Ans).out ∧ Below w.heap.size w w' := by
  obtain ⟨k1, n1, s1⟩ := a
  obtain ⟨k2, n2, s2⟩ := b
  obtain ⟨bA, bB, bR⟩ := boxes3 w k1 n1 k2 n2 0 0 s1 s2 ⟨#[]⟩ 32
  have G1 := fun w => goes_any op k1 w
  have G2 := fun w => goes_any op k2 w
  unfold Val.v
  simp only [] at *
  have e0 : (k1 == 0) = false := beq_eq_false_iff_ne.2 h0
  have e1 : (k2 == 0) = false := beq_eq_false_iff_ne.2 h3
  rw [g1] at G1
  rw [g2] at G2
  clear g1 g2
  clear h0 h3
  subst h
  unfold maxLen at hA
  go_enter Try.func23, Try.ntmps23
  go_wp2_with (first
    | (go_at_call 25; with_reducible refine (G1 _).mono ?_; rintro e w' ⟨rfl, rfl⟩)
    | (go_at_call 25; with_reducible refine (G2 _).mono ?_; rintro e w' ⟨rfl, rfl⟩)
    | fail)
  go_returns
  exact ⟨rfl, by go_grown⟩

set_option maxHeartbeats 800000 in
theorem refBin_cat2 (op : Int) (a b : Val) (w : World) (h : op = 16) (h0 : a.k ≠ 0) (h3 : b.k ≠ 0) (g1 : goesV op a.k = true) (g2 : goesV op b.k = true) (hl : a.s.size ≤ 2048) (hm : 2048 < a.s.size + b.s.size) (hB : b.s.size ≤ maxLen) :
    Calls Try.prog 23 #[.int .i64 op, a.v, b.v] w fun e w' => e = .returned (⟨nullV, 8⟩ : Ans).out ∧ Below w.heap.size w w' := by
  obtain ⟨k1, n1, s1⟩ := a
  obtain ⟨k2, n2, s2⟩ := b
  obtain ⟨bA, bB, bR⟩ := boxes3 w k1 n1 k2 n2 0 0 s1 s2 ⟨#[]⟩ 32
  have G1 := fun w => goes_any op k1 w
  have G2 := fun w => goes_any op k2 w
  unfold Val.v
  simp only [] at *
  have e0 : (k1 == 0) = false := beq_eq_false_iff_ne.2 h0
  have e1 : (k2 == 0) = false := beq_eq_false_iff_ne.2 h3
  rw [g1] at G1
  rw [g2] at G2
  clear g1 g2
  clear h0 h3
  subst h
  unfold maxLen at hB
  go_enter Try.func23, Try.ntmps23
  go_wp2_with (first
    | (go_at_call 25; with_reducible refine (G1 _).mono ?_; rintro e w' ⟨rfl, rfl⟩)
    | (go_at_call 25; with_reducible refine (G2 _).mono ?_; rintro e w' ⟨rfl, rfl⟩)
    | fail)
  go_returns
  exact ⟨rfl, by go_grown⟩

set_option maxHeartbeats 800000 in
theorem refBin_cat3 (op : Int) (a b : Val) (w : World) (h : op = 16) (h0 : a.k ≠ 0) (h3 : b.k ≠ 0) (g1 : goesV op a.k = true) (g2 : goesV op b.k = true) (hl : a.s.size ≤ 2048) (hm : a.s.size + b.s.size ≤ 2048) :
    Calls Try.prog 23 #[.int .i64 op, a.v, b.v] w fun e w' => e = .returned (⟨textV (a.s ++ b.s), 0⟩ : Ans).out ∧ Below w.heap.size w w' := by
  obtain ⟨k1, n1, s1⟩ := a
  obtain ⟨k2, n2, s2⟩ := b
  obtain ⟨bA, bB, bR⟩ := boxes3 w k1 n1 k2 n2 0 0 s1 s2 ⟨#[]⟩ 32
  have G1 := fun w => goes_any op k1 w
  have G2 := fun w => goes_any op k2 w
  unfold Val.v
  simp only [] at *
  have e0 : (k1 == 0) = false := beq_eq_false_iff_ne.2 h0
  have e1 : (k2 == 0) = false := beq_eq_false_iff_ne.2 h3
  rw [g1] at G1
  rw [g2] at G2
  clear g1 g2
  clear h0 h3
  subst h
  go_enter Try.func23, Try.ntmps23
  go_wp2_with (first
    | (go_at_call 25; with_reducible refine (G1 _).mono ?_; rintro e w' ⟨rfl, rfl⟩)
    | (go_at_call 25; with_reducible refine (G2 _).mono ?_; rintro e w' ⟨rfl, rfl⟩)
    | (go_at_call 29; with_reducible refine (refText_any _ _).mono ?_; rintro e w1 ⟨rfl, b1⟩; obtain ⟨r0, r1, r2, f0, f1, f2⟩ := (bR.below b1).out; have B1 := below_new3 b1)
    | fail)
  refine bodyPost_ret (by simp [results, Try.results23, go_sem, r0, r1, r2]; try rfl) rfl ?_
  exact ⟨rfl, by go_grown⟩

set_option maxHeartbeats 800000 in
theorem refBin_div0 (op : Int) (a b : Val) (w : World) (h1 : 14 ≤ op) (h2 : op ≤ 15) (h0 : a.k ≠ 0) (h3 : b.k ≠ 0) (g1 : goesV op a.k = true) (g2 : goesV op b.k = true) (hz : b.n = 0) :
    Calls Try.prog 23 #[.int .i64 op, a.v, b.v] w fun e w' => e = .returned (⟨nullV, 41⟩ : Ans).out ∧ Below w.heap.size w w' := by
  obtain ⟨k1, n1, s1⟩ := a
  obtain ⟨k2, n2, s2⟩ := b
  obtain ⟨bA, bB, bR⟩ := boxes3 w k1 n1 k2 n2 0 0 s1 s2 ⟨#[]⟩ 32
  have G1 := fun w => goes_any op k1 w
  have G2 := fun w => goes_any op k2 w
  unfold Val.v
  simp only [] at *
  have e0 : (k1 == 0) = false := beq_eq_false_iff_ne.2 h0
  have e1 : (k2 == 0) = false := beq_eq_false_iff_ne.2 h3
  rw [g1] at G1
  rw [g2] at G2
  clear g1 g2
  clear h0 h3
  subst hz
  go_enter Try.func23, Try.ntmps23
  go_wp2_with (first
    | (go_at_call 25; with_reducible refine (G1 _).mono ?_; rintro e w' ⟨rfl, rfl⟩)
    | (go_at_call 25; with_reducible refine (G2 _).mono ?_; rintro e w' ⟨rfl, rfl⟩)
    | fail)
  go_returns
  exact ⟨rfl, by go_grown⟩

set_option maxHeartbeats 800000 in
theorem refBin_lo_in (op : Int) (a b : Val) (w : World) (h1 : 11 ≤ op) (h2 : op ≤ 13) (h0 : a.k ≠ 0) (h3 : b.k ≠ 0) (g1 : goesV op a.k = true) (g2 : goesV op b.k = true) (hx : inR a.n) (hy : inR b.n) (hi : inR (zV op a.n b.n)) :
    Calls Try.prog 23 #[.int .i64 op, a.v, b.v] w fun e w' => e = .returned (⟨numV (zV op a.n b.n), 0⟩ : Ans).out ∧ Below w.heap.size w w' := by
  obtain ⟨k1, n1, s1⟩ := a
  obtain ⟨k2, n2, s2⟩ := b
  obtain ⟨bA, bB, bR⟩ := boxes3 w k1 n1 k2 n2 0 0 s1 s2 ⟨#[]⟩ 32
  have G1 := fun w => goes_any op k1 w
  have G2 := fun w => goes_any op k2 w
  unfold Val.v
  simp only [] at *
  have e0 : (k1 == 0) = false := beq_eq_false_iff_ne.2 h0
  have e1 : (k2 == 0) = false := beq_eq_false_iff_ne.2 h3
  rw [g1] at G1
  rw [g2] at G2
  clear g1 g2
  clear h0 h3
  have D := fun w => refSum_any op n1 n2 w (by omega) (by omega) hx hy (by omega)
  rw [wrap_in hi, decide_eq_true hi] at D
  generalize zV op n1 n2 = z at *
  clear hx hy hi
  go_enter Try.func23, Try.ntmps23
  go_wp2_with (first
    | (go_at_call 25; with_reducible refine (G1 _).mono ?_; rintro e w' ⟨rfl, rfl⟩)
    | (go_at_call 25; with_reducible refine (G2 _).mono ?_; rintro e w' ⟨rfl, rfl⟩)
    | (go_at_call 30; with_reducible refine (D _).mono ?_; rintro e w1 ⟨rfl, b1⟩; have R1 := bR.below b1; obtain ⟨r0, r1, r2, f0, f1, f2⟩ := R1.out; have B1 := below_new3 b1)
    | (go_at_call 21; with_reducible refine (refNumber_any _ _).mono ?_; rintro e w2 ⟨rfl, b2⟩; obtain ⟨r0, r1, r2, f0, f1, f2⟩ := (R1.below b2).out; have B2 := B1.trans (b2.mono B1.size))
    | fail)
  refine bodyPost_ret (by simp [results, Try.results23, go_sem, r0, r1, r2]; try rfl) rfl ?_
  exact ⟨rfl, by go_grown⟩

set_option maxHeartbeats 800000 in
theorem refBin_lo_out (op : Int) (a b : Val) (w : World) (h1 : 11 ≤ op) (h2 : op ≤ 13) (h0 : a.k ≠ 0) (h3 : b.k ≠ 0) (g1 : goesV op a.k = true) (g2 : goesV op b.k = true) (hx : inR a.n) (hy : inR b.n) (hi : ¬ inR (zV op a.n b.n)) :
    Calls Try.prog 23 #[.int .i64 op, a.v, b.v] w fun e w' => e = .returned (⟨nullV, 40⟩ : Ans).out ∧ Below w.heap.size w w' := by
  obtain ⟨k1, n1, s1⟩ := a
  obtain ⟨k2, n2, s2⟩ := b
  obtain ⟨bA, bB, bR⟩ := boxes3 w k1 n1 k2 n2 0 0 s1 s2 ⟨#[]⟩ 32
  have G1 := fun w => goes_any op k1 w
  have G2 := fun w => goes_any op k2 w
  unfold Val.v
  simp only [] at *
  have e0 : (k1 == 0) = false := beq_eq_false_iff_ne.2 h0
  have e1 : (k2 == 0) = false := beq_eq_false_iff_ne.2 h3
  rw [g1] at G1
  rw [g2] at G2
  clear g1 g2
  clear h0 h3
  have D := fun w => refSum_any op n1 n2 w (by omega) (by omega) hx hy (by omega)
  rw [decide_eq_false hi] at D
  generalize wrap64 (zV op n1 n2) = z at *
  clear hx hy hi
  go_enter Try.func23, Try.ntmps23
  go_wp2_with (first
    | (go_at_call 25; with_reducible refine (G1 _).mono ?_; rintro e w' ⟨rfl, rfl⟩)
    | (go_at_call 25; with_reducible refine (G2 _).mono ?_; rintro e w' ⟨rfl, rfl⟩)
    | (go_at_call 30; with_reducible refine (D _).mono ?_; rintro e w1 ⟨rfl, b1⟩; have R1 := bR.below b1; obtain ⟨r0, r1, r2, f0, f1, f2⟩ := R1.out; have B1 := below_new3 b1)
    | fail)
  refine bodyPost_ret (by simp [results, Try.results23, go_sem, r0, r1, r2]; try rfl) rfl ?_
  exact ⟨rfl, by go_grown⟩

set_option maxHeartbeats 800000 in
theorem refBin_hi_in (op : Int) (a b : Val) (w : World) (h1 : 14 ≤ op) (h2 : op ≤ 15) (hz : b.n ≠ 0) (h0 : a.k ≠ 0) (h3 : b.k ≠ 0) (g1 : goesV op a.k = true) (g2 : goesV op b.k = true) (hx : inR a.n) (hy : inR b.n) (hi : inR (zV op a.n b.n)) :
    Calls Try.prog 23 #[.int .i64 op, a.v, b.v] w fun e w' => e = .returned (⟨numV (zV op a.n b.n), 0⟩ : Ans).out ∧ Below w.heap.size w w' := by
  obtain ⟨k1, n1, s1⟩ := a
  obtain ⟨k2, n2, s2⟩ := b
  obtain ⟨bA, bB, bR⟩ := boxes3 w k1 n1 k2 n2 0 0 s1 s2 ⟨#[]⟩ 32
  have G1 := fun w => goes_any op k1 w
  have G2 := fun w => goes_any op k2 w
  unfold Val.v
  simp only [] at *
  have e0 : (k1 == 0) = false := beq_eq_false_iff_ne.2 h0
  have e1 : (k2 == 0) = false := beq_eq_false_iff_ne.2 h3
  rw [g1] at G1
  rw [g2] at G2
  clear g1 g2
  clear h0 h3
  have dz : (n2 == 0) = false := beq_eq_false_iff_ne.2 hz
  have D := fun w => refSum_any op n1 n2 w (by omega) (by omega) hx hy (fun _ => hz)
  rw [wrap_in hi, decide_eq_true hi] at D
  generalize zV op n1 n2 = z at *
  clear hx hy hi hz
  go_enter Try.func23, Try.ntmps23
  go_wp2_with (first
    | (go_at_call 25; with_reducible refine (G1 _).mono ?_; rintro e w' ⟨rfl, rfl⟩)
    | (go_at_call 25; with_reducible refine (G2 _).mono ?_; rintro e w' ⟨rfl, rfl⟩)
    | (go_at_call 30; with_reducible refine (D _).mono ?_; rintro e w1 ⟨rfl, b1⟩; have R1 := bR.below b1; obtain ⟨r0, r1, r2, f0, f1, f2⟩ := R1.out; have B1 := below_new3 b1)
    | (go_at_call 21; with_reducible refine (refNumber_any _ _).mono ?_; rintro e w2 ⟨rfl, b2⟩; obtain ⟨r0, r1, r2, f0, f1, f2⟩ := (R1.below b2).out; have B2 := B1.trans (b2.mono B1.size))
    | fail)
  refine bodyPost_ret (by simp [results, Try.results23, go_sem, r0, r1, r2]; try rfl) rfl ?_
  exact ⟨rfl, by go_grown⟩

set_option maxHeartbeats 800000 in
theorem refBin_hi_out (op : Int) (a b : Val) (w : World) (h1 : 14 ≤ op) (h2 : op ≤ 15) (hz : b.n ≠ 0) (h0 : a.k ≠ 0) (h3 : b.k ≠ 0) (g1 : goesV op a.k = true) (g2 : goesV op b.k = true) (hx : inR a.n) (hy : inR b.n) (hi : ¬ inR (zV op a.n b.n)) :
    Calls Try.prog 23 #[.int .i64 op, a.v, b.v] w fun e w' => e = .returned (⟨nullV, 40⟩ : Ans).out ∧ Below w.heap.size w w' := by
  obtain ⟨k1, n1, s1⟩ := a
  obtain ⟨k2, n2, s2⟩ := b
  obtain ⟨bA, bB, bR⟩ := boxes3 w k1 n1 k2 n2 0 0 s1 s2 ⟨#[]⟩ 32
  have G1 := fun w => goes_any op k1 w
  have G2 := fun w => goes_any op k2 w
  unfold Val.v
  simp only [] at *
  have e0 : (k1 == 0) = false := beq_eq_false_iff_ne.2 h0
  have e1 : (k2 == 0) = false := beq_eq_false_iff_ne.2 h3
  rw [g1] at G1
  rw [g2] at G2
  clear g1 g2
  clear h0 h3
  have dz : (n2 == 0) = false := beq_eq_false_iff_ne.2 hz
  have D := fun w => refSum_any op n1 n2 w (by omega) (by omega) hx hy (fun _ => hz)
  rw [decide_eq_false hi] at D
  generalize wrap64 (zV op n1 n2) = z at *
  clear hx hy hi hz
  go_enter Try.func23, Try.ntmps23
  go_wp2_with (first
    | (go_at_call 25; with_reducible refine (G1 _).mono ?_; rintro e w' ⟨rfl, rfl⟩)
    | (go_at_call 25; with_reducible refine (G2 _).mono ?_; rintro e w' ⟨rfl, rfl⟩)
    | (go_at_call 30; with_reducible refine (D _).mono ?_; rintro e w1 ⟨rfl, b1⟩; have R1 := bR.below b1; obtain ⟨r0, r1, r2, f0, f1, f2⟩ := R1.out; have B1 := below_new3 b1)
    | fail)
  refine bodyPost_ret (by simp [results, Try.results23, go_sem, r0, r1, r2]; try rfl) rfl ?_
  exact ⟨rfl, by go_grown⟩

theorem goes_fit_logic (op : Int) (a b : Val) (h : op = 3 ∨ op = 4) : fitV op a b = (goesV op a.k && goesV op b.k) := by
  have g : ∀ k, goesV op k = (k == 0 || k == 1) := fun k => by
    unfold goesV
    by_cases hk : k = 0
    · rw [if_pos (Or.inl hk)]; simp [hk]
    · rw [if_neg (by omega), if_pos h]; simp [hk]
  rw [g, g]
  unfold fitV nullOrV
  rw [if_pos (by omega)]
theorem goes_fit_cat (a b : Val) : fitV 16 a b = (goesV 16 a.k && goesV 16 b.k) := by
  have g : ∀ k, goesV 16 k = (k == 0 || k == 3) := fun k => by
    unfold goesV
    by_cases hk : k = 0
    · rw [if_pos (Or.inl hk)]; simp [hk]
    · rw [if_neg (by omega), if_neg (by omega), if_pos rfl]; simp [hk]
  rw [g, g]
  rfl
theorem goes_fit_sum (op : Int) (a b : Val) (h1 : 10 < op) (h2 : op < 16) : fitV op a b = (goesV op a.k && goesV op b.k) := by
  have g : ∀ k, goesV op k = (k == 0 || k == 2) := fun k => by
    unfold goesV
    by_cases hk : k = 0
    · rw [if_pos (Or.inl hk)]; simp [hk]
    · rw [if_neg (by omega), if_neg (by omega), if_neg (by omega)]; simp [hk]
  rw [g, g]
  unfold fitV nullOrV
  rw [if_neg (by omega), if_neg (by omega), if_neg (by omega)]

theorem refBin_type (op : Int) (a b : Val) (w : World) (h1 : 3 ≤ op) (h2 : op ≤ 16) (h : (goesV op a.k && goesV op b.k) = false) :
    Calls Try.prog 23 #[.int .i64 op, a.v, b.v] w fun e w' => e = .returned (⟨nullV, 35⟩ : Ans).out ∧ Below w.heap.size w w' := by
  cases g1 : goesV op a.k
  · have h0 : a.k ≠ 0 := fun e => by unfold goesV at g1; rw [if_pos (Or.inl e)] at g1; exact absurd g1 (by decide)
    exact refBin_type_a op a b w h1 h2 h0 g1
  · rw [g1] at h
    by_cases h0 : a.k = 0
    · exact refBin_type_b1 op a b w h1 h2 h0 g1 h
    · exact refBin_type_b2 op a b w h1 h2 h0 g1 h

theorem refBinary_any (op : Int) (a b : Val) (w : World) (hx : inR a.n) (hy : inR b.n) (hA : a.s.size ≤ maxLen) (hB : b.s.size ≤ maxLen) :
    Calls Try.prog 23 #[.int .i64 op, a.v, b.v] w fun e w' => e = .returned (binV op a b).out ∧ Below w.heap.size w w' := by
  unfold binV
  by_cases h1 : op < 3 ∨ 16 < op
  · rw [if_pos h1]; exact refBin_kind op a b w h1
  rw [if_neg h1]
  by_cases h4 : op ≤ 4
  · have hf := goes_fit_logic op a b (by omega)
    cases hc : (goesV op a.k && goesV op b.k)
    · rw [hf, if_pos hc]; exact refBin_type op a b w (by omega) (by omega) hc
    · rw [hf, hc, if_neg (by decide)]
      obtain ⟨g1, g2⟩ := Bool.and_eq_true_iff.1 hc
      by_cases e4 : op = 4
      · rw [if_pos e4]
        by_cases h0 : a.k = 0
        · exact refBin_logic4_0 op a b w e4 h0 g1 g2
        · exact refBin_logic4_1 op a b w e4 h0 g1 g2
      · rw [if_neg e4, if_pos (by omega)]
        by_cases h0 : a.k = 0
        · exact refBin_logic3_0 op a b w (by omega) h0 g1 g2
        · exact refBin_logic3_1 op a b w (by omega) h0 g1 g2
  by_cases h10 : op ≤ 10
  · have g : ∀ k, goesV op k = true := fun k => if_pos (Or.inr ⟨by omega, h10⟩)
    have hf : fitV op a b = (nullOrV b.k a || b.k == 0) := by unfold fitV; rw [if_neg h4, if_pos h10]
    unfold nullOrV at hf
    by_cases h0 : a.k = 0
    · rw [hf, if_neg (by simp [h0]), if_neg (by omega), if_neg (by omega), if_pos (Or.inl h0)]
      exact refBin_none_ac op a b w (by omega) h10 h0 (g _) (g _)
    by_cases h3 : b.k = 0
    · rw [hf, if_neg (by simp [h3]), if_neg (by omega), if_neg (by omega), if_pos (Or.inr h3)]
      exact refBin_none_bc op a b w (by omega) h10 h0 h3 (g _) (g _)
    by_cases he : a.k = b.k
    · rw [hf, if_neg (by simp [he]), if_neg (by omega), if_neg (by omega), if_neg (by omega), if_pos h10]
      exact refBin_cmp op a b w (by omega) h10 h0 he hA hB
    · rw [hf, if_pos (by simp [h0, h3, he])]
      exact refBin_type_c op a b w (by omega) h10 h0 h3 he
  have hf : fitV op a b = (goesV op a.k && goesV op b.k) := by
    by_cases e : op = 16
    · subst e; exact goes_fit_cat a b
    · exact goes_fit_sum op a b (by omega) (by omega)
  cases hc : (goesV op a.k && goesV op b.k)
  · rw [hf, if_pos hc]; exact refBin_type op a b w (by omega) (by omega) hc
  rw [hf, hc, if_neg (by decide), if_neg (by omega), if_neg (by omega)]
  obtain ⟨g1, g2⟩ := Bool.and_eq_true_iff.1 hc
  by_cases h0 : a.k = 0
  · rw [if_pos (Or.inl h0)]
    exact refBin_none_as op a b w (by omega) (by omega) h0 g1 g2
  by_cases h3 : b.k = 0
  · rw [if_pos (Or.inr h3)]
    exact refBin_none_bs op a b w (by omega) (by omega) h0 h3 g1 g2
  rw [if_neg (by omega), if_neg h10]
  by_cases h16 : op = 16
  · rw [if_pos h16]
    unfold joinV
    by_cases hl : 2048 < a.s.size
    · rw [if_pos (by omega)]; exact refBin_cat1 op a b w h16 h0 h3 g1 g2 hl hA
    · by_cases hm : 2048 < a.s.size + b.s.size
      · rw [if_pos hm]; exact refBin_cat2 op a b w h16 h0 h3 g1 g2 (by omega) hm hB
      · rw [if_neg hm]; exact refBin_cat3 op a b w h16 h0 h3 g1 g2 (by omega) (by omega)
  rw [if_neg h16]
  by_cases hd : 14 ≤ op ∧ b.n = 0
  · rw [show sumV op a.n b.n = ⟨nullV, 41⟩ by unfold sumV; rw [if_neg (by omega), if_neg (by omega), if_neg (by omega), if_pos hd.2]]
    exact refBin_div0 op a b w hd.1 (by omega) h0 h3 g1 g2 hd.2
  rw [sumV_z op a.n b.n (by omega) (by omega) hx (fun h e => hd ⟨h, e⟩)]
  by_cases hi : inR (zV op a.n b.n)
  · rw [over_in hi]
    by_cases h14 : 14 ≤ op
    · exact refBin_hi_in op a b w h14 (by omega) (fun e => hd ⟨h14, e⟩) h0 h3 g1 g2 hx hy hi
    · exact refBin_lo_in op a b w (by omega) (by omega) h0 h3 g1 g2 hx hy hi
  · rw [over_out hi]
    by_cases h14 : 14 ≤ op
    · exact refBin_hi_out op a b w h14 (by omega) (fun e => hd ⟨h14, e⟩) h0 h3 g1 g2 hx hy hi
    · exact refBin_lo_out op a b w (by omega) (by omega) h0 h3 g1 g2 hx hy hi
end Go.Proofs.Ytfcecblppdgcbaa
