/- What the document's own goes, logic, True and Unary answer. Condition (Unary): the value is right. -/
import Derived.Test.YtonikoijelhojaaRefSum
import Derived.Test.YtonikoijelhojaaCalcLogic
namespace Go.Proofs.Ytonikoijelhojaa
open Go.RowKit Go.Lib Go.Sort
set_option linter.unusedVariables false

def goesV (op k : Int) : Bool :=
  if k = 0 ∨ (5 ≤ op ∧ op ≤ 10) then true else if op = 3 ∨ op = 4 then k == 1 else if op = 16 then k == 3 else k == 2

set_option maxHeartbeats 400000 in
theorem goes_any (op k : Int) (w : World) :
    Calls Try.prog 34 #[.int .i64 op, .int .i64 k] w fun e w' => e = .returned (.bool (goesV op k)) ∧ w' = w := by
  unfold goesV
  by_cases h0 : k = 0
  · subst h0
    rw [if_pos (Or.inl rfl)]
    go_enter Try.func34, Try.ntmps34
    go_wp2
    go_returns
    exact ⟨rfl, rfl⟩
  have d0 : (k == 0) = false := beq_eq_false_iff_ne.2 h0
  by_cases h1 : 5 ≤ op ∧ op ≤ 10
  · rw [if_pos (Or.inr h1)]
    obtain ⟨h1, h2⟩ := h1
    clear h0
    go_enter Try.func34, Try.ntmps34
    go_wp2
    go_returns
    exact ⟨rfl, rfl⟩
  rw [if_neg (fun h => h.elim h0 h1)]
  clear h0
  by_cases h3 : op = 3
  · subst h3
    rw [if_pos (Or.inl rfl)]
    clear h1
    go_enter Try.func34, Try.ntmps34
    go_wp2
    go_returns
    exact ⟨rfl, rfl⟩
  by_cases h4 : op = 4
  · subst h4
    rw [if_pos (Or.inr rfl)]
    clear h1 h3
    go_enter Try.func34, Try.ntmps34
    go_wp2
    go_returns
    exact ⟨rfl, rfl⟩
  rw [if_neg (by omega)]
  have d3 : (op == 3) = false := beq_eq_false_iff_ne.2 h3
  have d4 : (op == 4) = false := beq_eq_false_iff_ne.2 h4
  by_cases h16 : op = 16
  · subst h16
    rw [if_pos rfl]
    clear h1 h3 h4
    go_enter Try.func34, Try.ntmps34
    go_wp2
    go_returns
    exact ⟨rfl, rfl⟩
  rw [if_neg h16]
  have d16 : (op == 16) = false := beq_eq_false_iff_ne.2 h16
  by_cases h5 : 5 ≤ op
  · have h10 : ¬ op ≤ 10 := fun h => h1 ⟨h5, h⟩
    clear h1 h3 h4 h16
    go_enter Try.func34, Try.ntmps34
    go_wp2
    go_returns
    exact ⟨rfl, rfl⟩
  · clear h1 h3 h4 h16
    go_enter Try.func34, Try.ntmps34
    go_wp2
    go_returns
    exact ⟨rfl, rfl⟩

set_option maxHeartbeats 400000 in
theorem refTrue_any (a : Val) (w : World) :
    Calls Try.prog 15 #[a.v] w fun e w' => e = .returned (.bool (a.eqb (truthV true))) ∧ Below w.heap.size w w' := by
  obtain ⟨k, n, s⟩ := a
  unfold Val.v
  simp only []
  obtain ⟨c0, c1, c2, _⟩ := Box.new w k n s 23
  have g0 := cell_regrown c0
  have g1 := cell_regrown c1
  have g2 := cell_regrown c2
  clear c0 c1 c2
  have C1 : Hid (∀ d os, Calls Try.prog 36 #[.bool true] (grow (redrawn (w.alloc (.cells #[.int .i64 k, .int .i64 n, .string s] 23)) d) os) fun e w'' => e = .returned (.agg #[.int .i64 1, .int .i64 1, .string ⟨#[]⟩]) ∧ ∃ p : Regrown, w'' = grow (redrawn (w.alloc (.cells #[.int .i64 k, .int .i64 n, .string s] 23)) p.d) p.os) :=
    fun d os => Calls.regrown_of (refTruth_any true _)
  have he := run_eqv
  go_enter Try.func15, Try.ntmps15
  go_wp2_with fail
  refine wp_region_quiet_below (by kernel_rfl) (by kernel_rfl) ?_
  repeat (quiet_step (first | (go_at_call 36; with_reducible exact C1.out _ _)))
  refine wpQuiet_nil ?_
  intro _ hw'
  obtain ⟨⟨dq, osq⟩, hw''⟩ := hw'
  subst hw''
  go_wp2
  go_ret
  exact ⟨rfl, (show Below w.heap.size w (w.alloc _) by go_grown).trans ((below_regrown _ dq osq).mono (by simp))⟩


set_option maxHeartbeats 1000000 in
theorem logic_4 (a b : Val) (w : World) :
    Calls Try.prog 35 #[.int .i64 4, a.v, b.v] w fun e w' => e = .returned (andV a b).v ∧ Below w.heap.size w w' := by
  obtain ⟨k1, n1, s1⟩ := a
  obtain ⟨k2, n2, s2⟩ := b
  have he := run_eqv
  cases dx : eqv k1 n1 s1 1 0 ⟨#[]⟩
  · cases dy : eqv k2 n2 s2 1 0 ⟨#[]⟩
    · by_cases h0 : k1 = 0
      · subst h0
        rw [show andV ⟨0, n1, s1⟩ ⟨k2, n2, s2⟩ = nullV by simp [andV, Val.eqb, truthV, dx, dy]]
        unfold Val.v
        go_enter Try.func35, Try.ntmps35
        go_wp2
        go_returns
        exact ⟨rfl, by go_grown⟩
      · have d0 : (k1 == 0) = false := beq_eq_false_iff_ne.2 h0
        by_cases h1 : k2 = 0
        · subst h1
          rw [show andV ⟨k1, n1, s1⟩ ⟨0, n2, s2⟩ = nullV by simp [andV, Val.eqb, truthV, dx, dy]]
          unfold Val.v
          clear h0
          go_enter Try.func35, Try.ntmps35
          go_wp2
          go_returns
          exact ⟨rfl, by go_grown⟩
        · have d1 : (k2 == 0) = false := beq_eq_false_iff_ne.2 h1
          rw [show andV ⟨k1, n1, s1⟩ ⟨k2, n2, s2⟩ = truthV true by simp [andV, Val.eqb, truthV, dx, dy, h0, h1]]
          unfold Val.v
          clear h0 h1
          go_enter Try.func35, Try.ntmps35
          go_wp2
          go_returns
          exact ⟨rfl, by go_grown⟩
    · rw [show andV ⟨k1, n1, s1⟩ ⟨k2, n2, s2⟩ = truthV false by simp [andV, Val.eqb, truthV, dx, dy]]
      unfold Val.v
      go_enter Try.func35, Try.ntmps35
      go_wp2
      go_returns
      exact ⟨rfl, by go_grown⟩
  · rw [show andV ⟨k1, n1, s1⟩ ⟨k2, n2, s2⟩ = truthV false by simp [andV, Val.eqb, truthV, dx]]
    unfold Val.v
    go_enter Try.func35, Try.ntmps35
    go_wp2
    go_returns
    exact ⟨rfl, by go_grown⟩

set_option maxHeartbeats 1000000 in
theorem logic_3 (a b : Val) (w : World) :
    Calls Try.prog 35 #[.int .i64 3, a.v, b.v] w fun e w' => e = .returned (orV a b).v ∧ Below w.heap.size w w' := by
  obtain ⟨k1, n1, s1⟩ := a
  obtain ⟨k2, n2, s2⟩ := b
  have he := run_eqv
  cases dx : eqv k1 n1 s1 1 1 ⟨#[]⟩
  · cases dy : eqv k2 n2 s2 1 1 ⟨#[]⟩
    · by_cases h0 : k1 = 0
      · subst h0
        rw [show orV ⟨0, n1, s1⟩ ⟨k2, n2, s2⟩ = nullV by simp [orV, Val.eqb, truthV, dx, dy]]
        unfold Val.v
        go_enter Try.func35, Try.ntmps35
        go_wp2
        go_returns
        exact ⟨rfl, by go_grown⟩
      · have d0 : (k1 == 0) = false := beq_eq_false_iff_ne.2 h0
        by_cases h1 : k2 = 0
        · subst h1
          rw [show orV ⟨k1, n1, s1⟩ ⟨0, n2, s2⟩ = nullV by simp [orV, Val.eqb, truthV, dx, dy]]
          unfold Val.v
          clear h0
          go_enter Try.func35, Try.ntmps35
          go_wp2
          go_returns
          exact ⟨rfl, by go_grown⟩
        · have d1 : (k2 == 0) = false := beq_eq_false_iff_ne.2 h1
          rw [show orV ⟨k1, n1, s1⟩ ⟨k2, n2, s2⟩ = truthV false by simp [orV, Val.eqb, truthV, dx, dy, h0, h1]]
          unfold Val.v
          clear h0 h1
          go_enter Try.func35, Try.ntmps35
          go_wp2
          go_returns
          exact ⟨rfl, by go_grown⟩
    · rw [show orV ⟨k1, n1, s1⟩ ⟨k2, n2, s2⟩ = truthV true by simp [orV, Val.eqb, truthV, dx, dy]]
      unfold Val.v
      go_enter Try.func35, Try.ntmps35
      go_wp2
      go_returns
      exact ⟨rfl, by go_grown⟩
  · rw [show orV ⟨k1, n1, s1⟩ ⟨k2, n2, s2⟩ = truthV true by simp [orV, Val.eqb, truthV, dx]]
    unfold Val.v
    go_enter Try.func35, Try.ntmps35
    go_wp2
    go_returns
    exact ⟨rfl, by go_grown⟩

set_option maxHeartbeats 400000 in
theorem refUnary_kind (op k n : Int) (s : ByteArray) (h1 : (op != 1) = true) (h2 : (op != 2) = true) (w : World) :
    Calls Try.prog 13 #[.int .i64 op, .agg #[.int .i64 k, .int .i64 n, .string s]] w fun e w' => e = .returned (⟨nullV, 5⟩ : Ans).out ∧ Below w.heap.size w w' := by
  go_enter Try.func13, Try.ntmps13
  go_wp2
  go_returns
  exact ⟨rfl, by go_grown⟩

set_option maxHeartbeats 400000 in
theorem refUnary_null1 (n : Int) (s : ByteArray) (w : World) :
    Calls Try.prog 13 #[.int .i64 1, .agg #[.int .i64 0, .int .i64 n, .string s]] w fun e w' => e = .returned (⟨nullV, 0⟩ : Ans).out ∧ Below w.heap.size w w' := by
  go_enter Try.func13, Try.ntmps13
  go_wp2
  go_returns
  exact ⟨rfl, by go_grown⟩

set_option maxHeartbeats 400000 in
theorem refUnary_null2 (n : Int) (s : ByteArray) (w : World) :
    Calls Try.prog 13 #[.int .i64 2, .agg #[.int .i64 0, .int .i64 n, .string s]] w fun e w' => e = .returned (⟨nullV, 0⟩ : Ans).out ∧ Below w.heap.size w w' := by
  go_enter Try.func13, Try.ntmps13
  go_wp2
  go_returns
  exact ⟨rfl, by go_grown⟩

set_option maxHeartbeats 400000 in
theorem refUnary_type1 (k n : Int) (s : ByteArray) (h0 : (k == 0) = false) (h : (k != 2) = true) (w : World) :
    Calls Try.prog 13 #[.int .i64 1, .agg #[.int .i64 k, .int .i64 n, .string s]] w fun e w' => e = .returned (⟨nullV, 35⟩ : Ans).out ∧ Below w.heap.size w w' := by
  go_enter Try.func13, Try.ntmps13
  go_wp2
  go_returns
  exact ⟨rfl, by go_grown⟩

set_option maxHeartbeats 400000 in
theorem refUnary_type2 (k n : Int) (s : ByteArray) (h0 : (k == 0) = false) (h : (k != 1) = true) (w : World) :
    Calls Try.prog 13 #[.int .i64 2, .agg #[.int .i64 k, .int .i64 n, .string s]] w fun e w' => e = .returned (⟨nullV, 35⟩ : Ans).out ∧ Below w.heap.size w w' := by
  go_enter Try.func13, Try.ntmps13
  go_wp2
  go_returns
  exact ⟨rfl, by go_grown⟩

set_option maxHeartbeats 400000 in
theorem refUnary_not0 (s : ByteArray) (w : World) :
    Calls Try.prog 13 #[.int .i64 2, .agg #[.int .i64 1, .int .i64 0, .string s]] w fun e w' => e = .returned (⟨truthV true, 0⟩ : Ans).out ∧ Below w.heap.size w w' := by
  go_enter Try.func13, Try.ntmps13
  go_wp2
  go_returns
  exact ⟨rfl, by go_grown⟩

set_option maxHeartbeats 400000 in
theorem refUnary_not1 (s : ByteArray) (w : World) :
    Calls Try.prog 13 #[.int .i64 2, .agg #[.int .i64 1, .int .i64 1, .string s]] w fun e w' => e = .returned (⟨truthV false, 0⟩ : Ans).out ∧ Below w.heap.size w w' := by
  go_enter Try.func13, Try.ntmps13
  go_wp2
  go_returns
  exact ⟨rfl, by go_grown⟩

set_option maxHeartbeats 400000 in
theorem refUnary_least (s : ByteArray) (w : World) :
    Calls Try.prog 13 #[.int .i64 1, .agg #[.int .i64 2, .int .i64 (-9223372036854775808), .string s]] w fun e w' => e = .returned (⟨nullV, 40⟩ : Ans).out ∧ Below w.heap.size w w' := by
  go_enter Try.func13, Try.ntmps13
  go_wp2
  go_returns
  exact ⟨rfl, by go_grown⟩

set_option maxHeartbeats 400000 in
theorem refUnary_neg (n : Int) (s : ByteArray) (w : World) (h : (n == -9223372036854775808) = false) (hn : inR n) :
    Calls Try.prog 13 #[.int .i64 1, .agg #[.int .i64 2, .int .i64 n, .string s]] w fun e w' => e = .returned (⟨numV (0 - n), 0⟩ : Ans).out ∧ Below w.heap.size w w' := by
  have h' := beq_eq_false_iff_ne.1 h
  rw [show (0 - n : Int) = -n by omega]
  obtain ⟨h1, h2⟩ := hn
  have h3 : -9223372036854775808 < n := by omega
  clear h'
  go_enter Try.func13, Try.ntmps13
  go_wp2
  go_returns
  exact ⟨rfl, by go_grown⟩

theorem over_in {n : Int} (h : inR n) : over n = ⟨numV n, 0⟩ := if_pos h
theorem over_out {n : Int} (h : ¬ inR n) : over n = ⟨nullV, 40⟩ := if_neg h

/-- The number of a Bool that is right. -/
def boolRight (a : Val) : Prop := a.k = 1 → (a.n = 0 ∨ a.n = 1) ∧ a.s.data.toList = []

theorem refUnary_any (op : Int) (a : Val) (w : World) (hn : inR a.n) (hr : boolRight a) :
    Calls Try.prog 13 #[.int .i64 op, a.v] w fun e w' => e = .returned (unV op a).out ∧ Below w.heap.size w w' := by
  obtain ⟨k, n, s⟩ := a
  by_cases h1 : op = 1 ∨ op = 2
  · by_cases h0 : k = 0
    · rw [show unV op ⟨k, n, s⟩ = ⟨nullV, 0⟩ by unfold unV; rw [if_neg (by omega), if_pos h0]]
      subst h0
      rcases h1 with rfl | rfl
      · exact refUnary_null1 n s w
      · exact refUnary_null2 n s w
    · have d0 : (k == 0) = false := beq_eq_false_iff_ne.2 h0
      rcases h1 with rfl | rfl
      · by_cases h2 : k = 2
        · rw [show unV 1 ⟨k, n, s⟩ = over (0 - n) by unfold unV; rw [if_neg (by omega), if_neg h0, if_neg (by omega), if_pos h2]]
          subst h2
          simp only [inR] at hn
          by_cases hl : n = -9223372036854775808
          · subst hl
            rw [over_out (by decide)]
            exact refUnary_least s w
          · rw [over_in (by unfold inR; omega)]
            exact refUnary_neg n s w (beq_eq_false_iff_ne.2 hl) hn
        · rw [show unV 1 ⟨k, n, s⟩ = ⟨nullV, 35⟩ by unfold unV; rw [if_neg (by omega), if_neg h0, if_neg (by omega), if_neg h2]]
          exact refUnary_type1 k n s d0 (bne_iff_ne.2 h2) w
      · by_cases h2 : k = 1
        · rw [show unV 2 ⟨k, n, s⟩ = ⟨truthV (!(⟨k, n, s⟩ : Val).eqb (truthV true)), 0⟩ by unfold unV; rw [if_neg (by omega), if_neg h0, if_pos rfl, if_pos h2]]
          subst h2
          obtain ⟨hb, hs⟩ := hr rfl
          simp only [] at hb hs
          rcases hb with rfl | rfl
          · rw [show (⟨1, 0, s⟩ : Val).eqb (truthV true) = false by simp [Val.eqb, eqv, truthV]]
            exact refUnary_not0 s w
          · rw [show (⟨1, 1, s⟩ : Val).eqb (truthV true) = true by simp [Val.eqb, eqv, truthV, hs]]
            exact refUnary_not1 s w
        · rw [show unV 2 ⟨k, n, s⟩ = ⟨nullV, 35⟩ by unfold unV; rw [if_neg (by omega), if_neg h0, if_pos rfl, if_neg h2]]
          exact refUnary_type2 k n s d0 (bne_iff_ne.2 h2) w
  · rw [show unV op ⟨k, n, s⟩ = ⟨nullV, 5⟩ by unfold unV; rw [if_pos (by omega)]]
    exact refUnary_kind op k n s (bne_iff_ne.2 (by omega)) (bne_iff_ne.2 (by omega)) w
end Go.Proofs.Ytonikoijelhojaa
