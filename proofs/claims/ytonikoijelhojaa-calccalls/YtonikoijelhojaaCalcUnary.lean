/- What calc.Unary answers. Condition: the number is within the numbers. -/
import Derived.Test.YtonikoijelhojaaCalcLogic
import Derived.Test.YtonikoijelhojaaCalcCaught
namespace Go.Proofs.Ytonikoijelhojaa
open Go.RowKit Go.Lib Go.Sort
set_option linter.unusedVariables false

theorem endA_out {k n er : Int} {s : ByteArray} {e : Ending} (h : endA ⟨⟨k, n, s⟩, er⟩ e) :
    e = .returned (.tuple #[.agg #[.int .i64 k, .int .i64 n, .string s], .int .i64 er]) ∨ (e = .panicked thrown ∧ (⟨k, n, s⟩ : Val) = nullV ∧ er = 40) := h

set_option maxHeartbeats 400000 in
theorem unary1_any (b : Nat) (a : Val) (w : World) (hB : Box w b a) (hn : inR a.n) :
    Calls Try.prog 42 #[.pointer (some ⟨b, 0, none⟩)] w fun e w' => endA (over (0 - a.n)) e ∧ Below w.heap.size w w' := by
  obtain ⟨k, n, s⟩ := a
  have Q := fun w => difference_any 0 n w (by decide) hn
  obtain ⟨c0, c1, c2, _⟩ := (hB.alloc (.cells #[.int .i64 0, .int .i64 0, .string ⟨#[]⟩] 23)).out
  by_cases h : inR (0 - n)
  · rw [endN_in h] at Q
    rw [show over (0 - n) = ⟨numV (0 - n), 0⟩ from if_pos h]
    clear h hn hB
    generalize 0 - n = m at *
    go_enter Try.func42, Try.ntmps42
    go_wp2_with (first
      | (go_at_call 44; with_reducible refine (Q _).mono ?_; rintro e w' ⟨rfl, rfl⟩)
      | (go_at_call 43; with_reducible refine (number_any _ _).mono ?_; rintro e w1 ⟨rfl, b1⟩; obtain ⟨r0, r1, r2, f0, f1, f2⟩ := cells3 b1; have B1 := below_new b1))
    refine bodyPost_ret (by simp [results, Try.results42, go_sem, r0, r1, r2]; try rfl) rfl ?_
    exact ⟨Or.inl rfl, by go_grown⟩
  · rw [endN_out h] at Q
    rw [show over (0 - n) = ⟨nullV, 40⟩ from if_neg h]
    clear h hn hB
    go_enter Try.func42, Try.ntmps42
    go_wp2_with (go_at_call 44; with_reducible refine (Q _).mono ?_; rintro e w' ⟨rfl, rfl⟩)
    exact ⟨rfl, Or.inr ⟨rfl, rfl, rfl⟩, by go_grown⟩

theorem enters_unary1 (args : Array Value) (w : World) : (callFunc 42 args).run Try.prog w = .ok (.enter 42 args) w := by
  first | (simp [go_sem]; done) | kernel_rfl

theorem Ans.out_eq (x : Ans) : x.out = .tuple #[.agg #[.int .i64 x.v.k, .int .i64 x.v.n, .string x.v.s], .int .i64 x.e] := rfl

set_option maxHeartbeats 400000 in
theorem unary_neg (a : Val) (w : World) (hn : inR a.n) (h2 : a.k = 2) :
    Calls Try.prog 12 #[.int .i64 1, a.v] w fun e w' => e = .returned (over (0 - a.n)).out ∧ Below w.heap.size w w' := by
  have hmf : ∀ (fn : Fn) (first cap : Array Value) (w : World), (Instr.makeFunc fn first cap).run Try.prog w = .ok (.func fn first cap) w := fun _ _ _ _ => rfl
  obtain ⟨k, n, s⟩ := a
  obtain rfl : k = 2 := h2
  unfold Val.v
  simp only [] at *
  have bA := (Box.new w 2 n s 23).alloc (.cells #[.int .i64 0, .int .i64 0, .string ⟨#[]⟩] 23)
  have bR := Box.at (b := w.heap.size + 1) (w := w.alloc (.cells #[.int .i64 2, .int .i64 n, .string s] 23)) (by simp) 0 0 ⟨#[]⟩ 23
  have Q := caught_any 42 #[.pointer (some ⟨w.heap.size, 0, none⟩)] (over (0 - n)) _ (enters_unary1 _) (fun w0 b0 => unary1_any w.heap.size ⟨2, n, s⟩ w0 (bA.below b0) hn)
  rw [Ans.out_eq] at *
  generalize over (0 - n) = x at *
  obtain ⟨⟨k', n', s'⟩, er⟩ := x
  simp only [] at *
  clear hn
  go_enter Try.func12, Try.ntmps12
  go_wp2_with (go_at_call 31; with_reducible refine Q.mono ?_; rintro e w1 ⟨rfl, b1⟩; obtain ⟨r0, r1, r2, f0, f1, f2⟩ := (bR.below b1).out; have B1 := below_new2 b1)
  refine bodyPost_ret (by simp [results, Try.results12, go_sem, r0, r1, r2]; try rfl) rfl ?_
  exact ⟨rfl, by go_grown⟩

set_option maxHeartbeats 400000 in
theorem unary_kind (op : Int) (a : Val) (w : World) (h1 : (op == 1) = false) (h2 : (op == 2) = false) :
    Calls Try.prog 12 #[.int .i64 op, a.v] w fun e w' => e = .returned (⟨nullV, 5⟩ : Ans).out ∧ Below w.heap.size w w' := by
  obtain ⟨k, n, s⟩ := a
  unfold Val.v
  go_enter Try.func12, Try.ntmps12
  go_wp2
  go_returns
  exact ⟨rfl, by go_grown⟩

set_option maxHeartbeats 400000 in
theorem unary_null (op : Int) (n : Int) (s : ByteArray) (w : World) (h : op = 1 ∨ op = 2) :
    Calls Try.prog 12 #[.int .i64 op, .agg #[.int .i64 0, .int .i64 n, .string s]] w fun e w' => e = .returned (⟨nullV, 0⟩ : Ans).out ∧ Below w.heap.size w w' := by
  rcases h with rfl | rfl
  all_goals
    go_enter Try.func12, Try.ntmps12
    go_wp2
    go_returns
    exact ⟨rfl, by go_grown⟩

set_option maxHeartbeats 400000 in
theorem unary_type1 (k n : Int) (s : ByteArray) (w : World) (h0 : (k == 0) = false) (h : (k != 2) = true) :
    Calls Try.prog 12 #[.int .i64 1, .agg #[.int .i64 k, .int .i64 n, .string s]] w fun e w' => e = .returned (⟨nullV, 35⟩ : Ans).out ∧ Below w.heap.size w w' := by
  go_enter Try.func12, Try.ntmps12
  go_wp2
  go_returns
  exact ⟨rfl, by go_grown⟩
set_option maxHeartbeats 400000 in
theorem unary_type2 (k n : Int) (s : ByteArray) (w : World) (h0 : (k == 0) = false) (h : (k != 1) = true) :
    Calls Try.prog 12 #[.int .i64 2, .agg #[.int .i64 k, .int .i64 n, .string s]] w fun e w' => e = .returned (⟨nullV, 35⟩ : Ans).out ∧ Below w.heap.size w w' := by
  go_enter Try.func12, Try.ntmps12
  go_wp2
  go_returns
  exact ⟨rfl, by go_grown⟩

set_option maxHeartbeats 400000 in
theorem unary_not (n : Int) (s : ByteArray) (w : World) :
    Calls Try.prog 12 #[.int .i64 2, .agg #[.int .i64 1, .int .i64 n, .string s]] w fun e w' => e = .returned (⟨truthV (!(⟨1, n, s⟩ : Val).eqb (truthV true)), 0⟩ : Ans).out ∧ Below w.heap.size w w' := by
  have C := fun w => true_any ⟨1, n, s⟩ w
  unfold Val.v at C
  simp only [] at C
  generalize (⟨1, n, s⟩ : Val).eqb (truthV true) = x at *
  have bR := Box.at (b := w.heap.size + 1) (w := w.alloc (.cells #[.int .i64 1, .int .i64 n, .string s] 23)) (by simp) 0 0 ⟨#[]⟩ 23
  cases x
  all_goals
    go_enter Try.func12, Try.ntmps12
    go_wp2_with (first
      | (go_at_call 14; with_reducible refine (C _).mono ?_; rintro e w1 ⟨rfl, b1⟩; have B1 := below_new2 b1)
      | (go_at_call 27; with_reducible refine (truth_any _ _).mono ?_; rintro e w2 ⟨rfl, b2⟩; obtain ⟨r0, r1, r2, f0, f1, f2⟩ := ((bR.below b1).below b2).out; have B2 := B1.trans (b2.mono B1.size)))
    refine bodyPost_ret (by simp [results, Try.results12, go_sem, r0, r1, r2]; try rfl) rfl ?_
    exact ⟨rfl, by go_grown⟩

theorem unary_any (op : Int) (a : Val) (w : World) (hn : inR a.n) :
    Calls Try.prog 12 #[.int .i64 op, a.v] w fun e w' => e = .returned (unV op a).out ∧ Below w.heap.size w w' := by
  by_cases h1 : op = 1 ∨ op = 2
  · by_cases h0 : a.k = 0
    · rw [show unV op a = ⟨nullV, 0⟩ by unfold unV; rw [if_neg (by omega), if_pos h0]]
      obtain ⟨k, n, s⟩ := a
      obtain rfl : k = 0 := h0
      exact unary_null op n s w h1
    · have d0 : (a.k == 0) = false := beq_eq_false_iff_ne.2 h0
      rcases h1 with rfl | rfl
      · by_cases h2 : a.k = 2
        · rw [show unV 1 a = over (0 - a.n) by unfold unV; rw [if_neg (by omega), if_neg h0, if_neg (by omega), if_pos h2]]
          exact unary_neg a w hn h2
        · rw [show unV 1 a = ⟨nullV, 35⟩ by unfold unV; rw [if_neg (by omega), if_neg h0, if_neg (by omega), if_neg h2]]
          exact unary_type1 a.k a.n a.s w d0 (bne_iff_ne.2 h2)
      · by_cases h2 : a.k = 1
        · rw [show unV 2 a = ⟨truthV (!a.eqb (truthV true)), 0⟩ by unfold unV; rw [if_neg (by omega), if_neg h0, if_pos rfl, if_pos h2]]
          obtain ⟨k, n, s⟩ := a
          obtain rfl : k = 1 := h2
          exact unary_not n s w
        · rw [show unV 2 a = ⟨nullV, 35⟩ by unfold unV; rw [if_neg (by omega), if_neg h0, if_pos rfl, if_neg h2]]
          exact unary_type2 a.k a.n a.s w d0 (bne_iff_ne.2 h2)
  · rw [show unV op a = ⟨nullV, 5⟩ by unfold unV; rw [if_pos (by omega)]]
    exact unary_kind op a w (beq_eq_false_iff_ne.2 (by omega)) (beq_eq_false_iff_ne.2 (by omega))
end Go.Proofs.Ytonikoijelhojaa
