/- What calc.Call answers, its work being a contract. Conditions: the slice's length is Go's. -/
import Derived.Test.YtonikoijelhojaaCallParts
import Derived.Test.YtonikoijelhojaaCalcUnary
import Derived.Deep.RegionWith
namespace Go.Proofs.Ytonikoijelhojaa
open Go.RowKit Go.Lib Go.Sort
set_option linter.unusedVariables false

/-- The variables of Call. -/
def CB (w : World) (b : Nat) (f : Int) (v : Value) : Prop := w.cell? ⟨b, 0, none⟩ = some (.int .i64 f) ∧ w.cell? ⟨b + 1, 0, none⟩ = some v ∧ Box w (b + 1 + 1) ⟨0, 0, ⟨#[]⟩⟩
theorem CB.below {w w' : World} {b : Nat} {f : Int} {v : Value} (h : CB w b f v) (k : Below w.heap.size w w') : CB w' b f v := ⟨below_cell k h.1, below_cell k h.2.1, h.2.2.below k⟩
theorem CB.out {w : World} {b : Nat} {f : Int} {v : Value} (h : CB w b f v) : w.cell? ⟨b, 0, none⟩ = some (.int .i64 f) ∧ w.cell? ⟨b + 1, 0, none⟩ = some v ∧ b < w.heap.size ∧ b + 1 < w.heap.size ∧ b + 1 + 1 < w.heap.size := ⟨h.1, h.2.1, cell_lt h.1, cell_lt h.2.1, cell_lt h.2.2.1⟩
theorem CB.r {w : World} {b : Nat} {f : Int} {v : Value} (h : CB w b f v) : Box w (b + 1 + 1) ⟨0, 0, ⟨#[]⟩⟩ := h.2.2
theorem cb_new (w : World) (f : Int) (p : Option Addr) (xs : List Val) (c : Nat) : CB (((w.alloc (.cells #[.int .i64 f] 3)).alloc (.cells #[.slice p xs.length c] 31)).alloc (.cells #[.int .i64 0, .int .i64 0, .string ⟨#[]⟩] 23)) w.heap.size f (.slice p xs.length c) :=
  ⟨by go_simp, by go_simp, Box.at (by simp) 0 0 ⟨#[]⟩ 23⟩

set_option maxHeartbeats 400000 in
theorem call_kind (f : Int) (p : Option Addr) (xs : List Val) (c : Nat) (w : World) (h : argsV f = 0) :
    Calls Try.prog 16 #[.int .i64 f, .slice p xs.length c] w fun e w' => e = .returned (⟨nullV, 5⟩ : Ans).out ∧ Below w.heap.size w w' := by
  have A := fun w => args_any f w
  rw [h] at A
  go_enter Try.func16, Try.ntmps16
  go_wp2_with (go_at_call 18; with_reducible refine (A _).mono ?_; rintro e w' ⟨rfl, rfl⟩)
  go_returns
  exact ⟨rfl, by go_grown⟩

set_option maxHeartbeats 400000 in
theorem call_count (f : Int) (p : Option Addr) (xs : List Val) (c : Nat) (w : World) (h : argsV f ≠ 0) (hl : (xs.length : Int) ≠ argsV f) :
    Calls Try.prog 16 #[.int .i64 f, .slice p xs.length c] w fun e w' => e = .returned (⟨nullV, 37⟩ : Ans).out ∧ Below w.heap.size w w' := by
  have A := fun w => args_any f w
  have d0 : (argsV f == 0) = false := beq_eq_false_iff_ne.2 h
  have d1 : ((xs.length : Int) != argsV f) = true := bne_iff_ne.2 hl
  have X := cb_new w f p xs c
  generalize argsV f = m at *
  have AH : Hid (∀ d os, Calls Try.prog 18 #[.int .i64 f] (grow (redrawn (((w.alloc (.cells #[.int .i64 f] 3)).alloc (.cells #[.slice p xs.length c] 31)).alloc (.cells #[.int .i64 0, .int .i64 0, .string ⟨#[]⟩] 23)) d) os) fun e w'' => e = .returned (.int .i64 m) ∧ ∃ q : Regrown, w'' = grow (redrawn (((w.alloc (.cells #[.int .i64 f] 3)).alloc (.cells #[.slice p xs.length c] 31)).alloc (.cells #[.int .i64 0, .int .i64 0, .string ⟨#[]⟩] 23)) q.d) q.os) :=
    fun d os => Calls.regrown_of ((A _).mono (by rintro e w' ⟨rfl, rfl⟩; exact ⟨rfl, Below.refl _ _⟩))
  obtain ⟨o0, o1, _⟩ := X.out
  have g0 := cell_regrown o0
  have g1 := cell_regrown o1
  clear h hl
  go_enter Try.func16, Try.ntmps16
  go_wp2_with (go_at_call 18; with_reducible refine (A _).mono ?_; rintro e w' ⟨rfl, rfl⟩)
  refine wp_region_quiet_below (by kernel_rfl) (by kernel_rfl) ?_
  repeat (quiet_step (first | (go_at_call 18; with_reducible exact AH.out _ _)))
  refine wpQuiet_nil ?_
  intro _ hw'
  obtain ⟨⟨dq, osq⟩, hw''⟩ := hw'
  subst hw''
  have b1 := below_regrown (((w.alloc (.cells #[.int .i64 f] 3)).alloc (.cells #[.slice p xs.length c] 31)).alloc (.cells #[.int .i64 0, .int .i64 0, .string ⟨#[]⟩] 23)) dq osq
  obtain ⟨r0, r1, r2, f0, f1, f2⟩ := (X.below b1).r.out
  have B1 := below_new3 b1
  simp only [] at *
  go_wp2
  refine bodyPost_ret (by simp [results, Try.results16, go_sem, r0, r1, r2]; try rfl) rfl ?_
  exact ⟨rfl, by go_grown⟩
end Go.Proofs.Ytonikoijelhojaa
