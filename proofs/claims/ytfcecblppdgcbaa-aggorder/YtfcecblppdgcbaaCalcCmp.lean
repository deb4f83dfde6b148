/- What calc.Binary answers at a comparison of two values that are not NULL. No conditions. -/
import Derived.Test.YtfcecblppdgcbaaCalcBinary
namespace Go.Proofs.Ytfcecblppdgcbaa
open Go.RowKit Go.Lib Go.Sort
set_option linter.unusedVariables false
set_option maxRecDepth 20000

set_option maxHeartbeats 2000000 in
theorem binary_cmp (op : Int) (a b : Val) (w : World) (h1 : 5 ≤ op) (h2 : op ≤ 10) (h0 : a.k ≠ 0) (h3 : b.k ≠ 0) (hf : fitV op a b = true) :
    Calls Try.prog 54 #[.int .i64 op, a.v, b.v] w fun e w' => e = .returned (⟨truthV (holdsV op (cmpV a b)), 0⟩ : Ans).out ∧ Below w.heap.size w w' := by
  obtain ⟨k1, n1, s1⟩ := a
  obtain ⟨k2, n2, s2⟩ := b
  have X := boxes4 w op k1 n1 k2 n2 s1 s2
  have C := fun w => fit_any op ⟨k1, n1, s1⟩ ⟨k2, n2, s2⟩ w (by omega)
  rw [hf] at C
  clear hf
  have e0 : (k1 == 0) = false := beq_eq_false_iff_ne.2 h0
  have e1 : (k2 == 0) = false := beq_eq_false_iff_ne.2 h3
  have D := fun w => compare_any ⟨k1, n1, s1⟩ ⟨k2, n2, s2⟩ w
  generalize cmpV ⟨k1, n1, s1⟩ ⟨k2, n2, s2⟩ = c at *
  have E := fun w => holds_any op c w
  have F := fun w => truth_any (holdsV op c) w
  generalize holdsV op c = t at *
  unfold Val.v at *
  simp only [] at *
  clear h0 h3
  have key : (⟨truthV t, 0⟩ : Ans).out = .tuple #[.agg #[.int .i64 1, .int .i64 (if t then 1 else 0), .string ⟨#[]⟩], .int .i64 0] := by cases t <;> rfl
  rw [key]
  clear key
  generalize (if t then 1 else 0 : Int) = z at *
  go_enter Try.func54, Try.ntmps54
  go_wp2_with (go_at_call 55; with_reducible refine (C _).mono ?_; rintro e w1 ⟨rfl, b1⟩; have X1 := X.below b1; have o0 := X1.op; obtain ⟨a0, a1, a2, _⟩ := X1.a.out; obtain ⟨d0, d1, d2, _⟩ := X1.b.out; obtain ⟨r0, r1, r2, f0, f1, f2⟩ := X1.r.out; have B1 := below_new4 b1)
  have X1d : Boxes w1.drew w.heap.size op ⟨k1, n1, s1⟩ ⟨k2, n2, s2⟩ ⟨0, 0, ⟨#[]⟩⟩ := X1.below ((Below.refl _ _).drew)
  have B1d : Below w.heap.size w w1.drew := B1.drew
  go_region_with (first
    | (go_at_call 60; with_reducible refine (D _).mono ?_; rintro e w2 ⟨rfl, b2⟩; have X2 := X1d.below b2; have o0 := X2.op; have B2 := B1d.trans (b2.mono B1d.size))
    | (go_at_call 59; with_reducible refine (E _).mono ?_; rintro e w3 ⟨rfl, rfl⟩)
    | (go_at_call 58; with_reducible refine (F _).mono ?_; rintro e w3 ⟨rfl, b3⟩; obtain ⟨r0, r1, r2, f0, f1, f2⟩ := (X2.below b3).r.out; have B3 := B2.trans (b3.mono B2.size)))
  all_goals
    go_wp2
    refine bodyPost_ret (by simp [results, Try.results54, go_sem, r0, r1, r2]; try rfl) rfl ?_
    exact ⟨rfl, by go_grown⟩
end Go.Proofs.Ytfcecblppdgcbaa
