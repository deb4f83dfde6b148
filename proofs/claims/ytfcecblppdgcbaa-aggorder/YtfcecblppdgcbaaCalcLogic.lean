/- What calc.and and calc.or answer. No conditions. -/
import Derived.Test.YtfcecblppdgcbaaCalcParts
namespace Go.Proofs.Ytfcecblppdgcbaa
open Go.RowKit Go.Lib Go.Sort
set_option linter.unusedVariables false
set_option maxRecDepth 20000

theorem below_new3 {w w1 : World} {o o' o'' : Obj} (h : Below (((w.alloc o).alloc o').alloc o'').heap.size (((w.alloc o).alloc o').alloc o'') w1) : Below w.heap.size w w1 :=
  ((((Below.refl _ _).alloc (Nat.le_refl _) o).alloc (by simp) o').alloc (by simp; omega) o'').trans (h.mono (by simp; omega))
theorem below_new4 {w w1 : World} {o o' o'' o3 : Obj} (h : Below ((((w.alloc o).alloc o').alloc o'').alloc o3).heap.size ((((w.alloc o).alloc o').alloc o'').alloc o3) w1) : Below w.heap.size w w1 :=
  (((((Below.refl _ _).alloc (Nat.le_refl _) o).alloc (by simp) o').alloc (by simp; omega) o'').alloc (by simp; omega) o3).trans (h.mono (by simp; omega))

theorem boxes3 (w : World) (k1 n1 k2 n2 k3 n3 : Int) (s1 s2 s3 : ByteArray) (t : TypeId) :
    Box (((w.alloc (.cells #[.int .i64 k1, .int .i64 n1, .string s1] t)).alloc (.cells #[.int .i64 k2, .int .i64 n2, .string s2] t)).alloc (.cells #[.int .i64 k3, .int .i64 n3, .string s3] t)) w.heap.size ⟨k1, n1, s1⟩ ∧
    Box (((w.alloc (.cells #[.int .i64 k1, .int .i64 n1, .string s1] t)).alloc (.cells #[.int .i64 k2, .int .i64 n2, .string s2] t)).alloc (.cells #[.int .i64 k3, .int .i64 n3, .string s3] t)) (w.heap.size + 1) ⟨k2, n2, s2⟩ ∧
    Box (((w.alloc (.cells #[.int .i64 k1, .int .i64 n1, .string s1] t)).alloc (.cells #[.int .i64 k2, .int .i64 n2, .string s2] t)).alloc (.cells #[.int .i64 k3, .int .i64 n3, .string s3] t)) (w.heap.size + 1 + 1) ⟨k3, n3, s3⟩ :=
  ⟨((Box.new w k1 n1 s1 t).alloc _).alloc _, (Box.at (by simp) k2 n2 s2 t).alloc _, Box.at (by simp) k3 n3 s3 t⟩

set_option maxHeartbeats 1000000 in
theorem and_any (a b : Val) (w : World) :
    Calls Try.prog 56 #[a.v, b.v] w fun e w' => e = .returned (andV a b).v ∧ Below w.heap.size w w' := by
  obtain ⟨k1, n1, s1⟩ := a
  obtain ⟨k2, n2, s2⟩ := b
  have he := run_eqv
  cases dx : eqv k1 n1 s1 1 0 ⟨#[]⟩
  · cases dy : eqv k2 n2 s2 1 0 ⟨#[]⟩
    · by_cases h0 : k1 = 0
      · subst h0
        rw [show andV ⟨0, n1, s1⟩ ⟨k2, n2, s2⟩ = nullV by simp [andV, Val.eqb, truthV, dx, dy]]
        unfold Val.v
        go_enter Try.func56, Try.ntmps56
        go_wp2
        go_returns
        exact ⟨rfl, by go_grown⟩
      · have d0 : (k1 == 0) = false := beq_eq_false_iff_ne.2 h0
        by_cases h1 : k2 = 0
        · subst h1
          rw [show andV ⟨k1, n1, s1⟩ ⟨0, n2, s2⟩ = nullV by simp [andV, Val.eqb, truthV, dx, dy]]
          unfold Val.v
          clear h0
          go_enter Try.func56, Try.ntmps56
          go_wp2
          go_returns
          exact ⟨rfl, by go_grown⟩
        · have d1 : (k2 == 0) = false := beq_eq_false_iff_ne.2 h1
          rw [show andV ⟨k1, n1, s1⟩ ⟨k2, n2, s2⟩ = truthV true by simp [andV, Val.eqb, truthV, dx, dy, h0, h1]]
          unfold Val.v
          clear h0 h1
          go_enter Try.func56, Try.ntmps56
          go_wp2
          go_returns
          exact ⟨rfl, by go_grown⟩
    · rw [show andV ⟨k1, n1, s1⟩ ⟨k2, n2, s2⟩ = truthV false by simp [andV, Val.eqb, truthV, dx, dy]]
      unfold Val.v
      go_enter Try.func56, Try.ntmps56
      go_wp2
      go_returns
      exact ⟨rfl, by go_grown⟩
  · rw [show andV ⟨k1, n1, s1⟩ ⟨k2, n2, s2⟩ = truthV false by simp [andV, Val.eqb, truthV, dx]]
    unfold Val.v
    go_enter Try.func56, Try.ntmps56
    go_wp2
    go_returns
    exact ⟨rfl, by go_grown⟩

set_option maxHeartbeats 1000000 in
theorem or_any (a b : Val) (w : World) :
    Calls Try.prog 57 #[a.v, b.v] w fun e w' => e = .returned (orV a b).v ∧ Below w.heap.size w w' := by
  obtain ⟨k1, n1, s1⟩ := a
  obtain ⟨k2, n2, s2⟩ := b
  have C1 := fun w => true_any ⟨k1, n1, s1⟩ w
  have C2 := fun w => true_any ⟨k2, n2, s2⟩ w
  unfold Val.v at C1 C2
  simp only [] at C1 C2
  obtain ⟨bA, bB, bR⟩ := boxes3 w k1 n1 k2 n2 0 0 s1 s2 ⟨#[]⟩ 32
  cases dx : (⟨k1, n1, s1⟩ : Val).eqb (truthV true)
  · rw [dx] at C1
    cases dy : (⟨k2, n2, s2⟩ : Val).eqb (truthV true)
    · rw [dy] at C2
      by_cases h0 : k1 = 0
      · subst h0
        rw [show orV ⟨0, n1, s1⟩ ⟨k2, n2, s2⟩ = nullV by simp [orV, dx, dy]]
        clear dx dy
        unfold Val.v
        go_enter Try.func57, Try.ntmps57
        go_wp2_with (first
          | (go_at_call 66; with_reducible refine (C1 _).mono ?_; rintro e w1 ⟨rfl, b1⟩; obtain ⟨c0, c1, c2, _⟩ := (bB.below b1).out; obtain ⟨r0, r1, r2, f0, f1, f2⟩ := (bR.below b1).out; have B1 := below_new3 b1)
          | (go_at_call 66; with_reducible refine (C2 _).mono ?_; rintro e w2 ⟨rfl, b2⟩; obtain ⟨a0, a1, a2, _⟩ := ((bA.below b1).below b2).out; obtain ⟨d0, d1, d2, _⟩ := ((bB.below b1).below b2).out; obtain ⟨r0, r1, r2, f0, f1, f2⟩ := ((bR.below b1).below b2).out; have B2 := B1.trans (b2.mono B1.size))
          | fail)
        refine bodyPost_ret (by simp [results, Try.results57, go_sem, r0, r1, r2]; try rfl) rfl ?_
        exact ⟨rfl, by go_grown⟩
      · have d0 : (k1 == 0) = false := beq_eq_false_iff_ne.2 h0
        by_cases h1 : k2 = 0
        · subst h1
          rw [show orV ⟨k1, n1, s1⟩ ⟨0, n2, s2⟩ = nullV by simp [orV, dx, dy]]
          clear dx dy h0
          unfold Val.v
          go_enter Try.func57, Try.ntmps57
          go_wp2_with (first
            | (go_at_call 66; with_reducible refine (C1 _).mono ?_; rintro e w1 ⟨rfl, b1⟩; obtain ⟨c0, c1, c2, _⟩ := (bB.below b1).out; obtain ⟨r0, r1, r2, f0, f1, f2⟩ := (bR.below b1).out; have B1 := below_new3 b1)
            | (go_at_call 66; with_reducible refine (C2 _).mono ?_; rintro e w2 ⟨rfl, b2⟩; obtain ⟨a0, a1, a2, _⟩ := ((bA.below b1).below b2).out; obtain ⟨d0, d1, d2, _⟩ := ((bB.below b1).below b2).out; obtain ⟨r0, r1, r2, f0, f1, f2⟩ := ((bR.below b1).below b2).out; have B2 := B1.trans (b2.mono B1.size))
            | fail)
          refine bodyPost_ret (by simp [results, Try.results57, go_sem, r0, r1, r2]; try rfl) rfl ?_
          exact ⟨rfl, by go_grown⟩
        · have d1 : (k2 == 0) = false := beq_eq_false_iff_ne.2 h1
          rw [show orV ⟨k1, n1, s1⟩ ⟨k2, n2, s2⟩ = truthV false by simp [orV, dx, dy, h0, h1]]
          clear dx dy h0 h1
          unfold Val.v
          go_enter Try.func57, Try.ntmps57
          go_wp2_with (first
            | (go_at_call 66; with_reducible refine (C1 _).mono ?_; rintro e w1 ⟨rfl, b1⟩; obtain ⟨c0, c1, c2, _⟩ := (bB.below b1).out; obtain ⟨r0, r1, r2, f0, f1, f2⟩ := (bR.below b1).out; have B1 := below_new3 b1)
            | (go_at_call 66; with_reducible refine (C2 _).mono ?_; rintro e w2 ⟨rfl, b2⟩; obtain ⟨a0, a1, a2, _⟩ := ((bA.below b1).below b2).out; obtain ⟨d0, d1, d2, _⟩ := ((bB.below b1).below b2).out; obtain ⟨r0, r1, r2, f0, f1, f2⟩ := ((bR.below b1).below b2).out; have B2 := B1.trans (b2.mono B1.size))
            | (go_at_call 58; with_reducible refine (truth_any _ _).mono ?_; rintro e w3 ⟨rfl, b3⟩; obtain ⟨r0, r1, r2, f0, f1, f2⟩ := (((bR.below b1).below b2).below b3).out; have B3 := B2.trans (b3.mono B2.size))
            | fail)
          refine bodyPost_ret (by simp [results, Try.results57, go_sem, r0, r1, r2]; try rfl) rfl ?_
          exact ⟨rfl, by go_grown⟩
    · rw [dy] at C2
      rw [show orV ⟨k1, n1, s1⟩ ⟨k2, n2, s2⟩ = truthV true by simp [orV, dx, dy]]
      clear dx dy
      unfold Val.v
      go_enter Try.func57, Try.ntmps57
      go_wp2_with (first
        | (go_at_call 66; with_reducible refine (C1 _).mono ?_; rintro e w1 ⟨rfl, b1⟩; obtain ⟨c0, c1, c2, _⟩ := (bB.below b1).out; obtain ⟨r0, r1, r2, f0, f1, f2⟩ := (bR.below b1).out; have B1 := below_new3 b1)
        | (go_at_call 66; with_reducible refine (C2 _).mono ?_; rintro e w2 ⟨rfl, b2⟩; obtain ⟨a0, a1, a2, _⟩ := ((bA.below b1).below b2).out; obtain ⟨d0, d1, d2, _⟩ := ((bB.below b1).below b2).out; obtain ⟨r0, r1, r2, f0, f1, f2⟩ := ((bR.below b1).below b2).out; have B2 := B1.trans (b2.mono B1.size))
        | (go_at_call 58; with_reducible refine (truth_any _ _).mono ?_; rintro e w3 ⟨rfl, b3⟩; obtain ⟨r0, r1, r2, f0, f1, f2⟩ := (((bR.below b1).below b2).below b3).out; have B3 := B2.trans (b3.mono B2.size))
        | fail)
      refine bodyPost_ret (by simp [results, Try.results57, go_sem, r0, r1, r2]; try rfl) rfl ?_
      exact ⟨rfl, by go_grown⟩
  · rw [dx] at C1
    rw [show orV ⟨k1, n1, s1⟩ ⟨k2, n2, s2⟩ = truthV true by simp [orV, dx]]
    clear dx
    unfold Val.v
    go_enter Try.func57, Try.ntmps57
    go_wp2_with (first
      | (go_at_call 66; with_reducible refine (C1 _).mono ?_; rintro e w1 ⟨rfl, b1⟩; obtain ⟨c0, c1, c2, _⟩ := (bB.below b1).out; obtain ⟨r0, r1, r2, f0, f1, f2⟩ := (bR.below b1).out; have B1 := below_new3 b1)
      | (go_at_call 58; with_reducible refine (truth_any _ _).mono ?_; rintro e w3 ⟨rfl, b3⟩; obtain ⟨r0, r1, r2, f0, f1, f2⟩ := ((bR.below b1).below b3).out; have B3 := B1.trans (b3.mono B1.size))
      | fail)
    refine bodyPost_ret (by simp [results, Try.results57, go_sem, r0, r1, r2]; try rfl) rfl ?_
    exact ⟨rfl, by go_grown⟩
end Go.Proofs.Ytfcecblppdgcbaa
