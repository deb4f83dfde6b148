/- The law CalcOne returns true and writes nothing that was there. Conditions: the numbers are within the numbers, the texts' lengths together are Go's. -/
import Derived.Test.YtonikoijelhojabTwoVals
import Derived.Deep.CutRange
namespace Go.Proofs.Ytonikoijelhojab
open Go.RowKit Go.Lib Go.Sort
set_option linter.unusedVariables false

set_option maxHeartbeats 800000 in
theorem is_any (op : Int) (k n1 n2 : Int) (s1 s2 : ByteArray) (w : World) (h1 : 5 ≤ op) (h2 : op ≤ 10) (h0 : k ≠ 0) (hx : inR n1) (hy : inR n2) (hl : s1.size + s2.size ≤ maxLen) :
    Calls Try.prog 11 #[.int .i64 op, .agg #[.int .i64 k, .int .i64 n1, .string s1], .agg #[.int .i64 k, .int .i64 n2, .string s2]] w fun e w' => e = .returned (.int .i64 (if holdsV op (cmpV ⟨k, n1, s1⟩ ⟨k, n2, s2⟩) then 1 else 0)) ∧ Below w.heap.size w w' := by
  have hb : binV op ⟨k, n1, s1⟩ ⟨k, n2, s2⟩ = ⟨truthV (holdsV op (cmpV ⟨k, n1, s1⟩ ⟨k, n2, s2⟩)), 0⟩ := by
    unfold binV
    rw [if_neg (by omega), if_neg (by
      unfold fitV nullOrV
      rw [if_neg (by omega), if_pos h2]
      simp), if_neg (by omega), if_neg (by omega), if_neg (by simp only []; omega), if_pos h2]
  have C := fun w => binary_any op ⟨k, n1, s1⟩ ⟨k, n2, s2⟩ w hx hy hl
  rw [hb] at C
  clear hb h0 h1 h2 hx hy hl
  generalize holdsV op (cmpV ⟨k, n1, s1⟩ ⟨k, n2, s2⟩) = t at *
  have key : (⟨truthV t, 0⟩ : Ans).out = .tuple #[.agg #[.int .i64 1, .int .i64 (if t then 1 else 0), .string ⟨#[]⟩], .int .i64 0] := by cases t <;> rfl
  rw [key] at C
  clear key
  generalize (if t then 1 else 0 : Int) = z at *
  unfold Val.v at C
  simp only [] at C
  go_enter Try.func11, Try.ntmps11
  go_wp2_with (go_at_call 6; with_reducible refine (C _).mono ?_; rintro e w1 ⟨rfl, b1⟩; have B1 := below_new2 b1)
  go_ret
  exact ⟨rfl, B1.alloc B1.size _⟩

set_option maxHeartbeats 8000000 in
theorem one_early (a b : Val) (w : World) (h : (rightV a && rightV b) = false ∨ ((rightV a && rightV b) = true ∧ a.k ≠ b.k) ∨ ((rightV a && rightV b) = true ∧ a.k = b.k ∧ a.k = 0)) :
    Calls Try.prog 4 #[a.v, b.v] w fun e w' => e = .returned (.bool true) ∧ Below w.heap.size w w' := by
  obtain ⟨k1, n1, s1⟩ := a
  obtain ⟨k2, n2, s2⟩ := b
  have RR := fun w => right2 k1 n1 k2 n2 s1 s2 w
  have B := Below.refl w.heap.size w
  unfold Val.v
  simp only [] at *
  rcases h with h | ⟨h, hk⟩ | ⟨h, rfl, rfl⟩
  · rw [h] at RR
    go_enter Try.func4, Try.ntmps4
    go_wp2_with (first
      | (go_at_call 5; with_reducible refine (works_any _).mono ?_; rintro e wn ⟨rfl, bn⟩; (first | replace B := B.trans (bn.mono B.size) | replace B := B.trans ((below_new bn).mono B.size) | replace B := B.trans ((below_new2 bn).mono B.size)); have A := ((Box.new w k1 n1 s1 24).alloc (.cells #[.int .i64 k2, .int .i64 n2, .string s2] 24)).below bn; have E := (Box.at (b := w.heap.size + 1) (w := w.alloc (.cells #[.int .i64 k1, .int .i64 n1, .string s1] 24)) (by simp) k2 n2 s2 24).below bn; obtain ⟨a0, a1, a2, al⟩ := A.get; obtain ⟨d0, d1, d2, dl⟩ := E.get)
      | (go_at_call 10; with_reducible refine (RR _).mono ?_; rintro e wn ⟨rfl, bn⟩; (first | replace B := B.trans (bn.mono B.size) | replace B := B.trans ((below_new bn).mono B.size) | replace B := B.trans ((below_new2 bn).mono B.size)); (first | replace A := A.below bn | replace A := (A.alloc _).below bn | replace A := ((A.alloc _).alloc _).below bn); (first | replace E := E.below bn | replace E := (E.alloc _).below bn | replace E := ((E.alloc _).alloc _).below bn); obtain ⟨a0, a1, a2, al⟩ := A.get; obtain ⟨d0, d1, d2, dl⟩ := E.get)
      | fail)
    go_ret
    exact ⟨rfl, B⟩
  · rw [h] at RR
    have e1 : (k1 != k2) = true := bne_iff_ne.2 hk
    clear hk
    go_enter Try.func4, Try.ntmps4
    go_wp2_with (first
      | (go_at_call 5; with_reducible refine (works_any _).mono ?_; rintro e wn ⟨rfl, bn⟩; (first | replace B := B.trans (bn.mono B.size) | replace B := B.trans ((below_new bn).mono B.size) | replace B := B.trans ((below_new2 bn).mono B.size)); have A := ((Box.new w k1 n1 s1 24).alloc (.cells #[.int .i64 k2, .int .i64 n2, .string s2] 24)).below bn; have E := (Box.at (b := w.heap.size + 1) (w := w.alloc (.cells #[.int .i64 k1, .int .i64 n1, .string s1] 24)) (by simp) k2 n2 s2 24).below bn; obtain ⟨a0, a1, a2, al⟩ := A.get; obtain ⟨d0, d1, d2, dl⟩ := E.get)
      | (go_at_call 10; with_reducible refine (RR _).mono ?_; rintro e wn ⟨rfl, bn⟩; (first | replace B := B.trans (bn.mono B.size) | replace B := B.trans ((below_new bn).mono B.size) | replace B := B.trans ((below_new2 bn).mono B.size)); (first | replace A := A.below bn | replace A := (A.alloc _).below bn | replace A := ((A.alloc _).alloc _).below bn); (first | replace E := E.below bn | replace E := (E.alloc _).below bn | replace E := ((E.alloc _).alloc _).below bn); obtain ⟨a0, a1, a2, al⟩ := A.get; obtain ⟨d0, d1, d2, dl⟩ := E.get)
      | fail)
    go_ret
    exact ⟨rfl, B⟩
  · rw [h] at RR
    go_enter Try.func4, Try.ntmps4
    go_wp2_with (first
      | (go_at_call 5; with_reducible refine (works_any _).mono ?_; rintro e wn ⟨rfl, bn⟩; (first | replace B := B.trans (bn.mono B.size) | replace B := B.trans ((below_new bn).mono B.size) | replace B := B.trans ((below_new2 bn).mono B.size)); have A := ((Box.new w 0 n1 s1 24).alloc (.cells #[.int .i64 0, .int .i64 n2, .string s2] 24)).below bn; have E := (Box.at (b := w.heap.size + 1) (w := w.alloc (.cells #[.int .i64 0, .int .i64 n1, .string s1] 24)) (by simp) 0 n2 s2 24).below bn; obtain ⟨a0, a1, a2, al⟩ := A.get; obtain ⟨d0, d1, d2, dl⟩ := E.get)
      | (go_at_call 10; with_reducible refine (RR _).mono ?_; rintro e wn ⟨rfl, bn⟩; (first | replace B := B.trans (bn.mono B.size) | replace B := B.trans ((below_new bn).mono B.size) | replace B := B.trans ((below_new2 bn).mono B.size)); (first | replace A := A.below bn | replace A := (A.alloc _).below bn | replace A := ((A.alloc _).alloc _).below bn); (first | replace E := E.below bn | replace E := (E.alloc _).below bn | replace E := ((E.alloc _).alloc _).below bn); obtain ⟨a0, a1, a2, al⟩ := A.get; obtain ⟨d0, d1, d2, dl⟩ := E.get)
      | fail)
    go_ret
    exact ⟨rfl, B⟩

set_option maxHeartbeats 8000000 in
theorem one_main (k n1 n2 : Int) (s1 s2 : ByteArray) (w : World) (h0 : k ≠ 0) (hr : (rightV ⟨k, n1, s1⟩ && rightV ⟨k, n2, s2⟩) = true) (hx : inR n1) (hy : inR n2) (hl : s1.size + s2.size ≤ maxLen) :
    Calls Try.prog 4 #[.agg #[.int .i64 k, .int .i64 n1, .string s1], .agg #[.int .i64 k, .int .i64 n2, .string s2]] w fun e w' => e = .returned (.bool true) ∧ Below w.heap.size w w' := by
  have RR := fun w => right2 k n1 k n2 s1 s2 w
  rw [hr] at RR
  have B := Below.refl w.heap.size w
  have he := run_eqv
  obtain ⟨r1, r2⟩ := Bool.and_eq_true_iff.1 hr
  have hq := eqv_cmp r1 r2
  have hb := cmpV_bd ⟨k, n1, s1⟩ ⟨k, n2, s2⟩
  have I5 := fun w => is_any 5 k n1 n2 s1 s2 w (by decide) (by decide) h0 hx hy hl
  have I6 := fun w => is_any 6 k n1 n2 s1 s2 w (by decide) (by decide) h0 hx hy hl
  have I7 := fun w => is_any 7 k n1 n2 s1 s2 w (by decide) (by decide) h0 hx hy hl
  have I8 := fun w => is_any 8 k n1 n2 s1 s2 w (by decide) (by decide) h0 hx hy hl
  have I9 := fun w => is_any 9 k n1 n2 s1 s2 w (by decide) (by decide) h0 hx hy hl
  have I10 := fun w => is_any 10 k n1 n2 s1 s2 w (by decide) (by decide) h0 hx hy hl
  have e0 : (k == 0) = false := beq_eq_false_iff_ne.2 h0
  generalize cmpV ⟨k, n1, s1⟩ ⟨k, n2, s2⟩ = c at *
  clear h0 hr r1 r2 hx hy hl
  have h3 : c = -1 ∨ c = 0 ∨ c = 1 := by omega
  clear hb
  rcases h3 with rfl | rfl | rfl
  all_goals
    simp only [holdsV] at I5 I6 I7 I8 I9 I10
    simp at I5 I6 I7 I8 I9 I10 hq
    go_enter Try.func4, Try.ntmps4
    go_upto_region 5 with (first
      | (go_at_call 5; with_reducible refine (works_any _).mono ?_; rintro e wn ⟨rfl, bn⟩; (first | replace B := B.trans (bn.mono B.size) | replace B := B.trans ((below_new bn).mono B.size) | replace B := B.trans ((below_new2 bn).mono B.size)); have A := ((Box.new w k n1 s1 24).alloc (.cells #[.int .i64 k, .int .i64 n2, .string s2] 24)).below bn; have E := (Box.at (b := w.heap.size + 1) (w := w.alloc (.cells #[.int .i64 k, .int .i64 n1, .string s1] 24)) (by simp) k n2 s2 24).below bn; obtain ⟨a0, a1, a2, al⟩ := A.get; obtain ⟨d0, d1, d2, dl⟩ := E.get)
      | (go_at_call 10; with_reducible refine (RR _).mono ?_; rintro e wn ⟨rfl, bn⟩; (first | replace B := B.trans (bn.mono B.size) | replace B := B.trans ((below_new bn).mono B.size) | replace B := B.trans ((below_new2 bn).mono B.size)); (first | replace A := A.below bn | replace A := (A.alloc _).below bn | replace A := ((A.alloc _).alloc _).below bn); (first | replace E := E.below bn | replace E := (E.alloc _).below bn | replace E := ((E.alloc _).alloc _).below bn); obtain ⟨a0, a1, a2, al⟩ := A.get; obtain ⟨d0, d1, d2, dl⟩ := E.get)
      | fail)
    clear bn
    generalize hW : wn = W at *
    clear hW
    have a0' := cell_regrown a0
    have a1' := cell_regrown a1
    have a2' := cell_regrown a2
    have d0' := cell_regrown d0
    have d1' := cell_regrown d1
    have d2' := cell_regrown d2
    have D5 := fun d os => Calls.regrown_of (w := W) (d := d) (os := os) (I5 _)
    have D7 := fun d os => Calls.regrown_of (w := W) (d := d) (os := os) (I7 _)
    have D9 := fun d os => Calls.regrown_of (w := W) (d := d) (os := os) (I9 _)
    clear a0 a1 a2 al d0 d1 d2 dl
    refine wp_region_quiet_below (by kernel_rfl) (by kernel_rfl) ?_
    repeat (first | go_big_quiet_step (first | (go_at_call 11; with_reducible exact D7 _ _) | (go_at_call 11; with_reducible exact D5 _ _) | (go_at_call 11; with_reducible exact D9 _ _)) | quiet_step (first | (go_at_call 11; with_reducible exact D7 _ _) | (go_at_call 11; with_reducible exact D5 _ _) | (go_at_call 11; with_reducible exact D9 _ _)))
    refine wpQuiet_nil ?_
    intro _ hw'
    obtain ⟨⟨dq, osq⟩, hw''⟩ := hw'
    subst hw''
    simp only []
    have bg := below_regrown W dq osq
    replace A := A.below bg
    replace E := E.below bg
    replace B := B.trans (bg.mono B.size)
    clear a0' a1' a2' d0' d1' d2' D5 D7 D9 I5 I7 I9
    generalize grow (redrawn W dq) osq = U at *
    obtain ⟨a0, a1, a2, al⟩ := A.get
    obtain ⟨d0, d1, d2, dl⟩ := E.get
    go_wp2_with (first
      | (go_at_call 11; with_reducible refine (I8 _).mono ?_; rintro e wn ⟨rfl, bn⟩; (first | replace B := B.trans (bn.mono B.size) | replace B := B.trans ((below_new bn).mono B.size) | replace B := B.trans ((below_new2 bn).mono B.size)); (first | replace A := A.below bn | replace A := (A.alloc _).below bn | replace A := ((A.alloc _).alloc _).below bn); (first | replace E := E.below bn | replace E := (E.alloc _).below bn | replace E := ((E.alloc _).alloc _).below bn); obtain ⟨a0, a1, a2, al⟩ := A.get; obtain ⟨d0, d1, d2, dl⟩ := E.get)
      | (go_at_call 11; with_reducible refine (I10 _).mono ?_; rintro e wn ⟨rfl, bn⟩; (first | replace B := B.trans (bn.mono B.size) | replace B := B.trans ((below_new bn).mono B.size) | replace B := B.trans ((below_new2 bn).mono B.size)); (first | replace A := A.below bn | replace A := (A.alloc _).below bn | replace A := ((A.alloc _).alloc _).below bn); (first | replace E := E.below bn | replace E := (E.alloc _).below bn | replace E := ((E.alloc _).alloc _).below bn); obtain ⟨a0, a1, a2, al⟩ := A.get; obtain ⟨d0, d1, d2, dl⟩ := E.get)
      | (go_at_call 11; with_reducible refine (I6 _).mono ?_; rintro e wn ⟨rfl, bn⟩; (first | replace B := B.trans (bn.mono B.size) | replace B := B.trans ((below_new bn).mono B.size) | replace B := B.trans ((below_new2 bn).mono B.size)); (first | replace A := A.below bn | replace A := (A.alloc _).below bn | replace A := ((A.alloc _).alloc _).below bn); (first | replace E := E.below bn | replace E := (E.alloc _).below bn | replace E := ((E.alloc _).alloc _).below bn); obtain ⟨a0, a1, a2, al⟩ := A.get; obtain ⟨d0, d1, d2, dl⟩ := E.get)
      | fail)
    go_ret
    exact ⟨ret_bool (by simp), B⟩

theorem one_walk (a b : Val) (w : World) (hx : inR a.n) (hy : inR b.n) (hl : a.s.size + b.s.size ≤ maxLen) :
    Calls Try.prog 4 #[a.v, b.v] w fun e w' => e = .returned (.bool true) ∧ Below w.heap.size w w' := by
  cases hr : (rightV a && rightV b)
  · exact one_early a b w (Or.inl hr)
  · by_cases hk : a.k = b.k
    · by_cases h0 : a.k = 0
      · exact one_early a b w (Or.inr (Or.inr ⟨hr, hk, h0⟩))
      · obtain ⟨k1, n1, s1⟩ := a
        obtain ⟨k2, n2, s2⟩ := b
        obtain rfl : k1 = k2 := hk
        exact one_main k1 n1 n2 s1 s2 w h0 hr hx hy hl
    · exact one_early a b w (Or.inr (Or.inl ⟨hr, hk⟩))
end Go.Proofs.Ytonikoijelhojab
