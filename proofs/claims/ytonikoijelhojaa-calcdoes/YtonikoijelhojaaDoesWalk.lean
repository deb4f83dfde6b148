/- The law CalcDoes returns true and writes nothing that was there. Conditions: the values' numbers are within the numbers, the texts' lengths (together too) are Go's. -/
import Derived.Test.YtonikoijelhojaaCalcBin
import Derived.Test.YtonikoijelhojaaRefBinary
import Derived.Test.YtonikoijelhojaaCalcRight
namespace Go.Proofs.Ytonikoijelhojaa
open Go.RowKit Go.Lib Go.Sort
set_option linter.unusedVariables false

theorem eqv_refl (k n : Int) (s : ByteArray) : eqv k n s k n s = true := by simp [eqv]
theorem right_bool {a : Val} (h : rightV a = true) : boolRight a := by
  unfold rightV checkV at h
  intro hk
  rw [if_neg (by omega)] at h
  by_cases hr : a.right = true
  · unfold Val.right at hr
    simp [hk] at hr
    exact ⟨hr.1, by simpa using hr.2⟩
  · rw [if_neg hr] at h
    exact absurd h (by decide)

theorem rowOf2 (w : World) (k1 n1 k2 n2 : Int) (s1 s2 : ByteArray) (t : TypeId) (b : Nat) (hb : w.heap.size = b) :
    Row (w.alloc (.cells #[.int .i64 k1, .int .i64 n1, .string s1, .int .i64 k2, .int .i64 n2, .string s2] t)) (some ⟨b, 0, none⟩) [⟨k1, n1, s1⟩, ⟨k2, n2, s2⟩] := by
  subst hb
  refine Or.inr ⟨_, _, rfl, fun i hi => ?_⟩
  have : i = 0 ∨ i = 1 := by simp at hi; omega
  rcases this with rfl | rfl <;> refine ⟨?_, ?_, ?_⟩ <;> go_simp

set_option maxHeartbeats 4000000 in
theorem does_walk (op : Int) (a b : Val) (w : World) (hx : inR a.n) (hy : inR b.n) (hA : a.s.size ≤ maxLen) (hB : b.s.size ≤ maxLen) (hl : a.s.size + b.s.size ≤ maxLen) :
    Calls Try.prog 3 #[.int .i64 op, a.v, b.v] w fun e w' => e = .returned (.bool true) ∧ Below w.heap.size w w' := by
  obtain ⟨k1, n1, s1⟩ := a
  obtain ⟨k2, n2, s2⟩ := b
  have bA := (Box.new w k1 n1 s1 23).alloc (.cells #[.int .i64 k2, .int .i64 n2, .string s2] 23)
  have bB := Box.at (b := w.heap.size + 1) (w := w.alloc (.cells #[.int .i64 k1, .int .i64 n1, .string s1] 23)) (by simp) k2 n2 s2 23
  have R := right_any [⟨k1, n1, s1⟩, ⟨k2, n2, s2⟩] (some ⟨w.heap.size + 1 + 1, 0, none⟩) 2 _ (by unfold maxLen; simp) (rowOf2 ((w.alloc (.cells #[.int .i64 k1, .int .i64 n1, .string s1] 23)).alloc (.cells #[.int .i64 k2, .int .i64 n2, .string s2] 23)) k1 n1 k2 n2 s1 s2 23 (w.heap.size + 1 + 1) (by simp))
  have hr : [⟨k1, n1, s1⟩, ⟨k2, n2, s2⟩].all rightV = true → boolRight ⟨k1, n1, s1⟩ := fun h => right_bool (by simp at h; exact h.1)
  have he := run_eqv
  unfold Val.v
  simp only [] at *
  cases hz : [⟨k1, n1, s1⟩, ⟨k2, n2, s2⟩].all rightV
  · rw [hz] at R
    clear hr hz hx hy hA hB hl
    simp only [List.length] at R
    go_enter Try.func3, Try.ntmps3
    go_wp2_with (go_at_call 9; refine R.mono ?_; rintro e w1 ⟨rfl, b1⟩)
    go_ret
    exact ⟨rfl, below_new3 b1⟩
  · have hbr := hr hz
    rw [hz] at R
    simp only [List.length] at R
    clear hr hz
    have C1 := fun w => binary_any op ⟨k1, n1, s1⟩ ⟨k2, n2, s2⟩ w hx hy hl
    have C2 := fun w => refBinary_any op ⟨k1, n1, s1⟩ ⟨k2, n2, s2⟩ w hx hy hA hB
    have C3 := fun w => unary_any op ⟨k1, n1, s1⟩ w hx
    have C4 := fun w => refUnary_any op ⟨k1, n1, s1⟩ w hx hbr
    have C5 := fun w => true_any ⟨k1, n1, s1⟩ w
    have C6 := fun w => refTrue_any ⟨k1, n1, s1⟩ w
    generalize (⟨k1, n1, s1⟩ : Val).eqb (truthV true) = t at *
    generalize binV op ⟨k1, n1, s1⟩ ⟨k2, n2, s2⟩ = x at *
    generalize unV op ⟨k1, n1, s1⟩ = y at *
    obtain ⟨⟨xk, xn, xs⟩, xe⟩ := x
    obtain ⟨⟨yk, yn, ys⟩, ye⟩ := y
    have q1 := eqv_refl xk xn xs
    have q2 := eqv_refl yk yn ys
    clear hbr hx hy hA hB hl
    simp only [Ans.out_eq] at C1 C2 C3 C4
    unfold Val.v at C1 C2 C3 C4 C5 C6
    simp only [] at *
    go_enter Try.func3, Try.ntmps3
    go_wp2_with (first
      | (go_at_call 9; refine R.mono ?_; rintro e w1 ⟨rfl, b1⟩; have A1 := (bA.alloc _).below b1; have B1 := (bB.alloc _).below b1; have L1 := below_new3 b1; obtain ⟨a0, a1, a2, al⟩ := A1.get; obtain ⟨d0, d1, d2, dl⟩ := B1.get)
      | (go_at_call 10; with_reducible refine (C1 _).mono ?_; rintro e w2 ⟨rfl, b2⟩; have A2 := A1.below b2; have B2 := B1.below b2; have L2 := L1.trans (b2.mono L1.size); obtain ⟨a0, a1, a2, al⟩ := A2.get; obtain ⟨d0, d1, d2, dl⟩ := B2.get)
      | (go_at_call 11; with_reducible refine (C2 _).mono ?_; rintro e w3 ⟨rfl, b3⟩; have A3 := (A2.alloc _).below b3; have X3 := (Box.new w2 xk xn xs 23).below b3; have L3 := L2.trans ((below_new b3).mono L2.size); obtain ⟨a0, a1, a2, al⟩ := A3.get; obtain ⟨x0, x1, x2, xl⟩ := X3.get)
      | (go_at_call 12; with_reducible refine (C3 _).mono ?_; rintro e w4 ⟨rfl, b4⟩; have A4 := (A3.alloc _).below b4; have X4 := (X3.alloc _).below b4; have Y4 := (Box.new w3 xk xn xs 23).below b4; have L4 := L3.trans ((below_new b4).mono L3.size); obtain ⟨a0, a1, a2, al⟩ := A4.get)
      | (go_at_call 13; with_reducible refine (C4 _).mono ?_; rintro e w5 ⟨rfl, b5⟩; have A5 := (A4.alloc _).below b5; have X5 := (X4.alloc _).below b5; have Y5 := (Y4.alloc _).below b5; have U5 := (Box.new w4 yk yn ys 23).below b5; have L5 := L4.trans ((below_new b5).mono L4.size))
      | fail)
    have A6 := A5.alloc (.cells #[.int .i64 yk, .int .i64 yn, .string ys] 23)
    have X6 := X5.alloc (.cells #[.int .i64 yk, .int .i64 yn, .string ys] 23)
    have Y6 := Y5.alloc (.cells #[.int .i64 yk, .int .i64 yn, .string ys] 23)
    have U6 := U5.alloc (.cells #[.int .i64 yk, .int .i64 yn, .string ys] 23)
    have V6 := Box.new w5 yk yn ys 23
    have L6 : Below w.heap.size w (w5.alloc (.cells #[.int .i64 yk, .int .i64 yn, .string ys] 23)) := L5.alloc L5.size _
    clear a0 a1 a2 al d0 d1 d2 dl x0 x1 x2 xl A1 A2 A3 A4 A5 B1 B2 X3 X4 X5 Y4 Y5 U5 b1 b2 b3 b4 b5 bA bB L1 L2 L3 L4 R C1 C2 C3 C4
    generalize w5.alloc (.cells #[.int .i64 yk, .int .i64 yn, .string ys] 23) = W at *
    obtain ⟨a0, a1, a2, _⟩ := A6.get
    obtain ⟨x0, x1, x2, _⟩ := X6.get
    obtain ⟨y0, y1, y2, _⟩ := Y6.get
    obtain ⟨u0, u1, u2, _⟩ := U6.get
    obtain ⟨v0, v1, v2, _⟩ := V6.get
    have a0 := cell_regrown a0
    have a1 := cell_regrown a1
    have a2 := cell_regrown a2
    have x0 := cell_regrown x0
    have x1 := cell_regrown x1
    have x2 := cell_regrown x2
    have y0 := cell_regrown y0
    have y1 := cell_regrown y1
    have y2 := cell_regrown y2
    have u0 := cell_regrown u0
    have u1 := cell_regrown u1
    have u2 := cell_regrown u2
    have v0 := cell_regrown v0
    have v1 := cell_regrown v1
    have v2 := cell_regrown v2
    have D1 : Hid (∀ d os, Calls Try.prog 14 #[.agg #[.int .i64 k1, .int .i64 n1, .string s1]] (grow (redrawn W d) os) fun e w'' => e = .returned (.bool t) ∧ ∃ p : Regrown, w'' = grow (redrawn W p.d) p.os) :=
      fun d os => Calls.regrown_of (C5 _)
    have D2 : Hid (∀ d os, Calls Try.prog 15 #[.agg #[.int .i64 k1, .int .i64 n1, .string s1]] (grow (redrawn W d) os) fun e w'' => e = .returned (.bool t) ∧ ∃ p : Regrown, w'' = grow (redrawn W p.d) p.os) :=
      fun d os => Calls.regrown_of (C6 _)
    clear A6 X6 Y6 U6 V6 C5 C6
    refine wp_region_quiet_below (by kernel_rfl) (by kernel_rfl) ?_
    repeat (first | go_big_quiet_step (first | (go_at_call 14; with_reducible exact D1.out _ _) | (go_at_call 15; with_reducible exact D2.out _ _)) | quiet_step (first | (go_at_call 14; with_reducible exact D1.out _ _) | (go_at_call 15; with_reducible exact D2.out _ _)))
    refine wpQuiet_nil ?_
    intro _ hw'
    obtain ⟨⟨dq, osq⟩, hw''⟩ := hw'
    subst hw''
    go_wp2
    go_ret
    exact ⟨ret_bool (by simp), L6.trans ((below_regrown W dq osq).mono L6.size)⟩
end Go.Proofs.Ytonikoijelhojaa
