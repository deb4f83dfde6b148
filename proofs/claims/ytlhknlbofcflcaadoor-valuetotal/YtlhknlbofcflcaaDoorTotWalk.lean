/- The law ValueTotal returns true and writes nothing that was there. Condition: the library's table lies in memory as its text lays it. -/
import Derived.Test.YtlhknlbofcflcaaDoorValWorks
import Derived.Test.YtlhknlbofcflcaaDoorValOrder
namespace Go.Proofs.YtlhknlbofcflcaaDoor
open Go.RowKit Go.Lib Go.Sort
set_option linter.unusedVariables false

theorem right_same {a b : Val} (ra : a.right = true) (rb : b.right = true) (h : cmpV a b = 0) : a = b := by
  obtain ⟨hk, hs⟩ := cmpV_kinds h
  obtain ⟨k, n, ⟨⟨s⟩⟩⟩ := a
  obtain ⟨k2, n2, ⟨⟨s2⟩⟩⟩ := b
  simp only [] at hk
  subst hk
  simp only [Val.right, Bool.or_eq_true, Bool.and_eq_true, beq_iff_eq, List.isEmpty_iff] at ra rb
  simp only [sameKind] at hs
  by_cases h34 : k = 3 ∨ k = 4
  · rw [if_pos h34] at hs
    have := compareBytes_zero _ _ hs
    subst this
    obtain ⟨rfl, rfl⟩ : n = 0 ∧ n2 = 0 := by omega
    rfl
  · rw [if_neg h34] at hs
    obtain ⟨rfl, rfl⟩ : s = [] ∧ s2 = [] := by
      rcases ra with ((h1 | h1) | h1) | h1 <;> rcases rb with ((h2 | h2) | h2) | h2 <;> first | exact ⟨h1.2, h2.2⟩ | omega
    by_cases h12 : k = 1 ∨ k = 2
    · rw [if_pos h12] at hs
      have := cmpI_zero hs
      subst this
      rfl
    · obtain ⟨rfl, rfl⟩ : n = 0 ∧ n2 = 0 := by omega
      rfl

/-- A value in a block of its own. -/
structure Box (w : World) (b : Nat) (k n : Int) (s : ByteArray) : Prop where
  c0 : w.cell? ⟨b, 0, none⟩ = some (.int .i64 k)
  c1 : w.cell? ⟨b, 1, none⟩ = some (.int .i64 n)
  c2 : w.cell? ⟨b, 2, none⟩ = some (.string s)
theorem Box.below {w w' : World} {b : Nat} {k n : Int} {s : ByteArray} (h : Box w b k n s) (hb : Below w.heap.size w w') : Box w' b k n s :=
  ⟨below_cell hb h.c0, below_cell hb h.c1, below_cell hb h.c2⟩

theorem boxes3 (w : World) (k1 n1 k2 n2 k3 n3 : Int) (s1 s2 s3 : ByteArray) (W : World) (hW : W = ((w.alloc (.cells #[.int .i64 k1, .int .i64 n1, .string s1] 23)).alloc (.cells #[.int .i64 k2, .int .i64 n2, .string s2] 23)).alloc (.cells #[.int .i64 k3, .int .i64 n3, .string s3] 23)) :
    Box W w.heap.size k1 n1 s1 ∧ Box W (w.heap.size + 1) k2 n2 s2 ∧ Box W (w.heap.size + 1 + 1) k3 n3 s3 ∧ Below w.heap.size w W := by
  subst hW
  refine ⟨⟨by go_simp, by go_simp, by go_simp⟩, ⟨by go_simp, by go_simp, by go_simp⟩, ⟨by go_simp, by go_simp, by go_simp⟩, by go_grown⟩

set_option maxHeartbeats 1000000 in
theorem total_test (k1 n1 k2 n2 k3 n3 : Int) (s1 s2 s3 : ByteArray) (w : World) (hw : Ready w) (c1 c2 c3 : Int)
    (H1 : Hid (∀ w, Calls Tryd.prog 8 #[.agg #[.int .i64 k1, .int .i64 n1, .string s1]] w fun e w' => e = .returned (.int .i64 c1) ∧ Below w.heap.size w w'))
    (H2 : Hid (∀ w, Calls Tryd.prog 8 #[.agg #[.int .i64 k2, .int .i64 n2, .string s2]] w fun e w' => e = .returned (.int .i64 c2) ∧ Below w.heap.size w w'))
    (H3 : Hid (∀ w, Calls Tryd.prog 8 #[.agg #[.int .i64 k3, .int .i64 n3, .string s3]] w fun e w' => e = .returned (.int .i64 c3) ∧ Below w.heap.size w w'))
    (hbad : c1 ≠ 0 ∨ c2 ≠ 0 ∨ c3 ≠ 0) :
    Calls Tryd.prog 4 #[.agg #[.int .i64 k1, .int .i64 n1, .string s1], .agg #[.int .i64 k2, .int .i64 n2, .string s2], .agg #[.int .i64 k3, .int .i64 n3, .string s3]] w fun e w' => e = .returned (.bool true) ∧ Below w.heap.size w w' := by
  have HW : Hid (Ready w) := hw
  clear hw
  go_enter Tryd.func4, Tryd.ntmps4
  go_wp2_with fail
  obtain ⟨x1, x2, x3, B0⟩ := boxes3 w k1 n1 k2 n2 k3 n3 s1 s2 s3 _ rfl
  refine (works_any _ (HW.out.below B0)).mono ?_
  rintro e w1 ⟨rfl, b1⟩
  have y1 := x1.below b1
  have y2 := x2.below b1
  have y3 := x3.below b1
  have B1 : Below w.heap.size w w1 := B0.trans (b1.mono B0.size)
  clear x1 x2 x3 B0 b1
  have q0 := y1.c0
  have q1 := y1.c1
  have q2 := y1.c2
  go_wp2_with fail
  refine (H1.out _).mono ?_
  rintro e w2 ⟨rfl, b2⟩
  clear q0 q1 q2
  have B2 : Below w.heap.size w w2 := B1.trans (b2.mono B1.size)
  replace y2 := y2.below b2
  replace y3 := y3.below b2
  clear B1 b2 y1
  by_cases h1 : c1 = 0
  · subst h1
    have q0 := y2.c0
    have q1 := y2.c1
    have q2 := y2.c2
    go_wp2_with fail
    refine (H2.out _).mono ?_
    rintro e w3 ⟨rfl, b3⟩
    clear q0 q1 q2
    have B3 : Below w.heap.size w w3 := B2.trans (b3.mono B2.size)
    replace y3 := y3.below b3
    clear B2 b3 y2
    by_cases h2 : c2 = 0
    · subst h2
      have q0 := y3.c0
      have q1 := y3.c1
      have q2 := y3.c2
      go_wp2_with fail
      refine (H3.out _).mono ?_
      rintro e w4 ⟨rfl, b4⟩
      have B4 : Below w.heap.size w w4 := B3.trans (b4.mono B3.size)
      clear q0 q1 q2 b4 B3 y3
      have h3 : (c3 != 0) = true := bne_iff_ne.2 (by omega)
      go_wp2
      go_ret
      exact ⟨rfl, B4⟩
    · have h2' : (c2 != 0) = true := bne_iff_ne.2 h2
      clear h2 y3
      go_wp2
      go_ret
      exact ⟨rfl, B3⟩
  · have h1' : (c1 != 0) = true := bne_iff_ne.2 h1
    clear h1 y2 y3
    go_wp2
    go_ret
    exact ⟨rfl, B2⟩

set_option maxHeartbeats 2000000 in
theorem total_good (k1 n1 k2 n2 k3 n3 : Int) (s1 s2 s3 : ByteArray) (w : World) (hw : Ready w) (x y z : Int)
    (H1 : Checks k1 n1 s1) (H2 : Checks k2 n2 s2) (H3 : Checks k3 n3 s3)
    (C12 : Hid (∀ w, Calls Tryd.prog 15 #[.agg #[.int .i64 k1, .int .i64 n1, .string s1], .agg #[.int .i64 k2, .int .i64 n2, .string s2]] w fun e w' => e = .returned (.int .i64 (x)) ∧ Below w.heap.size w w')) (C23 : Hid (∀ w, Calls Tryd.prog 15 #[.agg #[.int .i64 k2, .int .i64 n2, .string s2], .agg #[.int .i64 k3, .int .i64 n3, .string s3]] w fun e w' => e = .returned (.int .i64 (y)) ∧ Below w.heap.size w w')) (C13 : Hid (∀ w, Calls Tryd.prog 15 #[.agg #[.int .i64 k1, .int .i64 n1, .string s1], .agg #[.int .i64 k3, .int .i64 n3, .string s3]] w fun e w' => e = .returned (.int .i64 (z)) ∧ Below w.heap.size w w')) (C21 : Hid (∀ w, Calls Tryd.prog 15 #[.agg #[.int .i64 k2, .int .i64 n2, .string s2], .agg #[.int .i64 k1, .int .i64 n1, .string s1]] w fun e w' => e = .returned (.int .i64 (-x)) ∧ Below w.heap.size w w')) (C11 : Hid (∀ w, Calls Tryd.prog 15 #[.agg #[.int .i64 k1, .int .i64 n1, .string s1], .agg #[.int .i64 k1, .int .i64 n1, .string s1]] w fun e w' => e = .returned (.int .i64 (0)) ∧ Below w.heap.size w w'))
    (HN : Hid (x = 0 ∨ (k1 == k2) = false ∨ (k1 = k2 ∧ (n1 == n2) = false) ∨ (k1 = k2 ∧ n1 = n2 ∧ (s1.toList == s2.toList) = false)))
    (HS : Hid (x = 0 → k1 = k2 ∧ n1 = n2 ∧ s1 = s2))
    (HX : Hid (x = 1 ∨ (x = 0 ∧ (y = 1 ∨ (y = 0 ∧ z = 0) ∨ (y = -1 ∧ z = -1))) ∨ (x = -1 ∧ (y = 1 ∨ (z = -1 ∧ (y = 0 ∨ y = -1)))))) :
    Calls Tryd.prog 4 #[.agg #[.int .i64 k1, .int .i64 n1, .string s1], .agg #[.int .i64 k2, .int .i64 n2, .string s2], .agg #[.int .i64 k3, .int .i64 n3, .string s3]] w fun e w' => e = .returned (.bool true) ∧ Below w.heap.size w w' := by
  have HW : Hid (Ready w) := hw
  clear hw
  go_enter Tryd.func4, Tryd.ntmps4
  go_wp2_with fail
  obtain ⟨x1, x2, x3, B0⟩ := boxes3 w k1 n1 k2 n2 k3 n3 s1 s2 s3 _ rfl
  refine (works_any _ (HW.out.below B0)).mono ?_
  rintro e w1 ⟨rfl, b1⟩
  have y1 := x1.below b1
  have y2 := x2.below b1
  have y3 := x3.below b1
  have B1 : Below w.heap.size w w1 := B0.trans (b1.mono B0.size)
  clear x1 x2 x3 B0 b1
  have q0 := y1.c0
  have q1 := y1.c1
  have q2 := y1.c2
  go_wp2_with fail
  refine (H1 _).mono ?_
  rintro e w2 ⟨rfl, b2⟩
  clear q0 q1 q2
  have B2 : Below w.heap.size w w2 := B1.trans (b2.mono B1.size)
  replace y1 := y1.below b2
  replace y2 := y2.below b2
  replace y3 := y3.below b2
  clear B1 b2
  have q0 := y2.c0
  have q1 := y2.c1
  have q2 := y2.c2
  go_wp2_with fail
  refine (H2 _).mono ?_
  rintro e w3 ⟨rfl, b3⟩
  clear q0 q1 q2
  have B3 : Below w.heap.size w w3 := B2.trans (b3.mono B2.size)
  replace y1 := y1.below b3
  replace y2 := y2.below b3
  replace y3 := y3.below b3
  clear B2 b3
  have q0 := y3.c0
  have q1 := y3.c1
  have q2 := y3.c2
  go_wp2_with fail
  refine (H3 _).mono ?_
  rintro e w4 ⟨rfl, b4⟩
  clear q0 q1 q2
  have B4 : Below w.heap.size w w4 := B3.trans (b4.mono B3.size)
  replace y1 := y1.below b4
  replace y2 := y2.below b4
  replace y3 := y3.below b4
  clear B3 b4
  go_wp2_with fail
  have D12 : Hid (∀ d os, Calls Tryd.prog 15 #[.agg #[.int .i64 k1, .int .i64 n1, .string s1], .agg #[.int .i64 k2, .int .i64 n2, .string s2]] (grow (redrawn w4 d) os) fun e w'' => e = .returned (.int .i64 x) ∧ ∃ p : Regrown, w'' = grow (redrawn w4 p.d) p.os) := fun d os => Calls.regrown_of (C12.out _)
  have D23 : Hid (∀ d os, Calls Tryd.prog 15 #[.agg #[.int .i64 k2, .int .i64 n2, .string s2], .agg #[.int .i64 k3, .int .i64 n3, .string s3]] (grow (redrawn w4 d) os) fun e w'' => e = .returned (.int .i64 y) ∧ ∃ p : Regrown, w'' = grow (redrawn w4 p.d) p.os) := fun d os => Calls.regrown_of (C23.out _)
  have D13 : Hid (∀ d os, Calls Tryd.prog 15 #[.agg #[.int .i64 k1, .int .i64 n1, .string s1], .agg #[.int .i64 k3, .int .i64 n3, .string s3]] (grow (redrawn w4 d) os) fun e w'' => e = .returned (.int .i64 z) ∧ ∃ p : Regrown, w'' = grow (redrawn w4 p.d) p.os) := fun d os => Calls.regrown_of (C13.out _)
  have g10 := cell_regrown y1.c0
  have g11 := cell_regrown y1.c1
  have g12 := cell_regrown y1.c2
  have g20 := cell_regrown y2.c0
  have g21 := cell_regrown y2.c1
  have g22 := cell_regrown y2.c2
  have g30 := cell_regrown y3.c0
  have g31 := cell_regrown y3.c1
  have g32 := cell_regrown y3.c2
  refine wp_region_quiet_below (by kernel_rfl) (by kernel_rfl) ?_
  repeat (first
    | go_big_quiet_step (first | (go_at_call 15; with_reducible exact D12.out _ _) | (go_at_call 15; with_reducible exact D23.out _ _) | (go_at_call 15; with_reducible exact D13.out _ _))
    | quiet_step (first | (go_at_call 15; with_reducible exact D12.out _ _) | (go_at_call 15; with_reducible exact D23.out _ _) | (go_at_call 15; with_reducible exact D13.out _ _)))
  refine wpQuiet_nil ?_
  intro _ hw'
  obtain ⟨⟨dq, osq⟩, hw''⟩ := hw'
  subst hw''
  clear g10 g11 g12 g20 g21 g22 g30 g31 g32 D12 D23 D13 C12 C23 C13
  have b5 := below_regrown w4 dq osq
  generalize grow (redrawn w4 dq) osq = w5 at *
  have B5 : Below w.heap.size w w5 := B4.trans (b5.mono B4.size)
  replace y1 := y1.below b5
  replace y2 := y2.below b5
  clear y3 B4 b5
  have q10 := y1.c0
  have q11 := y1.c1
  have q12 := y1.c2
  have q20 := y2.c0
  have q21 := y2.c1
  have q22 := y2.c2
  go_wp2_with fail
  refine (C21.out _).mono ?_
  rintro e w6 ⟨rfl, b6⟩
  clear q10 q11 q12 q20 q21 q22
  have B6 : Below w.heap.size w w6 := B5.trans (b6.mono B5.size)
  replace y1 := y1.below b6
  replace y2 := y2.below b6
  clear B5 b6 C21
  have q10 := y1.c0
  have q11 := y1.c1
  have q12 := y1.c2
  have q20 := y2.c0
  have q21 := y2.c1
  have q22 := y2.c2
  clear y2 H1 H2 H3 HW
  rcases HX.out with rfl | ⟨rfl, hy⟩ | ⟨rfl, hy⟩
  · clear HX HS
    rcases HN.out with h | h | ⟨rfl, h⟩ | ⟨rfl, rfl, h⟩
    · omega
    all_goals
      clear HN
      go_wp2_with fail
      refine (C11.out _).mono ?_
      rintro e w7 ⟨rfl, b7⟩
      have B7 : Below w.heap.size w w7 := B6.trans (b7.mono B6.size)
      go_wp2
      go_ret
      exact ⟨rfl, B7⟩
  · obtain ⟨rfl, rfl, rfl⟩ := HS.out rfl
    clear HX HN HS
    rcases hy with rfl | ⟨rfl, rfl⟩ | ⟨rfl, rfl⟩
    all_goals
      go_wp2_with fail
      refine (C11.out _).mono ?_
      rintro e w7 ⟨rfl, b7⟩
      have B7 : Below w.heap.size w w7 := B6.trans (b7.mono B6.size)
      go_wp2
      go_ret
      exact ⟨rfl, B7⟩
  · clear HX HS
    rcases HN.out with h | h | ⟨rfl, h⟩ | ⟨rfl, rfl, h⟩
    · omega
    all_goals
      clear HN
      rcases hy with rfl | ⟨rfl, rfl | rfl⟩
      all_goals
        go_wp2_with fail
        refine (C11.out _).mono ?_
        rintro e w7 ⟨rfl, b7⟩
        have B7 : Below w.heap.size w w7 := B6.trans (b7.mono B6.size)
        go_wp2
        go_ret
        exact ⟨rfl, B7⟩

theorem total_any (a b c : Val) (w : World) (hw : Ready w) :
    Calls Tryd.prog 4 #[a.v, b.v, c.v] w fun e w' => e = .returned (.bool true) ∧ Below w.heap.size w w' := by
  by_cases hall : checkV a = 0 ∧ checkV b = 0 ∧ checkV c = 0
  · obtain ⟨ha, hb, hc⟩ := hall
    have H1 : Checks a.k a.n a.s := fun w => by have := check_any a w; rw [ha] at this; exact this
    have H2 : Checks b.k b.n b.s := fun w => by have := check_any b w; rw [hb] at this; exact this
    have H3 : Checks c.k c.n c.s := fun w => by have := check_any c w; rw [hc] at this; exact this
    have same := right_same (checkV_zero ha).2 (checkV_zero hb).2
    have xb := cmpV_bd a b
    have yb := cmpV_bd b c
    have zb := cmpV_bd a c
    have tr := cmpV_trans a b c
    refine total_good a.k a.n b.k b.n c.k c.n a.s b.s c.s w hw (cmpV a b) (cmpV b c) (cmpV a c) H1 H2 H3
      (fun w => compare_any a b w) (fun w => compare_any b c w) (fun w => compare_any a c w)
      (fun w => by have := compare_any b a w; rw [cmpV_turn b a] at this; exact this) (fun w => by have := compare_any a a w; rw [cmpV_self a] at this; exact this) ?_ ?_ ?_
    · by_cases hx : cmpV a b = 0
      · exact Or.inl hx
      · right
        by_cases hk : a.k = b.k
        · by_cases hn : a.n = b.n
          · refine Or.inr (Or.inr ⟨hk, hn, ?_⟩)
            have hs : a.s ≠ b.s := fun e => hx (by
              have : a = b := by cases a; cases b; simp_all
              rw [this]; exact cmpV_self b)
            simp only [ByteArray.toList_eq, beq_eq_false_iff_ne]
            intro e
            apply hs
            cases h1 : a.s with | mk da => cases h2 : b.s with | mk db => rw [h1, h2] at e; simp only [] at e; rw [Array.toList_inj.1 e]
          · exact Or.inr (Or.inl ⟨hk, beq_eq_false_iff_ne.2 hn⟩)
        · exact Or.inl (beq_eq_false_iff_ne.2 hk)
    · intro hx
      have := same hx
      subst this
      exact ⟨rfl, rfl, rfl⟩
    · show _ ∨ _
      by_cases h0 : cmpV a b = 0
      · have := same h0
        subst this
        omega
      · omega
  · exact total_test a.k a.n b.k b.n c.k c.n a.s b.s c.s w hw (checkV a) (checkV b) (checkV c) (fun w => check_any a w) (fun w => check_any b w) (fun w => check_any c w) (by omega)
end Go.Proofs.YtlhknlbofcflcaaDoor
