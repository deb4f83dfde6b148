/- What the gatherers of package agg do with a value. Conditions: numbers within the numbers, texts within the reach. -/
import Derived.Test.YtfcecblppdgcbaaAgMem
namespace Go.Proofs.Ytfcecblppdgcbaa
open Go.RowKit Go.Lib Go.Sort
set_option linter.unusedVariables false
set_option maxRecDepth 20000

theorem agNum_any (n : Int) (w : World) :
    Calls Try.prog 50 #[.int .i64 n] w fun e w' => e = .returned (.agg #[.int .i64 2, .int .i64 n, .string ⟨#[]⟩]) ∧ Below w.heap.size w w' := by
  go_enter Try.func50, Try.ntmps50
  go_wp2
  go_returns
  exact ⟨rfl, by go_grown⟩
theorem empty_any (g : Nat) (h : Val) (w : World) (hG : Box w g h) :
    Calls Try.prog 51 #[.pointer (some ⟨g, 0, none⟩)] w fun e w' => e = .returned (.bool (h.k == 0)) ∧ w' = w := by
  obtain ⟨k, n, s⟩ := h
  obtain ⟨c0, c1, c2, _⟩ := hG
  simp only [] at *
  go_enter Try.func51, Try.ntmps51
  go_wp2
  go_ret
  exact ⟨rfl, rfl⟩
theorem held_any (g : Nat) (h : Val) (w : World) (hG : Box w g h) :
    Calls Try.prog 52 #[.pointer (some ⟨g, 0, none⟩)] w fun e w' => e = .returned h.v ∧ Below w.heap.size w w' := by
  obtain ⟨k, n, s⟩ := h
  obtain ⟨c0, c1, c2, _⟩ := hG.alloc (.cells #[.int .i64 0, .int .i64 0, .string ⟨#[]⟩] 32)
  unfold Val.v
  simp only [] at *
  go_enter Try.func52, Try.ntmps52
  go_wp2
  go_returns
  exact ⟨rfl, by go_grown⟩
theorem count_gathered (g : Nat) (n : Int) (w : World) (c0 : w.cell? ⟨g, 0, none⟩ = some (.int .i64 n)) :
    Calls Try.prog 48 #[.pointer (some ⟨g, 0, none⟩)] w fun e w' => e = .returned (numV n).v ∧ Below w.heap.size w w' := by
  have C := fun w => agNum_any n w
  have c1 := below_cell ((Below.refl _ w).alloc (Nat.le_refl _) (.cells #[.int .i64 0, .int .i64 0, .string ⟨#[]⟩] 32)) c0
  unfold Val.v numV
  go_enter Try.func48, Try.ntmps48
  go_wp2_with (go_at_call 50; with_reducible refine (C _).mono ?_; rintro e w1 ⟨rfl, b1⟩; have B1 := below_new b1; obtain ⟨r0, r1, r2, f0, f1, f2⟩ := cells3 b1)
  refine bodyPost_ret (by simp [results, Try.results48, go_sem, r0, r1, r2]; try rfl) rfl ?_
  exact ⟨rfl, by go_grown⟩
theorem count_take (g : Nat) (n : Int) (v : Val) (w : World) (c0 : w.cell? ⟨g, 0, none⟩ = some (.int .i64 n)) (f0 : w.frozen? ⟨g, 0, none⟩ = false) (hn : 0 ≤ n ∧ n ≤ 1000000) :
    Calls Try.prog 49 #[.pointer (some ⟨g, 0, none⟩), v.v] w fun e w' => e = .returned (.int .i64 0) ∧ Chg (· = g) w w' ∧ w'.cell? ⟨g, 0, none⟩ = some (.int .i64 (n + 1)) ∧ w'.frozen? ⟨g, 0, none⟩ = false := by
  obtain ⟨vk, vn, vs⟩ := v
  have hl := cell_lt c0
  have CH : Chg (· = g) w ((w.setCell ⟨g, 0, none⟩ (.int .i64 (n + 1))).alloc (.cells #[.int .i64 vk, .int .i64 vn, .string vs] 32)) := (Chg.setCell (F := (· = g)) (Chg.refl _ _) (p := ⟨g, 0, none⟩) (Or.inl rfl) _).alloc _
  have c2 : (w.setCell ⟨g, 0, none⟩ (.int .i64 (n + 1))).cell? ⟨g, 0, none⟩ = some (.int .i64 (n + 1)) := by simp [go_sem, c0]
  have f2 : (w.setCell ⟨g, 0, none⟩ (.int .i64 (n + 1))).frozen? ⟨g, 0, none⟩ = false := by simp [go_sem, f0]
  have BA := (Below.refl _ (w.setCell ⟨g, 0, none⟩ (.int .i64 (n + 1)))).alloc (Nat.le_refl _) (.cells #[.int .i64 vk, .int .i64 vn, .string vs] 32)
  have c3 := below_cell BA c2
  have f3 : ((w.setCell ⟨g, 0, none⟩ (.int .i64 (n + 1))).alloc (.cells #[.int .i64 vk, .int .i64 vn, .string vs] 32)).frozen? ⟨g, 0, none⟩ = false := by rw [BA.frozen (p := ⟨g, 0, none⟩) (cell_lt c2)]; exact f2
  have RR : Hid (Chg (· = g) w ((w.setCell ⟨g, 0, none⟩ (.int .i64 (n + 1))).alloc (.cells #[.int .i64 vk, .int .i64 vn, .string vs] 32)) ∧ _ ∧ _) := ⟨CH, c3, f3⟩
  clear CH c2 f2 BA c3 f3
  have BA := (Below.refl _ w).alloc (Nat.le_refl _) (.cells #[.int .i64 vk, .int .i64 vn, .string vs] 32)
  have c1 := below_cell BA c0
  have f1 : (w.alloc (.cells #[.int .i64 vk, .int .i64 vn, .string vs] 32)).frozen? ⟨g, 0, none⟩ = false := by rw [BA.frozen (p := ⟨g, 0, none⟩) hl]; exact f0
  clear BA
  unfold Val.v
  simp only []
  go_enter Try.func49, Try.ntmps49
  go_wp2
  go_ret
  exact ⟨rfl, RR.out⟩
theorem Box.grownR {w : World} {b : Nat} {a : Val} (h : Box w b a) (d : Nat) (os : Array Obj) : Box (grow (redrawn w d) os) b a := h.below (below_regrown w d os)
set_option maxHeartbeats 2000000 in
theorem least_take (g : Nat) (h v : Val) (w : World) (hG : Box w g h) :
    Calls Try.prog 81 #[.pointer (some ⟨g, 0, none⟩), v.v] w fun e w' => e = .returned (.int .i64 0) ∧ Chg (· = g) w w' ∧ Box w' g (if h.k = 0 ∨ cmpV v h < 0 then v else h) := by
  have GA := hG.alloc (.cells #[.int .i64 v.k, .int .i64 v.n, .string v.s] 32)
  have VA := Box.new w v.k v.n v.s 32
  have C := fun w => compare_any v h w
  have BA := (Below.refl _ w).alloc (Nat.le_refl _) (.cells #[.int .i64 v.k, .int .i64 v.n, .string v.s] 32)
  have hgl : g < w.heap.size := cell_lt hG.1
  have hne : w.heap.size ≠ g := by omega
  obtain ⟨hk, hn, hs⟩ := h
  obtain ⟨vk, vn, vs⟩ := v
  simp only [] at GA VA BA
  generalize hc : cmpV ⟨vk, vn, vs⟩ ⟨hk, hn, hs⟩ = c at *
  unfold Val.v at C ⊢
  simp only [] at C ⊢
  generalize hr : (if hk = 0 ∨ c < 0 then (⟨vk, vn, vs⟩ : Val) else ⟨hk, hn, hs⟩) = r
  have HR := hid hr
  clear hr
  go_enter Try.func81, Try.ntmps81
  go_wp2_with fail
  generalize w.alloc (.cells #[.int .i64 vk, .int .i64 vn, .string vs] 32) = W at *
  have E : Hid (∀ d os, Calls Try.prog 51 #[.pointer (some ⟨g, 0, none⟩)] (grow (redrawn W d) os) fun e w'' => e = .returned (.bool (hk == 0)) ∧ ∃ p : Regrown, w'' = grow (redrawn W p.d) p.os) :=
    fun d os => Calls.regrown_of ((empty_any g _ _ (GA.grownR d os)).mono fun e w' h => ⟨h.1, by rw [h.2]; exact Below.refl _ _⟩)
  have D : Hid (∀ d os, Calls Try.prog 60 #[.agg #[.int .i64 vk, .int .i64 vn, .string vs], .agg #[.int .i64 hk, .int .i64 hn, .string hs]] (grow (redrawn W d) os) fun e w'' => e = .returned (.int .i64 c) ∧ ∃ p : Regrown, w'' = grow (redrawn W p.d) p.os) :=
    fun d os => Calls.regrown_of (C _)
  obtain ⟨a0, a1, a2, la⟩ := VA.get
  obtain ⟨b0, b1, b2, lb⟩ := GA.get
  have a0 := cell_regrown a0
  have a1 := cell_regrown a1
  have a2 := cell_regrown a2
  have b0 := cell_regrown b0
  have b1 := cell_regrown b1
  have b2 := cell_regrown b2
  clear C
  by_cases h0 : hk = 0
  · have e0 : (hk == 0) = true := by simp [h0]
    rw [e0] at E
    refine wp_region_quiet_below (by kernel_rfl) (by kernel_rfl) ?_
    repeat (first | go_big_quiet_step (first | (go_at_call 51; with_reducible exact E.out _ _) | (go_at_call 60; with_reducible exact D.out _ _)) | quiet_step (first | (go_at_call 51; with_reducible exact E.out _ _) | (go_at_call 60; with_reducible exact D.out _ _)))
    refine wpQuiet_nil ?_
    intro _ hw'
    obtain ⟨⟨dq, osq⟩, hw''⟩ := hw'
    subst hw''
    have VA' := VA.grownR dq osq
    have GA' := GA.grownR dq osq
    have BA' := BA.trans ((below_regrown W dq osq).mono BA.size)
    clear a0 a1 a2 b0 b1 b2 D E
    generalize grow (redrawn W dq) osq = X at *
    obtain ⟨a0, a1, a2, fa0, fa1, fa2⟩ := VA'.out
    obtain ⟨b0, b1, b2, fb0, fb1, fb2⟩ := GA'.out
    go_wp2
    go_ret
    have hr := HR.out
    rw [if_pos (Or.inl h0)] at hr
    subst hr
    exact ⟨rfl, (Chg.of_below BA').trans (chg_box _ _ _) (fun _ _ h => h), GA'.put _ _ _⟩
  · have e0 : (hk == 0) = false := beq_eq_false_iff_ne.2 h0
    rw [e0] at E
    refine wp_region_quiet_below (by kernel_rfl) (by kernel_rfl) ?_
    repeat (first | go_big_quiet_step (first | (go_at_call 51; with_reducible exact E.out _ _) | (go_at_call 60; with_reducible exact D.out _ _)) | quiet_step (first | (go_at_call 51; with_reducible exact E.out _ _) | (go_at_call 60; with_reducible exact D.out _ _)))
    refine wpQuiet_nil ?_
    intro _ hw'
    obtain ⟨⟨dq, osq⟩, hw''⟩ := hw'
    subst hw''
    have VA' := VA.grownR dq osq
    have GA' := GA.grownR dq osq
    have BA' := BA.trans ((below_regrown W dq osq).mono BA.size)
    clear a0 a1 a2 b0 b1 b2 D E
    generalize grow (redrawn W dq) osq = X at *
    obtain ⟨a0, a1, a2, fa0, fa1, fa2⟩ := VA'.out
    obtain ⟨b0, b1, b2, fb0, fb1, fb2⟩ := GA'.out
    by_cases hlt : c < 0
    · go_wp2
      go_ret
      have hr := HR.out
      rw [if_pos (Or.inr hlt)] at hr
      subst hr
      exact ⟨rfl, (Chg.of_below BA').trans (chg_box _ _ _) (fun _ _ h => h), GA'.put _ _ _⟩
    · go_wp2
      go_ret
      have hr := HR.out
      rw [if_neg (by omega)] at hr
      subst hr
      exact ⟨rfl, Chg.of_below BA', GA'⟩
set_option maxHeartbeats 2000000 in
theorem greatest_take (g : Nat) (h v : Val) (w : World) (hG : Box w g h) :
    Calls Try.prog 82 #[.pointer (some ⟨g, 0, none⟩), v.v] w fun e w' => e = .returned (.int .i64 0) ∧ Chg (· = g) w w' ∧ Box w' g (if h.k = 0 ∨ 0 < cmpV v h then v else h) := by
  have GA := hG.alloc (.cells #[.int .i64 v.k, .int .i64 v.n, .string v.s] 32)
  have VA := Box.new w v.k v.n v.s 32
  have C := fun w => compare_any v h w
  have BA := (Below.refl _ w).alloc (Nat.le_refl _) (.cells #[.int .i64 v.k, .int .i64 v.n, .string v.s] 32)
  have hgl : g < w.heap.size := cell_lt hG.1
  have hne : w.heap.size ≠ g := by omega
  obtain ⟨hk, hn, hs⟩ := h
  obtain ⟨vk, vn, vs⟩ := v
  simp only [] at GA VA BA
  generalize hc : cmpV ⟨vk, vn, vs⟩ ⟨hk, hn, hs⟩ = c at *
  unfold Val.v at C ⊢
  simp only [] at C ⊢
  generalize hr : (if hk = 0 ∨ 0 < c then (⟨vk, vn, vs⟩ : Val) else ⟨hk, hn, hs⟩) = r
  have HR := hid hr
  clear hr
  go_enter Try.func82, Try.ntmps82
  go_wp2_with fail
  generalize w.alloc (.cells #[.int .i64 vk, .int .i64 vn, .string vs] 32) = W at *
  have E : Hid (∀ d os, Calls Try.prog 51 #[.pointer (some ⟨g, 0, none⟩)] (grow (redrawn W d) os) fun e w'' => e = .returned (.bool (hk == 0)) ∧ ∃ p : Regrown, w'' = grow (redrawn W p.d) p.os) :=
    fun d os => Calls.regrown_of ((empty_any g _ _ (GA.grownR d os)).mono fun e w' h => ⟨h.1, by rw [h.2]; exact Below.refl _ _⟩)
  have D : Hid (∀ d os, Calls Try.prog 60 #[.agg #[.int .i64 vk, .int .i64 vn, .string vs], .agg #[.int .i64 hk, .int .i64 hn, .string hs]] (grow (redrawn W d) os) fun e w'' => e = .returned (.int .i64 c) ∧ ∃ p : Regrown, w'' = grow (redrawn W p.d) p.os) :=
    fun d os => Calls.regrown_of (C _)
  obtain ⟨a0, a1, a2, la⟩ := VA.get
  obtain ⟨b0, b1, b2, lb⟩ := GA.get
  have a0 := cell_regrown a0
  have a1 := cell_regrown a1
  have a2 := cell_regrown a2
  have b0 := cell_regrown b0
  have b1 := cell_regrown b1
  have b2 := cell_regrown b2
  clear C
  by_cases h0 : hk = 0
  · have e0 : (hk == 0) = true := by simp [h0]
    rw [e0] at E
    refine wp_region_quiet_below (by kernel_rfl) (by kernel_rfl) ?_
    repeat (first | go_big_quiet_step (first | (go_at_call 51; with_reducible exact E.out _ _) | (go_at_call 60; with_reducible exact D.out _ _)) | quiet_step (first | (go_at_call 51; with_reducible exact E.out _ _) | (go_at_call 60; with_reducible exact D.out _ _)))
    refine wpQuiet_nil ?_
    intro _ hw'
    obtain ⟨⟨dq, osq⟩, hw''⟩ := hw'
    subst hw''
    have VA' := VA.grownR dq osq
    have GA' := GA.grownR dq osq
    have BA' := BA.trans ((below_regrown W dq osq).mono BA.size)
    clear a0 a1 a2 b0 b1 b2 D E
    generalize grow (redrawn W dq) osq = X at *
    obtain ⟨a0, a1, a2, fa0, fa1, fa2⟩ := VA'.out
    obtain ⟨b0, b1, b2, fb0, fb1, fb2⟩ := GA'.out
    go_wp2
    go_ret
    have hr := HR.out
    rw [if_pos (Or.inl h0)] at hr
    subst hr
    exact ⟨rfl, (Chg.of_below BA').trans (chg_box _ _ _) (fun _ _ h => h), GA'.put _ _ _⟩
  · have e0 : (hk == 0) = false := beq_eq_false_iff_ne.2 h0
    rw [e0] at E
    refine wp_region_quiet_below (by kernel_rfl) (by kernel_rfl) ?_
    repeat (first | go_big_quiet_step (first | (go_at_call 51; with_reducible exact E.out _ _) | (go_at_call 60; with_reducible exact D.out _ _)) | quiet_step (first | (go_at_call 51; with_reducible exact E.out _ _) | (go_at_call 60; with_reducible exact D.out _ _)))
    refine wpQuiet_nil ?_
    intro _ hw'
    obtain ⟨⟨dq, osq⟩, hw''⟩ := hw'
    subst hw''
    have VA' := VA.grownR dq osq
    have GA' := GA.grownR dq osq
    have BA' := BA.trans ((below_regrown W dq osq).mono BA.size)
    clear a0 a1 a2 b0 b1 b2 D E
    generalize grow (redrawn W dq) osq = X at *
    obtain ⟨a0, a1, a2, fa0, fa1, fa2⟩ := VA'.out
    obtain ⟨b0, b1, b2, fb0, fb1, fb2⟩ := GA'.out
    by_cases hlt : 0 < c
    · go_wp2
      go_ret
      have hr := HR.out
      rw [if_pos (Or.inr hlt)] at hr
      subst hr
      exact ⟨rfl, (Chg.of_below BA').trans (chg_box _ _ _) (fun _ _ h => h), GA'.put _ _ _⟩
    · go_wp2
      go_ret
      have hr := HR.out
      rw [if_neg (by omega)] at hr
      subst hr
      exact ⟨rfl, Chg.of_below BA', GA'⟩
set_option maxHeartbeats 2000000 in
theorem sum_take0 (g : Nat) (hn vk vn : Int) (hs vs : ByteArray) (w : World) (hG : Box w g ⟨0, hn, hs⟩) (h0 : 0 = 0) (hv : inR vn) (hl : vs.size ≤ maxLen) (t : Ans) (ht : (if (binV 11 (numV 0) ⟨vk, vn, vs⟩).e = 0 then binV 11 (numV 0) ⟨vk, vn, vs⟩ else ⟨⟨0, hn, hs⟩, (binV 11 (numV 0) ⟨vk, vn, vs⟩).e⟩) = t) :
    Calls Try.prog 53 #[.pointer (some ⟨g, 0, none⟩), .agg #[.int .i64 vk, .int .i64 vn, .string vs]] w fun e w' => e = .returned (.int .i64 t.e) ∧ Chg (· = g) w w' ∧ Box w' g t.v := by
  have hgl : g < w.heap.size := cell_lt hG.1
  have hne : g ≠ w.heap.size + 1 := by omega
  have GA := (hG.alloc (.cells #[.int .i64 vk, .int .i64 vn, .string vs] 32)).alloc (.cells #[.int .i64 0, .int .i64 hn, .string hs] 32)
  have G1 := hG.alloc (.cells #[.int .i64 vk, .int .i64 vn, .string vs] 32)
  have VA := (Box.new w vk vn vs 32).alloc (.cells #[.int .i64 0, .int .i64 hn, .string hs] 32)
  have XA := Box.at (b := w.heap.size + 1) (w := w.alloc (.cells #[.int .i64 vk, .int .i64 vn, .string vs] 32)) (by simp) 0 hn hs 32
  have B0 : Below w.heap.size w ((w.alloc (.cells #[.int .i64 vk, .int .i64 vn, .string vs] 32)).alloc (.cells #[.int .i64 0, .int .i64 hn, .string hs] 32)) := ((Below.refl _ _).alloc (Nat.le_refl _) _).alloc (by simp) _
  have C := fun w => binary_any 11 (numV 0) ⟨vk, vn, vs⟩ w (by show (-9223372036854775808 : Int) ≤ 0 ∧ (0 : Int) ≤ 9223372036854775807; decide) hv (by show 0 + vs.size ≤ maxLen; omega)
  generalize hR : binV 11 (numV 0) ⟨vk, vn, vs⟩ = r at *
  have HT := hid ht
  clear ht hv
  obtain ⟨⟨rk, rn, rs⟩, re⟩ := r
  simp only [Ans.out_eq] at C
  unfold Val.v numV at C
  simp only [] at C HT
  have E := fun w1 b1 => empty_any g ⟨0, hn, hs⟩ w1 b1
  have e0 : ((0 : Int) == 0) = true := rfl
  simp only [e0] at E
  have NB := fun w => agNum_any 0 w
  obtain ⟨g0, g1, g2, lg⟩ := G1.get
  clear G1
  by_cases hre : re = 0
  · have er : (re == 0) = true := by simp [hre]
    have hT := HT.out
    rw [if_pos hre] at hT
    subst hT
    clear HT hre
    go_enter Try.func53, Try.ntmps53
    go_wp2_with (first
      | (go_at_call 51; with_reducible refine (E _ GA).mono ?_; rintro e w1 ⟨rfl, hw1⟩; obtain ⟨v0, v1, v2, fv0, fv1, fv2⟩ := VA.out; obtain ⟨x0, x1, x2, fx0, fx1, fx2⟩ := XA.out; subst hw1)
      | (go_at_call 50; with_reducible refine (NB _).mono ?_; rintro e w2 ⟨rfl, b2⟩; have V2 := (VA.below b2).put3 (d := w.heap.size + 1) (by omega) (.int .i64 2) (.int .i64 0) (.string ⟨#[]⟩); have G2 := (GA.below b2).put3 (d := w.heap.size + 1) (by omega) (.int .i64 2) (.int .i64 0) (.string ⟨#[]⟩); have X1 := XA.below b2; have B2 := below_put3 (d := w.heap.size + 1) (B0.trans (b2.mono B0.size)) (by omega) (.int .i64 2) (.int .i64 0) (.string ⟨#[]⟩); obtain ⟨v0, v1, v2, fv0, fv1, fv2⟩ := (VA.below b2).out; obtain ⟨x0, x1, x2, fx0, fx1, fx2⟩ := X1.out)
      | (go_at_call 54; with_reducible refine (C _).mono ?_; rintro e w3 ⟨rfl, b3⟩; have G3 := (G2.below b3).alloc (.cells #[.int .i64 rk, .int .i64 rn, .string rs] 32); have B3 := B2.trans (b3.mono B2.size); have B4 : Below w.heap.size w (w3.alloc (.cells #[.int .i64 rk, .int .i64 rn, .string rs] 32)) := B3.alloc B3.size _; obtain ⟨g0, g1, g2, fg0, fg1, fg2⟩ := G3.out)
      | fail)
    go_ret
    exact ⟨rfl, (Chg.of_below B4).trans (chg_box _ _ _) (fun _ _ h => h), G3.put _ _ _⟩
  · have er : (re == 0) = false := beq_eq_false_iff_ne.2 hre
    have hT := HT.out
    rw [if_neg hre] at hT
    subst hT
    clear HT hre
    go_enter Try.func53, Try.ntmps53
    go_wp2_with (first
      | (go_at_call 51; with_reducible refine (E _ GA).mono ?_; rintro e w1 ⟨rfl, hw1⟩; obtain ⟨v0, v1, v2, fv0, fv1, fv2⟩ := VA.out; obtain ⟨x0, x1, x2, fx0, fx1, fx2⟩ := XA.out; subst hw1)
      | (go_at_call 50; with_reducible refine (NB _).mono ?_; rintro e w2 ⟨rfl, b2⟩; have V2 := (VA.below b2).put3 (d := w.heap.size + 1) (by omega) (.int .i64 2) (.int .i64 0) (.string ⟨#[]⟩); have G2 := (GA.below b2).put3 (d := w.heap.size + 1) (by omega) (.int .i64 2) (.int .i64 0) (.string ⟨#[]⟩); have X1 := XA.below b2; have B2 := below_put3 (d := w.heap.size + 1) (B0.trans (b2.mono B0.size)) (by omega) (.int .i64 2) (.int .i64 0) (.string ⟨#[]⟩); obtain ⟨v0, v1, v2, fv0, fv1, fv2⟩ := (VA.below b2).out; obtain ⟨x0, x1, x2, fx0, fx1, fx2⟩ := X1.out)
      | (go_at_call 54; with_reducible refine (C _).mono ?_; rintro e w3 ⟨rfl, b3⟩; have G3 := (G2.below b3).alloc (.cells #[.int .i64 rk, .int .i64 rn, .string rs] 32); have B3 := B2.trans (b3.mono B2.size); have B4 : Below w.heap.size w (w3.alloc (.cells #[.int .i64 rk, .int .i64 rn, .string rs] 32)) := B3.alloc B3.size _; obtain ⟨g0, g1, g2, fg0, fg1, fg2⟩ := G3.out)
      | fail)
    go_ret
    exact ⟨rfl, Chg.of_below B4, G3⟩
set_option maxHeartbeats 2000000 in
theorem sum_take1 (g : Nat) (hk hn vk vn : Int) (hs vs : ByteArray) (w : World) (hG : Box w g ⟨hk, hn, hs⟩) (h0 : hk ≠ 0) (hv : inR vn) (hx : inR hn) (hl : hs.size + vs.size ≤ maxLen) (t : Ans) (ht : (if (binV 11 (⟨hk, hn, hs⟩) ⟨vk, vn, vs⟩).e = 0 then binV 11 (⟨hk, hn, hs⟩) ⟨vk, vn, vs⟩ else ⟨⟨hk, hn, hs⟩, (binV 11 (⟨hk, hn, hs⟩) ⟨vk, vn, vs⟩).e⟩) = t) :
    Calls Try.prog 53 #[.pointer (some ⟨g, 0, none⟩), .agg #[.int .i64 vk, .int .i64 vn, .string vs]] w fun e w' => e = .returned (.int .i64 t.e) ∧ Chg (· = g) w w' ∧ Box w' g t.v := by
  have hgl : g < w.heap.size := cell_lt hG.1
  have hne : g ≠ w.heap.size + 1 := by omega
  have GA := (hG.alloc (.cells #[.int .i64 vk, .int .i64 vn, .string vs] 32)).alloc (.cells #[.int .i64 hk, .int .i64 hn, .string hs] 32)
  have G1 := hG.alloc (.cells #[.int .i64 vk, .int .i64 vn, .string vs] 32)
  have VA := (Box.new w vk vn vs 32).alloc (.cells #[.int .i64 hk, .int .i64 hn, .string hs] 32)
  have XA := Box.at (b := w.heap.size + 1) (w := w.alloc (.cells #[.int .i64 vk, .int .i64 vn, .string vs] 32)) (by simp) hk hn hs 32
  have B0 : Below w.heap.size w ((w.alloc (.cells #[.int .i64 vk, .int .i64 vn, .string vs] 32)).alloc (.cells #[.int .i64 hk, .int .i64 hn, .string hs] 32)) := ((Below.refl _ _).alloc (Nat.le_refl _) _).alloc (by simp) _
  have C := fun w => binary_any 11 (⟨hk, hn, hs⟩) ⟨vk, vn, vs⟩ w (hx) hv (hl)
  generalize hR : binV 11 (⟨hk, hn, hs⟩) ⟨vk, vn, vs⟩ = r at *
  have HT := hid ht
  clear ht hv
  obtain ⟨⟨rk, rn, rs⟩, re⟩ := r
  simp only [Ans.out_eq] at C
  unfold Val.v at C
  simp only [] at C HT
  have E := fun w1 b1 => empty_any g ⟨hk, hn, hs⟩ w1 b1
  have e0 : (hk == 0) = false := beq_eq_false_iff_ne.2 h0
  simp only [e0] at E
  have NB := fun w => agNum_any 0 w
  obtain ⟨g0, g1, g2, lg⟩ := G1.get
  clear G1
  by_cases hre : re = 0
  · have er : (re == 0) = true := by simp [hre]
    have hT := HT.out
    rw [if_pos hre] at hT
    subst hT
    clear HT hre
    go_enter Try.func53, Try.ntmps53
    go_wp2_with (first
      | (go_at_call 51; with_reducible refine (E _ GA).mono ?_; rintro e w1 ⟨rfl, hw1⟩; obtain ⟨v0, v1, v2, fv0, fv1, fv2⟩ := VA.out; obtain ⟨x0, x1, x2, fx0, fx1, fx2⟩ := XA.out; subst hw1)
      | (go_at_call 54; with_reducible refine (C _).mono ?_; rintro e w3 ⟨rfl, b3⟩; have G3 := (GA.below b3).alloc (.cells #[.int .i64 rk, .int .i64 rn, .string rs] 32); have B3 := B0.trans (b3.mono B0.size); have B4 : Below w.heap.size w (w3.alloc (.cells #[.int .i64 rk, .int .i64 rn, .string rs] 32)) := B3.alloc B3.size _; obtain ⟨g0, g1, g2, fg0, fg1, fg2⟩ := G3.out)
      | fail)
    go_ret
    exact ⟨rfl, (Chg.of_below B4).trans (chg_box _ _ _) (fun _ _ h => h), G3.put _ _ _⟩
  · have er : (re == 0) = false := beq_eq_false_iff_ne.2 hre
    have hT := HT.out
    rw [if_neg hre] at hT
    subst hT
    clear HT hre
    go_enter Try.func53, Try.ntmps53
    go_wp2_with (first
      | (go_at_call 51; with_reducible refine (E _ GA).mono ?_; rintro e w1 ⟨rfl, hw1⟩; obtain ⟨v0, v1, v2, fv0, fv1, fv2⟩ := VA.out; obtain ⟨x0, x1, x2, fx0, fx1, fx2⟩ := XA.out; subst hw1)
      | (go_at_call 54; with_reducible refine (C _).mono ?_; rintro e w3 ⟨rfl, b3⟩; have G3 := (GA.below b3).alloc (.cells #[.int .i64 rk, .int .i64 rn, .string rs] 32); have B3 := B0.trans (b3.mono B0.size); have B4 : Below w.heap.size w (w3.alloc (.cells #[.int .i64 rk, .int .i64 rn, .string rs] 32)) := B3.alloc B3.size _; obtain ⟨g0, g1, g2, fg0, fg1, fg2⟩ := G3.out)
      | fail)
    go_ret
    exact ⟨rfl, Chg.of_below B4, G3⟩
end Go.Proofs.Ytfcecblppdgcbaa
