/- Package agg's accumulator, whole: New, Add, Value. Conditions: numbers within the numbers, texts within the reach. -/
import Derived.Test.YtfcecblppdgcbaaAgTake
namespace Go.Proofs.Ytfcecblppdgcbaa
open Go.RowKit Go.Lib Go.Sort
set_option linter.unusedVariables false
set_option maxRecDepth 20000

theorem eql_nil (w : World) : (binOp .eql 46 .nilIface .nilIface).run Try.prog w = .ok (.bool true) w := by kernel_rfl
theorem eql_some (t : TypeId) (a : Addr) (w : World) : (binOp .eql 46 (.iface t (.pointer (some a))) .nilIface).run Try.prog w = .ok (.bool false) w := by first | kernel_rfl | (simp [go_sem]; done)
theorem gath_none (op : Int) (w : World) (h : op < 1 ∨ 4 < op) :
    Calls Try.prog 19 #[.int .i64 op] w fun e w' => e = .returned .nilIface ∧ w' = w := by
  have e1 : (op == 1) = false := beq_eq_false_iff_ne.2 (by omega)
  have e2 : (op == 2) = false := beq_eq_false_iff_ne.2 (by omega)
  have e3 : (op == 3) = false := beq_eq_false_iff_ne.2 (by omega)
  have e4 : (op == 4) = false := beq_eq_false_iff_ne.2 (by omega)
  clear h
  go_enter Try.func19, Try.ntmps19
  go_wp2
  go_ret
  exact ⟨rfl, rfl⟩
theorem gath_one (op : Int) (w : World) (h : 1 ≤ op ∧ op ≤ 4) :
    Calls Try.prog 19 #[.int .i64 op] w fun e w' => e = .returned (.iface (tyG op) (.pointer (some ⟨w.heap.size, 0, none⟩))) ∧ Below w.heap.size w w' ∧ GatB w' op w.heap.size (zeroV op) ∧ w.heap.size < w'.heap.size := by
  obtain rfl | rfl | rfl | rfl : op = 1 ∨ op = 2 ∨ op = 3 ∨ op = 4 := by omega
  all_goals
    simp only [tyG, zeroV, GatB]
    go_enter Try.func19, Try.ntmps19
    go_wp2
    go_ret
  · exact ⟨rfl, by go_grown, by simp [go_sem, numV], by simp⟩
  · exact ⟨rfl, by go_grown, Box.new _ _ _ _ _, by simp⟩
  · exact ⟨rfl, by go_grown, Box.new _ _ _ _ _, by simp⟩
  · exact ⟨rfl, by go_grown, Box.new _ _ _ _ _, by simp⟩
def badNew (op : Int) (rows : Bool) : Prop := op < 1 ∨ 4 < op ∨ (rows = true ∧ op ≠ 1)
def newEnd (W : World) (op : Int) (rows : Bool) (e : Ending) (w' : World) : Prop :=
  (badNew op rows → e = .returned (.tuple #[.pointer none, .int .i64 5])) ∧
  (¬ badNew op rows → ∃ b g, e = .returned (.tuple #[.pointer (some ⟨b, 0, none⟩), .int .i64 0]) ∧ W.heap.size ≤ b ∧ W.heap.size ≤ g ∧ PAc w' b g op rows (zeroV op))
theorem new_any (op : Int) (rows : Bool) (w : World) :
    Calls Try.prog 8 #[.int .i64 op, .bool rows] w fun e w' => newEnd w op rows e w' ∧ Below w.heap.size w w' := by
  by_cases h : op < 1 ∨ 4 < op
  · have C := fun w => gath_none op w h
    have q := eql_nil
    have hb : badNew op rows := by unfold badNew; omega
    clear h
    go_enter Try.func8, Try.ntmps8
    go_wp2_with (go_at_call 19; with_reducible refine (C _).mono ?_; rintro e w1 ⟨rfl, rfl⟩)
    go_returns
    exact ⟨⟨fun _ => rfl, fun hn => absurd hb hn⟩, Below.refl _ _⟩
  · have C := fun w => gath_one op w (by omega)
    obtain rfl | rfl | rfl | rfl : op = 1 ∨ op = 2 ∨ op = 3 ∨ op = 4 := by omega
    all_goals
      simp only [tyG] at C
      have q := eql_some
      cases rows
      all_goals
        go_enter Try.func8, Try.ntmps8
        go_wp2_with (go_at_call 19; with_reducible refine (C _).mono ?_; rintro e w1 ⟨rfl, b1, G, hl⟩)
        go_returns
        first
          | exact ⟨⟨fun _ => rfl, fun hn => absurd (by unfold badNew; decide) hn⟩, b1⟩
          | exact ⟨⟨fun hn => absurd hn (by unfold badNew; decide), fun _ => ⟨_, _, rfl, b1.size, Nat.le_refl _, ⟨by go_simp; rfl, by go_simp, G.chg (F := fun _ => False) (Chg.of_below ((Below.refl _ _).alloc (Nat.le_refl _) _)) id, by omega⟩⟩⟩, b1.alloc b1.size _⟩
/-- What an accumulator has gathered. -/
theorem value_any (b g : Nat) (op : Int) (rows : Bool) (h : Val) (w : World) (hP : PAc w b g op rows h) (ho : 1 ≤ op ∧ op ≤ 4) :
    Calls Try.prog 11 #[.pointer (some ⟨b, 0, none⟩)] w fun e w' => e = .returned h.v ∧ Below w.heap.size w w' := by
  have P := hP.below ((Below.refl _ w).alloc (Nat.le_refl _) (.cells #[.int .i64 0, .int .i64 0, .string ⟨#[]⟩] 32))
  have i0 := P.c0
  have G := P.gat
  obtain rfl | rfl | rfl | rfl : op = 1 ∨ op = 2 ∨ op = 3 ∨ op = 4 := by omega
  · simp only [tyG, GatB] at i0 G
    obtain ⟨c0, f0, hn⟩ := G
    generalize h.n = n at *
    subst hn
    have C := fun (w1 : World) (b1 : w1.cell? ⟨g, 0, none⟩ = some (.int .i64 n)) => count_gathered g n w1 b1
    unfold Val.v numV at *
    go_enter Try.func11, Try.ntmps11
    go_wp2_with (go_at_call 48; with_reducible refine (C _ c0).mono ?_; rintro e w1 ⟨rfl, b1⟩; have B1 := below_new b1; obtain ⟨r0, r1, r2, f0, f1, f2⟩ := cells3 b1)
    refine bodyPost_ret (by simp [results, go_sem, r0, r1, r2]; try rfl) rfl ?_
    exact ⟨rfl, by go_grown⟩
  all_goals
    simp only [tyG] at i0
    unfold GatB at G
    rw [if_neg (by decide)] at G
    have C := fun w1 b1 => held_any g h w1 b1
    obtain ⟨hk, hn, hs⟩ := h
    unfold Val.v at C ⊢
    simp only [] at C ⊢
    go_enter Try.func11, Try.ntmps11
    go_wp2_with (go_at_call 52; with_reducible refine (C _ G).mono ?_; rintro e w1 ⟨rfl, b1⟩; have B1 := below_new b1; obtain ⟨r0, r1, r2, f0, f1, f2⟩ := cells3 b1)
    refine bodyPost_ret (by simp [results, go_sem, r0, r1, r2]; try rfl) rfl ?_
    exact ⟨rfl, by go_grown⟩
set_option maxHeartbeats 1000000 in
/-- A value comes. -/
theorem add_any (b g : Nat) (op : Int) (rows : Bool) (h v : Val) (w : World) (hP : PAc w b g op rows h) (ho : 1 ≤ op ∧ op ≤ 4) (hc : op = 1 → 0 ≤ h.n ∧ h.n ≤ 1000000) (hs : op = 2 → inR h.n ∧ inR v.n ∧ h.s.size + v.s.size ≤ maxLen) :
    Calls Try.prog 13 #[.pointer (some ⟨b, 0, none⟩), v.v] w fun e w' => e = .returned (.int .i64 (addV op rows h v).e) ∧ Chg (· = g) w w' ∧ PAc w' b g op rows (addV op rows h v).v := by
  have B0 := (Below.refl _ w).alloc (Nat.le_refl _) (.cells #[.int .i64 v.k, .int .i64 v.n, .string v.s] 32)
  have P := hP.below B0
  have i0 := P.c0
  have i1 := P.c1
  have hbl := hP.blt
  by_cases hk : v.k = 0 ∧ rows = false
  · obtain ⟨hk, rfl⟩ := hk
    have ha : addV op false h v = ⟨h, 0⟩ := by unfold addV; rw [if_pos ⟨hk, rfl⟩]
    rw [ha]
    clear ha
    obtain ⟨vk, vn, vs⟩ := v
    simp only [] at *
    subst hk
    have R : Hid (Chg (· = g) w (w.alloc (.cells #[.int .i64 0, .int .i64 vn, .string vs] 32)) ∧ PAc (w.alloc (.cells #[.int .i64 0, .int .i64 vn, .string vs] 32)) b g op false h) := ⟨Chg.of_below B0, P⟩
    clear hc hs hP P B0
    unfold Val.v
    simp only []
    go_enter Try.func13, Try.ntmps13
    go_wp2
    go_ret
    exact ⟨rfl, R.out⟩
  · have ha : addV op rows h v = takV op h v := by unfold addV; rw [if_neg hk]
    rw [ha]
    clear ha
    have hg : (v.k = 0 ∧ rows = true) ∨ (v.k == 0) = false := by
      by_cases h0 : v.k = 0
      · cases rows
        · exact absurd ⟨h0, rfl⟩ hk
        · exact Or.inl ⟨h0, rfl⟩
      · exact Or.inr (beq_eq_false_iff_ne.2 h0)
    have VA := Box.new w v.k v.n v.s 32
    have T : Hid (∀ w1, GatB w1 op g h → Calls Try.prog (if op = 1 then 49 else if op = 2 then 53 else if op = 3 then 81 else 82) #[.pointer (some ⟨g, 0, none⟩), v.v] w1 fun e w' => e = .returned (.int .i64 (takV op h v).e) ∧ Chg (· = g) w1 w' ∧ GatB w' op g (takV op h v).v) := by
      intro w1 G
      unfold GatB at G ⊢
      obtain rfl | rfl | rfl | rfl : op = 1 ∨ op = 2 ∨ op = 3 ∨ op = 4 := by omega
      · rw [if_pos rfl] at G ⊢
        refine (count_take g h.n v w1 G.1 G.2.1 (hc rfl)).mono ?_
        rintro e w' ⟨rfl, c, k, f⟩
        exact ⟨rfl, c, by rw [if_pos rfl]; exact ⟨k, f, rfl⟩⟩
      · rw [if_neg (by decide)] at G ⊢
        rw [if_pos rfl]
        obtain ⟨s1, s2, s3⟩ := hs rfl
        obtain ⟨h1, h2, h3⟩ := h
        obtain ⟨v1, v2, v3⟩ := v
        simp only [] at s1 s2 s3
        by_cases h0 : h1 = 0
        · subst h0
          refine (sum_take0 g h2 v1 v2 h3 v3 w1 G rfl s2 (by omega) (takV 2 ⟨0, h2, h3⟩ ⟨v1, v2, v3⟩) rfl).mono ?_
          rintro e w' ⟨rfl, c, k⟩
          exact ⟨rfl, c, by rw [if_neg (by decide)]; exact k⟩
        · refine (sum_take1 g h1 h2 v1 v2 h3 v3 w1 G h0 s2 s1 s3 (takV 2 ⟨h1, h2, h3⟩ ⟨v1, v2, v3⟩) ?_).mono ?_
          · unfold takV
            simp only [h0, if_false]
            rfl
          · rintro e w' ⟨rfl, c, k⟩
            exact ⟨rfl, c, by rw [if_neg (by decide)]; exact k⟩
      · rw [if_neg (by decide)] at G ⊢
        rw [if_neg (by decide), if_pos rfl]
        refine (least_take g h v w1 G).mono ?_
        rintro e w' ⟨rfl, c, k⟩
        exact ⟨rfl, c, by rw [if_neg (by decide)]; exact k⟩
      · rw [if_neg (by decide)] at G ⊢
        rw [if_neg (by decide), if_neg (by decide)]
        refine (greatest_take g h v w1 G).mono ?_
        rintro e w' ⟨rfl, c, k⟩
        exact ⟨rfl, c, by rw [if_neg (by decide)]; exact k⟩
    obtain ⟨te, tE⟩ : ∃ r, r = takV op h v := ⟨_, rfl⟩
    rw [← tE] at T ⊢
    clear tE
    obtain ⟨tv, te⟩ := te
    have HP := hid P
    have HG := hid P.gat
    have HB := hid B0
    clear hP hc hs hk P B0
    obtain ⟨vk, vn, vs⟩ := v
    unfold Val.v at T ⊢
    simp only [] at *
    obtain rfl | rfl | rfl | rfl : op = 1 ∨ op = 2 ∨ op = 3 ∨ op = 4 := by omega
    · have T' := T.out
      rw [if_pos rfl] at T'
      have HT := hid T'
      clear T T'
      simp only [tyG] at i0
      obtain ⟨v0, v1, v2, _⟩ := VA.out
      rcases hg with ⟨rfl, rfl⟩ | e0
      all_goals
        go_enter Try.func13, Try.ntmps13
        go_wp2_with fail
        refine wp_region_still_tail 5 (by kernel_rfl) (by kernel_rfl) ?_
        generalize w.alloc _ = W at *
        have hD := below_drawn W
        have P1 := HP.out.below hD
        have V1 := VA.below hD
        have B1 := HB.out.trans (hD.mono HB.out.size)
        clear i0 i1 v0 v1 v2 HP VA HB HG hD
        generalize ({ W with drawn := W.drawn + 1 } : World) = D at *
        have i0 := P1.c0
        have i1 := P1.c1
        have hbD := P1.blt
        simp only [tyG] at i0
        obtain ⟨v0, v1, v2, _⟩ := V1.out
        simp only [List.take_succ_cons, List.take_zero, List.drop_succ_cons, List.drop_zero]
        repeat still_step
        refine wpStill_nil ?_
        go_wp2_with (go_at_call 49; with_reducible refine (HT.out _ P1.gat).mono ?_; rintro e w1 ⟨rfl, c1, k1⟩)
        go_ret
        exact ⟨rfl, (Chg.of_below B1).trans c1 (fun _ _ h => h), ⟨c1.cell P1.c0 (fun h => P1.ne h.symm), c1.cell P1.c1 (fun h => P1.ne h.symm), k1, P1.ne⟩⟩
    · have T' := T.out
      rw [if_neg (by decide), if_pos rfl] at T'
      have HT := hid T'
      clear T T'
      simp only [tyG] at i0
      obtain ⟨v0, v1, v2, _⟩ := VA.out
      rcases hg with ⟨rfl, rfl⟩ | e0
      all_goals
        go_enter Try.func13, Try.ntmps13
        go_wp2_with fail
        refine wp_region_still_tail 5 (by kernel_rfl) (by kernel_rfl) ?_
        generalize w.alloc _ = W at *
        have hD := below_drawn W
        have P1 := HP.out.below hD
        have V1 := VA.below hD
        have B1 := HB.out.trans (hD.mono HB.out.size)
        clear i0 i1 v0 v1 v2 HP VA HB HG hD
        generalize ({ W with drawn := W.drawn + 1 } : World) = D at *
        have i0 := P1.c0
        have i1 := P1.c1
        have hbD := P1.blt
        simp only [tyG] at i0
        obtain ⟨v0, v1, v2, _⟩ := V1.out
        simp only [List.take_succ_cons, List.take_zero, List.drop_succ_cons, List.drop_zero]
        repeat still_step
        refine wpStill_nil ?_
        go_wp2_with (go_at_call 53; with_reducible refine (HT.out _ P1.gat).mono ?_; rintro e w1 ⟨rfl, c1, k1⟩)
        go_ret
        exact ⟨rfl, (Chg.of_below B1).trans c1 (fun _ _ h => h), ⟨c1.cell P1.c0 (fun h => P1.ne h.symm), c1.cell P1.c1 (fun h => P1.ne h.symm), k1, P1.ne⟩⟩
    · have T' := T.out
      rw [if_neg (by decide), if_neg (by decide), if_pos rfl] at T'
      have HT := hid T'
      clear T T'
      simp only [tyG] at i0
      obtain ⟨v0, v1, v2, _⟩ := VA.out
      rcases hg with ⟨rfl, rfl⟩ | e0
      all_goals
        go_enter Try.func13, Try.ntmps13
        go_wp2_with fail
        refine wp_region_still_tail 5 (by kernel_rfl) (by kernel_rfl) ?_
        generalize w.alloc _ = W at *
        have hD := below_drawn W
        have P1 := HP.out.below hD
        have V1 := VA.below hD
        have B1 := HB.out.trans (hD.mono HB.out.size)
        clear i0 i1 v0 v1 v2 HP VA HB HG hD
        generalize ({ W with drawn := W.drawn + 1 } : World) = D at *
        have i0 := P1.c0
        have i1 := P1.c1
        have hbD := P1.blt
        simp only [tyG] at i0
        obtain ⟨v0, v1, v2, _⟩ := V1.out
        simp only [List.take_succ_cons, List.take_zero, List.drop_succ_cons, List.drop_zero]
        repeat still_step
        refine wpStill_nil ?_
        go_wp2_with (go_at_call 81; with_reducible refine (HT.out _ P1.gat).mono ?_; rintro e w1 ⟨rfl, c1, k1⟩)
        go_ret
        exact ⟨rfl, (Chg.of_below B1).trans c1 (fun _ _ h => h), ⟨c1.cell P1.c0 (fun h => P1.ne h.symm), c1.cell P1.c1 (fun h => P1.ne h.symm), k1, P1.ne⟩⟩
    · have T' := T.out
      rw [if_neg (by decide), if_neg (by decide), if_neg (by decide)] at T'
      have HT := hid T'
      clear T T'
      simp only [tyG] at i0
      obtain ⟨v0, v1, v2, _⟩ := VA.out
      rcases hg with ⟨rfl, rfl⟩ | e0
      all_goals
        go_enter Try.func13, Try.ntmps13
        go_wp2_with fail
        refine wp_region_still_tail 5 (by kernel_rfl) (by kernel_rfl) ?_
        generalize w.alloc _ = W at *
        have hD := below_drawn W
        have P1 := HP.out.below hD
        have V1 := VA.below hD
        have B1 := HB.out.trans (hD.mono HB.out.size)
        clear i0 i1 v0 v1 v2 HP VA HB HG hD
        generalize ({ W with drawn := W.drawn + 1 } : World) = D at *
        have i0 := P1.c0
        have i1 := P1.c1
        have hbD := P1.blt
        simp only [tyG] at i0
        obtain ⟨v0, v1, v2, _⟩ := V1.out
        simp only [List.take_succ_cons, List.take_zero, List.drop_succ_cons, List.drop_zero]
        repeat still_step
        refine wpStill_nil ?_
        go_wp2_with (go_at_call 82; with_reducible refine (HT.out _ P1.gat).mono ?_; rintro e w1 ⟨rfl, c1, k1⟩)
        go_ret
        exact ⟨rfl, (Chg.of_below B1).trans c1 (fun _ _ h => h), ⟨c1.cell P1.c0 (fun h => P1.ne h.symm), c1.cell P1.c1 (fun h => P1.ne h.symm), k1, P1.ne⟩⟩
end Go.Proofs.Ytfcecblppdgcbaa
