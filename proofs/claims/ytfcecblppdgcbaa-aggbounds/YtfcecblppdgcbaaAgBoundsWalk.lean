/- The law AggBounds returns true and writes nothing that was there. Conditions: the numbers are within the numbers, the texts within the reach. -/
import Derived.Test.YtfcecblppdgcbaaAgNn
import Derived.Deep.CutRange
import Derived.Deep.QuietTactic
import Derived.BigQuiet
namespace Go.Proofs.Ytfcecblppdgcbaa
open Go.RowKit Go.Lib Go.Sort
set_option linter.unusedVariables false
set_option maxRecDepth 20000

theorem bdN {w : World} (n : Nat) : Below w.heap.size w (w.drewN n) := ⟨rfl, rfl, rfl, Nat.le_refl _, fun _ _ => rfl⟩
theorem nn_take (xs : List Val) (k : Nat) (h : k < xs.length) : nn (xs.take (k + 1)) = nn (xs.take k) ++ nn [xs[k]] := by rw [List.take_succ_eq_append_getElem h, nn_append]
theorem nn_one (x : Val) (h : x.k ≠ 0) : nn [x] = [x] := by rw [nn_cons, if_neg h]; rfl
theorem nn_none (x : Val) (h : x.k = 0) : nn [x] = [] := by rw [nn_cons, if_pos h]; rfl
set_option maxHeartbeats 8000000 in
theorem bounds_walk (xs : List Val) (p : Option Addr) (c : Nat) (w : World) (hA : xs.length ≤ maxLen) (rA : Row w p xs) (hi : ∀ x ∈ xs, inR x.n) (hy : ∀ x ∈ xs, x.s.size ≤ 140737488351232) :
    Calls Try.prog 5 #[.slice p xs.length c] w fun e w' => e = .returned (.bool true) ∧ Below w.heap.size w w' := by
  have W := fun w => works_any w
  have R := fun w r => right_any xs p c w hA r
  have rH := hid rA
  have hneq := run_neqv
  have heq := run_eqv
  unfold maxLen at hA
  cases hr : (xs.all rightV && decide (xs.length ≤ 300))
  · rw [hr] at R
    clear rA hr
    go_enter Try.func5, Try.ntmps5
    go_wp2_with (first
      | (go_at_call 15; with_reducible refine (W _).mono ?_; rintro e w1 ⟨rfl, b1⟩)
      | (go_at_call 10; with_reducible refine (R _ (rH.out.below b1)).mono ?_; rintro e w2 ⟨rfl, b2⟩)
      | fail)
    go_ret
    exact ⟨rfl, below2 b1 b2⟩
  · rw [hr] at R
    have hlen : xs.length ≤ 300 := by
      simp only [Bool.and_eq_true, decide_eq_true_eq] at hr
      exact hr.2
    have hxx : ∀ x ∈ xs, inR x.n ∧ x.s.size ≤ 281474976710655 := fun x hx => ⟨hi x hx, by have := hy x hx; omega⟩
    have G := fun op w (ho : 1 ≤ op ∧ op ≤ 4) (h2 : op ≠ 2) r => gath_nn op xs p c w ho h2 (by omega) r hxx
    have HXX := hid hxx
    have G3 := fun w r => G 3 w (by decide) (by decide) r
    have G4 := fun w r => G 4 w (by decide) (by decide) r
    have G1 := fun w r => G 1 w (by decide) (by decide) r
    obtain ⟨lo, hlo⟩ : ∃ lo, lo = gatV 3 (nn xs) := ⟨_, rfl⟩
    obtain ⟨hg, hhg⟩ : ∃ hg, hg = gatV 4 (nn xs) := ⟨_, rfl⟩
    rw [← hlo] at G3
    rw [← hhg] at G4
    rw [show gatV 1 (nn xs) = numV (nn xs).length from rfl] at G1
    have HLO := hid hlo
    have HHG := hid hhg
    obtain ⟨l1, l2, l3⟩ := lo
    obtain ⟨h1, h2, h3⟩ := hg
    unfold Val.v at G3 G4 G1
    unfold numV at G1
    simp only [] at G3 G4 G1
    clear rA hr hi hy G hxx hlo hhg
    go_enter Try.func5, Try.ntmps5
    go_upto_region 6 with (first
      | (go_at_call 15; with_reducible refine (W _).mono ?_; rintro e w1 ⟨rfl, b1⟩)
      | (go_at_call 10; with_reducible refine (R _ (rH.out.below b1)).mono ?_; rintro e w2 ⟨rfl, b2⟩)
      | (go_at_call 16; with_reducible refine (G3 _ (rH.out.below (below2 b1 b2))).mono ?_; rintro e w3 ⟨rfl, b3⟩)
      | fail)
    have X1 := hid (Box.new w3 l1 l2 l3 32)
    have B3 := below2 (below2 b1 b2) b3
    have B4 := hid (B3.alloc B3.size (.cells #[.int .i64 l1, .int .i64 l2, .string l3] 32))
    clear b1 b2 b3 B3
    generalize w3.heap.size = x1 at *
    generalize World.alloc w3 _ = W1 at *
    go_upto_region 7 with (first
      | (go_at_call 16; with_reducible refine (G4 _ (rH.out.below B4.out)).mono ?_; rintro e w4 ⟨rfl, b4⟩)
      | fail)
    have X1' := hid ((X1.out.below b4).alloc (.cells #[.int .i64 h1, .int .i64 h2, .string h3] 32))
    have X2 := hid (Box.new w4 h1 h2 h3 32)
    have B5 := below2 B4.out b4
    have B6 := hid (B5.alloc B5.size (.cells #[.int .i64 h1, .int .i64 h2, .string h3] 32))
    clear b4 B4 B5 X1
    generalize w4.heap.size = x2 at *
    generalize World.alloc w4 _ = W2 at *
    go_upto_region 8 with (first
      | (go_at_call 16; with_reducible refine (G1 _ (rH.out.below B6.out)).mono ?_; rintro e w5 ⟨rfl, b5⟩)
      | fail)
    have X1 := hid ((X1'.out.below b5).alloc (.cells #[.int .i64 2, .int .i64 (nn xs).length, .string ⟨#[]⟩] 32))
    have X2' := hid ((X2.out.below b5).alloc (.cells #[.int .i64 2, .int .i64 (nn xs).length, .string ⟨#[]⟩] 32))
    have X3 := hid (Box.new w5 2 (nn xs).length ⟨#[]⟩ 32)
    have B7 := below2 B6.out b5
    have B8 := hid (B7.alloc B7.size (.cells #[.int .i64 2, .int .i64 (nn xs).length, .string ⟨#[]⟩] 32))
    clear b5 B6 B7 X1' X2 G1 G3 G4 R W
    generalize w5.heap.size = x3 at *
    generalize World.alloc w5 _ = W3 at *
    go_wp2_with fail
    go_loopw [9, 10, 11, 12] (fun n a m i wr => ∃ k : Nat, k ≤ xs.length ∧ i = .int .i64 k ∧ n = .int .i64 (nn (xs.take k)).length ∧ a = .bool ((nn (xs.take k)).any (Val.eqb · ⟨l1, l2, l3⟩)) ∧ m = .bool ((nn (xs.take k)).any (Val.eqb · ⟨h1, h2, h3⟩)) ∧ Box wr x1 ⟨l1, l2, l3⟩ ∧ Box wr x2 ⟨h1, h2, h3⟩ ∧ Box wr x3 ⟨2, (nn xs).length, ⟨#[]⟩⟩ ∧ Below w.heap.size w wr) (fun n a m i _ => xs.length - (intOf i).toNat)
    case atStart => exact ⟨0, Nat.zero_le _, rfl, rfl, rfl, rfl, X1.out, X2'.out, X3.out, B8.out⟩
    case round =>
      obtain ⟨k, hkx, rfl, rfl, rfl, rfl, Y1, Y2, Y3, hb⟩ := hrel
      have HY1 := hid Y1
      have HY2 := hid Y2
      have HY3 := hid Y3
      have HB := hid hb
      clear Y1 Y2 Y3 X1 X2' X3 B8
      by_cases hlt : k < xs.length
      · obtain ⟨b2, o2, rfl, c10, c11, c12⟩ := (rH.out.below hb).at hlt
        have ht := nn_take xs k hlt
        have hkl : (k : Int) < (xs.length : Int) := by omega
        have hmem := List.getElem_mem hlt
        have hlk : (nn (xs.take k)).length ≤ k := by
          have := List.length_filter_le (fun v : Val => v.k != 0) (xs.take k)
          rw [List.length_take] at this
          unfold nn; omega
        generalize nn (xs.take k) = T at *
        by_cases h0 : xs[k].k = 0
        · rw [nn_none _ h0, List.append_nil] at ht
          have HT := hid ht
          clear ht
          generalize xs[k] = x at *
          obtain ⟨xk, xn, xt⟩ := x
          simp only [] at *
          subst h0
          go_wp2_with fail
          go_roundw
          case rel => exact ⟨k + 1, by omega, by go_num, by rw [HT.out], by rw [HT.out], by rw [HT.out], HY1.out, HY2.out, HY3.out, HB.out⟩
          case measure => simp [intOf]; omega
        · rw [nn_one _ h0] at ht
          have hxn : xs[k] ∈ nn xs := nn_mem.2 ⟨hmem, h0⟩
          have hne : nn xs ≠ [] := by intro h; rw [h] at hxn; cases hxn
          have q1 : cmpV ⟨l1, l2, l3⟩ xs[k] ≤ 0 := by rw [HLO.out, gat_best (by decide) (by decide) hne]; exact best3 hxn
          have q2 : 0 ≤ cmpV ⟨h1, h2, h3⟩ xs[k] := by
            have q3 : cmpV xs[k] ⟨h1, h2, h3⟩ ≤ 0 := by rw [HHG.out, gat_best (by decide) (by decide) hne]; exact best4 hxn
            have := cmpV_turn ⟨h1, h2, h3⟩ xs[k]
            omega
          have sz : ∀ y ∈ xs, y.s.size ≤ maxLen := fun y hy => by have := (HXX.out y hy).2; unfold maxLen; omega
          have C1 := fun w => refCompare_any ⟨l1, l2, l3⟩ xs[k] w (by
            rcases gat_mem (op := 3) (by decide) (by decide) (nn xs) with ⟨_, h⟩ | h
            · exact absurd h hne
            · rw [HLO.out]; exact sz _ (nn_mem.1 h).1) (sz _ hmem)
          have C2 := fun w => refCompare_any ⟨h1, h2, h3⟩ xs[k] w (by
            rcases gat_mem (op := 4) (by decide) (by decide) (nn xs) with ⟨_, h⟩ | h
            · exact absurd h hne
            · rw [HHG.out]; exact sz _ (nn_mem.1 h).1) (sz _ hmem)
          generalize cmpV ⟨l1, l2, l3⟩ xs[k] = v1 at *
          generalize cmpV ⟨h1, h2, h3⟩ xs[k] = v2 at *
          have hA1 : T.any (Val.eqb · ⟨l1, l2, l3⟩) = true → (xs.take (k + 1) |> nn).any (Val.eqb · ⟨l1, l2, l3⟩) = true := fun h => by show (nn (xs.take (k + 1))).any _ = true; rw [ht, List.any_append, h]; rfl
          have hA2 : T.any (Val.eqb · ⟨l1, l2, l3⟩) = false → (nn (xs.take (k + 1))).any (Val.eqb · ⟨l1, l2, l3⟩) = eqv xs[k].k xs[k].n xs[k].s l1 l2 l3 := fun h => by rw [ht, List.any_append, h]; simp [Val.eqb]
          have hM1 : T.any (Val.eqb · ⟨h1, h2, h3⟩) = true → (nn (xs.take (k + 1))).any (Val.eqb · ⟨h1, h2, h3⟩) = true := fun h => by rw [ht, List.any_append, h]; rfl
          have hM2 : T.any (Val.eqb · ⟨h1, h2, h3⟩) = false → (nn (xs.take (k + 1))).any (Val.eqb · ⟨h1, h2, h3⟩) = eqv xs[k].k xs[k].n xs[k].s h1 h2 h3 := fun h => by rw [ht, List.any_append, h]; simp [Val.eqb]
          have hN : (nn (xs.take (k + 1))).length = T.length + 1 := by rw [ht]; simp
          have HN := hid hN
          have HA1 := hid hA1
          have HA2 := hid hA2
          have HM1 := hid hM1
          have HM2 := hid hM2
          generalize T.any (Val.eqb · ⟨l1, l2, l3⟩) = A at *
          generalize T.any (Val.eqb · ⟨h1, h2, h3⟩) = M at *
          clear ht hA1 hA2 hM1 hM2 hN hxn hne sz hmem
          generalize T.length = tl at *
          generalize xs[k] = x at *
          obtain ⟨xk, xn, xt⟩ := x
          unfold Val.v at C1 C2
          simp only [] at *
          have e0 : (xk == 0) = false := beq_eq_false_iff_ne.2 h0
          have g1 : ¬ 0 < v1 := by omega
          have g2 : ¬ v2 < 0 := by omega
          have d1 : decide (0 < v1) = false := decide_eq_false g1
          have d2 : decide (v2 < 0) = false := decide_eq_false g2
          obtain ⟨y10, y11, y12, _⟩ := HY1.out.out
          obtain ⟨y20, y21, y22, _⟩ := HY2.out.out
          have hcb := cell_lt c10
          cases A <;> cases M
          · have FA := hid (HA2.out rfl)
            have FM := hid (HM2.out rfl)
            clear HA1 HA2 HM1 HM2
            go_wp2_with fail
            go_quiet (fail)
            go_wp2_with fail
            go_quiet (fail)
            go_wp2_with fail
            generalize hY : World.drewN (World.drewN wr _) _ = Y at *
            have BY : Below wr.heap.size wr Y := by rw [← hY]; exact below2 (bdN _) (bdN _)
            have Z1 := hid (HY1.out.below BY)
            have Z2 := hid (HY2.out.below BY)
            have Z3 := hid (HY3.out.below BY)
            have ZB := hid (HB.out.trans (BY.mono HB.out.size))
            have c10' := cell_regrown (below_cell BY c10)
            have c11' := cell_regrown (below_cell BY c11)
            have c12' := cell_regrown (below_cell BY c12)
            clear y10 y11 y12 y20 y21 y22 c10 c11 c12 hY BY HY1 HY2 HY3 HB
            obtain ⟨y10, y11, y12, _⟩ := Z1.out.out
            obtain ⟨y20, y21, y22, _⟩ := Z2.out.out
            have y10' := cell_regrown y10
            have y11' := cell_regrown y11
            have y12' := cell_regrown y12
            have y20' := cell_regrown y20
            have y21' := cell_regrown y21
            have y22' := cell_regrown y22
            have D1 : Hid (∀ d os, Calls Try.prog 17 #[.agg #[.int .i64 l1, .int .i64 l2, .string l3], .agg #[.int .i64 xk, .int .i64 xn, .string xt]] (grow (redrawn Y d) os) fun e w'' => e = .returned (.int .i64 v1) ∧ ∃ p : Regrown, w'' = grow (redrawn Y p.d) p.os) :=
              fun d os => Calls.regrown_of (C1 _)
            have D2 : Hid (∀ d os, Calls Try.prog 17 #[.agg #[.int .i64 h1, .int .i64 h2, .string h3], .agg #[.int .i64 xk, .int .i64 xn, .string xt]] (grow (redrawn Y d) os) fun e w'' => e = .returned (.int .i64 v2) ∧ ∃ p : Regrown, w'' = grow (redrawn Y p.d) p.os) :=
              fun d os => Calls.regrown_of (C2 _)
            refine wp_region_quiet_below (by kernel_rfl) (by kernel_rfl) ?_
            repeat (first | go_big_quiet_step (first | (go_at_call 17; with_reducible exact D1.out _ _) | (go_at_call 17; with_reducible exact D2.out _ _)) | quiet_step (first | (go_at_call 17; with_reducible exact D1.out _ _) | (go_at_call 17; with_reducible exact D2.out _ _)))
            refine wpQuiet_nil ?_
            intro _ hw'
            obtain ⟨⟨dq, osq⟩, hw''⟩ := hw'
            subst hw''
            have BG := below_regrown Y dq osq
            have U1 := hid (Z1.out.below BG)
            have U2 := hid (Z2.out.below BG)
            have U3 := hid (Z3.out.below BG)
            have UB := hid (ZB.out.trans (BG.mono ZB.out.size))
            clear y10 y11 y12 y20 y21 y22 y10' y11' y12' y20' y21' y22' c10' c11' c12' D1 D2 BG Z1 Z2 Z3 ZB
            generalize grow (redrawn Y dq) osq = Q at *
            go_wp2_with fail
            go_roundw
            case rel => exact ⟨k + 1, by omega, by go_num, by rw [HN.out]; go_num, by rw [FA.out], by rw [FM.out], U1.out, U2.out, U3.out, UB.out⟩
            case measure => simp [intOf]; omega
          · have FA := hid (HA2.out rfl)
            have FM := hid (HM1.out rfl)
            clear HA1 HA2 HM1 HM2
            go_wp2_with fail
            go_quiet (fail)
            go_wp2_with fail
            go_quiet (fail)
            go_wp2_with fail
            generalize hY : World.drewN (World.drewN wr _) _ = Y at *
            have BY : Below wr.heap.size wr Y := by rw [← hY]; exact below2 (bdN _) (bdN _)
            have Z1 := hid (HY1.out.below BY)
            have Z2 := hid (HY2.out.below BY)
            have Z3 := hid (HY3.out.below BY)
            have ZB := hid (HB.out.trans (BY.mono HB.out.size))
            have c10' := cell_regrown (below_cell BY c10)
            have c11' := cell_regrown (below_cell BY c11)
            have c12' := cell_regrown (below_cell BY c12)
            clear y10 y11 y12 y20 y21 y22 c10 c11 c12 hY BY HY1 HY2 HY3 HB
            obtain ⟨y10, y11, y12, _⟩ := Z1.out.out
            obtain ⟨y20, y21, y22, _⟩ := Z2.out.out
            have y10' := cell_regrown y10
            have y11' := cell_regrown y11
            have y12' := cell_regrown y12
            have y20' := cell_regrown y20
            have y21' := cell_regrown y21
            have y22' := cell_regrown y22
            have D1 : Hid (∀ d os, Calls Try.prog 17 #[.agg #[.int .i64 l1, .int .i64 l2, .string l3], .agg #[.int .i64 xk, .int .i64 xn, .string xt]] (grow (redrawn Y d) os) fun e w'' => e = .returned (.int .i64 v1) ∧ ∃ p : Regrown, w'' = grow (redrawn Y p.d) p.os) :=
              fun d os => Calls.regrown_of (C1 _)
            have D2 : Hid (∀ d os, Calls Try.prog 17 #[.agg #[.int .i64 h1, .int .i64 h2, .string h3], .agg #[.int .i64 xk, .int .i64 xn, .string xt]] (grow (redrawn Y d) os) fun e w'' => e = .returned (.int .i64 v2) ∧ ∃ p : Regrown, w'' = grow (redrawn Y p.d) p.os) :=
              fun d os => Calls.regrown_of (C2 _)
            refine wp_region_quiet_below (by kernel_rfl) (by kernel_rfl) ?_
            repeat (first | go_big_quiet_step (first | (go_at_call 17; with_reducible exact D1.out _ _) | (go_at_call 17; with_reducible exact D2.out _ _)) | quiet_step (first | (go_at_call 17; with_reducible exact D1.out _ _) | (go_at_call 17; with_reducible exact D2.out _ _)))
            refine wpQuiet_nil ?_
            intro _ hw'
            obtain ⟨⟨dq, osq⟩, hw''⟩ := hw'
            subst hw''
            have BG := below_regrown Y dq osq
            have U1 := hid (Z1.out.below BG)
            have U2 := hid (Z2.out.below BG)
            have U3 := hid (Z3.out.below BG)
            have UB := hid (ZB.out.trans (BG.mono ZB.out.size))
            clear y10 y11 y12 y20 y21 y22 y10' y11' y12' y20' y21' y22' c10' c11' c12' D1 D2 BG Z1 Z2 Z3 ZB
            generalize grow (redrawn Y dq) osq = Q at *
            go_wp2_with fail
            go_roundw
            case rel => exact ⟨k + 1, by omega, by go_num, by rw [HN.out]; go_num, by rw [FA.out], by rw [FM.out], U1.out, U2.out, U3.out, UB.out⟩
            case measure => simp [intOf]; omega
          · have FA := hid (HA1.out rfl)
            have FM := hid (HM2.out rfl)
            clear HA1 HA2 HM1 HM2
            go_wp2_with fail
            go_quiet (fail)
            go_wp2_with fail
            go_quiet (fail)
            go_wp2_with fail
            generalize hY : World.drewN (World.drewN wr _) _ = Y at *
            have BY : Below wr.heap.size wr Y := by rw [← hY]; exact below2 (bdN _) (bdN _)
            have Z1 := hid (HY1.out.below BY)
            have Z2 := hid (HY2.out.below BY)
            have Z3 := hid (HY3.out.below BY)
            have ZB := hid (HB.out.trans (BY.mono HB.out.size))
            have c10' := cell_regrown (below_cell BY c10)
            have c11' := cell_regrown (below_cell BY c11)
            have c12' := cell_regrown (below_cell BY c12)
            clear y10 y11 y12 y20 y21 y22 c10 c11 c12 hY BY HY1 HY2 HY3 HB
            obtain ⟨y10, y11, y12, _⟩ := Z1.out.out
            obtain ⟨y20, y21, y22, _⟩ := Z2.out.out
            have y10' := cell_regrown y10
            have y11' := cell_regrown y11
            have y12' := cell_regrown y12
            have y20' := cell_regrown y20
            have y21' := cell_regrown y21
            have y22' := cell_regrown y22
            have D1 : Hid (∀ d os, Calls Try.prog 17 #[.agg #[.int .i64 l1, .int .i64 l2, .string l3], .agg #[.int .i64 xk, .int .i64 xn, .string xt]] (grow (redrawn Y d) os) fun e w'' => e = .returned (.int .i64 v1) ∧ ∃ p : Regrown, w'' = grow (redrawn Y p.d) p.os) :=
              fun d os => Calls.regrown_of (C1 _)
            have D2 : Hid (∀ d os, Calls Try.prog 17 #[.agg #[.int .i64 h1, .int .i64 h2, .string h3], .agg #[.int .i64 xk, .int .i64 xn, .string xt]] (grow (redrawn Y d) os) fun e w'' => e = .returned (.int .i64 v2) ∧ ∃ p : Regrown, w'' = grow (redrawn Y p.d) p.os) :=
              fun d os => Calls.regrown_of (C2 _)
            refine wp_region_quiet_below (by kernel_rfl) (by kernel_rfl) ?_
            repeat (first | go_big_quiet_step (first | (go_at_call 17; with_reducible exact D1.out _ _) | (go_at_call 17; with_reducible exact D2.out _ _)) | quiet_step (first | (go_at_call 17; with_reducible exact D1.out _ _) | (go_at_call 17; with_reducible exact D2.out _ _)))
            refine wpQuiet_nil ?_
            intro _ hw'
            obtain ⟨⟨dq, osq⟩, hw''⟩ := hw'
            subst hw''
            have BG := below_regrown Y dq osq
            have U1 := hid (Z1.out.below BG)
            have U2 := hid (Z2.out.below BG)
            have U3 := hid (Z3.out.below BG)
            have UB := hid (ZB.out.trans (BG.mono ZB.out.size))
            clear y10 y11 y12 y20 y21 y22 y10' y11' y12' y20' y21' y22' c10' c11' c12' D1 D2 BG Z1 Z2 Z3 ZB
            generalize grow (redrawn Y dq) osq = Q at *
            go_wp2_with fail
            go_roundw
            case rel => exact ⟨k + 1, by omega, by go_num, by rw [HN.out]; go_num, by rw [FA.out], by rw [FM.out], U1.out, U2.out, U3.out, UB.out⟩
            case measure => simp [intOf]; omega
          · have FA := hid (HA1.out rfl)
            have FM := hid (HM1.out rfl)
            clear HA1 HA2 HM1 HM2
            go_wp2_with fail
            go_quiet (fail)
            go_wp2_with fail
            go_quiet (fail)
            go_wp2_with fail
            generalize hY : World.drewN (World.drewN wr _) _ = Y at *
            have BY : Below wr.heap.size wr Y := by rw [← hY]; exact below2 (bdN _) (bdN _)
            have Z1 := hid (HY1.out.below BY)
            have Z2 := hid (HY2.out.below BY)
            have Z3 := hid (HY3.out.below BY)
            have ZB := hid (HB.out.trans (BY.mono HB.out.size))
            have c10' := cell_regrown (below_cell BY c10)
            have c11' := cell_regrown (below_cell BY c11)
            have c12' := cell_regrown (below_cell BY c12)
            clear y10 y11 y12 y20 y21 y22 c10 c11 c12 hY BY HY1 HY2 HY3 HB
            obtain ⟨y10, y11, y12, _⟩ := Z1.out.out
            obtain ⟨y20, y21, y22, _⟩ := Z2.out.out
            have y10' := cell_regrown y10
            have y11' := cell_regrown y11
            have y12' := cell_regrown y12
            have y20' := cell_regrown y20
            have y21' := cell_regrown y21
            have y22' := cell_regrown y22
            have D1 : Hid (∀ d os, Calls Try.prog 17 #[.agg #[.int .i64 l1, .int .i64 l2, .string l3], .agg #[.int .i64 xk, .int .i64 xn, .string xt]] (grow (redrawn Y d) os) fun e w'' => e = .returned (.int .i64 v1) ∧ ∃ p : Regrown, w'' = grow (redrawn Y p.d) p.os) :=
              fun d os => Calls.regrown_of (C1 _)
            have D2 : Hid (∀ d os, Calls Try.prog 17 #[.agg #[.int .i64 h1, .int .i64 h2, .string h3], .agg #[.int .i64 xk, .int .i64 xn, .string xt]] (grow (redrawn Y d) os) fun e w'' => e = .returned (.int .i64 v2) ∧ ∃ p : Regrown, w'' = grow (redrawn Y p.d) p.os) :=
              fun d os => Calls.regrown_of (C2 _)
            refine wp_region_quiet_below (by kernel_rfl) (by kernel_rfl) ?_
            repeat (first | go_big_quiet_step (first | (go_at_call 17; with_reducible exact D1.out _ _) | (go_at_call 17; with_reducible exact D2.out _ _)) | quiet_step (first | (go_at_call 17; with_reducible exact D1.out _ _) | (go_at_call 17; with_reducible exact D2.out _ _)))
            refine wpQuiet_nil ?_
            intro _ hw'
            obtain ⟨⟨dq, osq⟩, hw''⟩ := hw'
            subst hw''
            have BG := below_regrown Y dq osq
            have U1 := hid (Z1.out.below BG)
            have U2 := hid (Z2.out.below BG)
            have U3 := hid (Z3.out.below BG)
            have UB := hid (ZB.out.trans (BG.mono ZB.out.size))
            clear y10 y11 y12 y20 y21 y22 y10' y11' y12' y20' y21' y22' c10' c11' c12' D1 D2 BG Z1 Z2 Z3 ZB
            generalize grow (redrawn Y dq) osq = Q at *
            go_wp2_with fail
            go_roundw
            case rel => exact ⟨k + 1, by omega, by go_num, by rw [HN.out]; go_num, by rw [FA.out], by rw [FM.out], U1.out, U2.out, U3.out, UB.out⟩
            case measure => simp [intOf]; omega
      · have hkz : ¬ (k : Int) < (xs.length : Int) := by omega
        have hl : xs.take k = xs := List.take_of_length_le (by omega)
        rw [hl]
        clear hb
        by_cases hE : nn xs = []
        · have hlo := HLO.out
          have hhg := HHG.out
          rw [hE] at hlo hhg
          obtain ⟨rfl, rfl, rfl⟩ : l1 = 0 ∧ l2 = 0 ∧ l3 = ⟨#[]⟩ := by simpa [gatV, nullV] using hlo
          obtain ⟨rfl, rfl, rfl⟩ : h1 = 0 ∧ h2 = 0 ∧ h3 = ⟨#[]⟩ := by simpa [gatV, nullV] using hhg
          rw [hE, show ((([] : List Val).length : Nat) : Int) = 0 from rfl] at HY3 ⊢
          have q0 := eqv_same 0 0 ⟨#[]⟩
          simp only [List.any_nil] at *
          clear HLO HHG hlo hhg
          have HNB := hid (fun w => lnum_any 0 w)
          obtain ⟨y10, y11, y12, _⟩ := HY1.out.out
          obtain ⟨y20, y21, y22, _⟩ := HY2.out.out
          obtain ⟨y30, y31, y32, _⟩ := HY3.out.out
          have y10 := cell_regrown y10
          have y11 := cell_regrown y11
          have y12 := cell_regrown y12
          have y20 := cell_regrown y20
          have y21 := cell_regrown y21
          have y22 := cell_regrown y22
          have y30 := cell_regrown y30
          have y31 := cell_regrown y31
          have y32 := cell_regrown y32
          have D : Hid (∀ d os, Calls Try.prog 18 #[.int .i64 0] (grow (redrawn wr d) os) fun e w'' => e = .returned (.agg #[.int .i64 2, .int .i64 0, .string ⟨#[]⟩]) ∧ ∃ p : Regrown, w'' = grow (redrawn wr p.d) p.os) :=
            fun d os => Calls.regrown_of (HNB.out _)
          have q := eqv_same 2 0 ⟨#[]⟩
          go_wp2_with fail
          refine wp_region_quiet_below (by kernel_rfl) (by kernel_rfl) ?_
          repeat (first | go_big_quiet_step (first | (go_at_call 18; with_reducible exact D.out _ _)) | quiet_step (first | (go_at_call 18; with_reducible exact D.out _ _)))
          refine wpQuiet_nil ?_
          intro _ hw'
          obtain ⟨⟨dq, osq⟩, hw''⟩ := hw'
          subst hw''
          go_wp2
          go_ret
          exact ⟨ret_bool (by simp), HB.out.trans ((below_regrown wr dq osq).mono HB.out.size)⟩
        · have a1 : (nn xs).any (Val.eqb · ⟨l1, l2, l3⟩) = true := List.any_eq_true.2 ⟨_, by rw [HLO.out, gat_best (by decide) (by decide) hE]; exact best_or 3 _ hE, eqb_self _⟩
          have a2 : (nn xs).any (Val.eqb · ⟨h1, h2, h3⟩) = true := List.any_eq_true.2 ⟨_, by rw [HHG.out, gat_best (by decide) (by decide) hE]; exact best_or 4 _ hE, eqb_self _⟩
          rw [a1, a2]
          have hpos : 0 < (nn xs).length := List.length_pos_iff.2 hE
          clear HLO HHG a1 a2
          generalize (nn xs).length = tn at *
          have hp1 : (0 : Int) < (tn : Int) := by omega
          have hp2 : decide ((0 : Int) < (tn : Int)) = true := decide_eq_true hp1
          have HNB := hid (fun w => lnum_any (tn : Int) w)
          obtain ⟨y10, y11, y12, _⟩ := HY1.out.out
          obtain ⟨y20, y21, y22, _⟩ := HY2.out.out
          obtain ⟨y30, y31, y32, _⟩ := HY3.out.out
          have y10 := cell_regrown y10
          have y11 := cell_regrown y11
          have y12 := cell_regrown y12
          have y20 := cell_regrown y20
          have y21 := cell_regrown y21
          have y22 := cell_regrown y22
          have y30 := cell_regrown y30
          have y31 := cell_regrown y31
          have y32 := cell_regrown y32
          have D : Hid (∀ d os, Calls Try.prog 18 #[.int .i64 (tn : Int)] (grow (redrawn wr d) os) fun e w'' => e = .returned (.agg #[.int .i64 2, .int .i64 (tn : Int), .string ⟨#[]⟩]) ∧ ∃ p : Regrown, w'' = grow (redrawn wr p.d) p.os) :=
            fun d os => Calls.regrown_of (HNB.out _)
          have q := eqv_same 2 (tn : Int) ⟨#[]⟩
          go_wp2_with fail
          refine wp_region_quiet_below (by kernel_rfl) (by kernel_rfl) ?_
          repeat (first | go_big_quiet_step (first | (go_at_call 18; with_reducible exact D.out _ _)) | quiet_step (first | (go_at_call 18; with_reducible exact D.out _ _)))
          refine wpQuiet_nil ?_
          intro _ hw'
          obtain ⟨⟨dq, osq⟩, hw''⟩ := hw'
          subst hw''
          go_wp2
          go_ret
          exact ⟨ret_bool (by simp), HB.out.trans ((below_regrown wr dq osq).mono HB.out.size)⟩
end Go.Proofs.Ytfcecblppdgcbaa
