/- The law CalcSums returns true and writes nothing that was there. Conditions: the numbers are within the numbers. -/
import Derived.Test.YtonikoijelhojaaDivWalk
namespace Go.Proofs.Ytonikoijelhojaa
open Go.RowKit Go.Lib Go.Sort
set_option linter.unusedVariables false

/-- What is answered of a number without bounds. -/
theorem over_parts (z : Int) : ∃ k n e : Int, over z = ⟨⟨k, n, ⟨#[]⟩⟩, e⟩ ∧ ((inR z ∧ k = 2 ∧ n = z ∧ e = 0) ∨ (¬ inR z ∧ k = 0 ∧ n = 0 ∧ e = 40)) := by
  by_cases h : inR z
  · exact ⟨2, z, 0, ov_in h, Or.inl ⟨h, rfl, rfl, rfl⟩⟩
  · exact ⟨0, 0, 40, ov_out h, Or.inr ⟨h, rfl, rfl, rfl⟩⟩

theorem num_grown (n : Int) (U : World) : Hid (∀ d os, Calls Try.prog 22 #[.int .i64 n] (grow (redrawn U d) os) fun e w'' => e = .returned (.agg #[.int .i64 2, .int .i64 n, .string ⟨#[]⟩]) ∧ ∃ p : Regrown, w'' = grow (redrawn U p.d) p.os) :=
  fun d os => Calls.regrown_of (num_any n _)

set_option maxRecDepth 100000 in
set_option maxHeartbeats 16000000 in
theorem sums_walk (a b : Int) (w : World) (ha : inR a) (hb : inR b) :
    Calls Try.prog 7 #[.int .i64 a, .int .i64 b] w fun e w' => e = .returned (.bool true) ∧ Below w.heap.size w w' := by
  obtain ⟨sk, sn, se, hs, fs⟩ := over_parts (a + b)
  obtain ⟨dk, dn, de, hd, fd⟩ := over_parts (a - b)
  obtain ⟨pk, pn, pe, hp, fp⟩ := over_parts (a * b)
  have C1 := bin_num 11 a b sk sn se ((bin_sum _ _ _ (by decide) (by decide)).trans hs) ha hb
  have C2 := bin_num 12 a b dk dn de ((bin_sum _ _ _ (by decide) (by decide)).trans hd) ha hb
  have C3 := bin_num 13 a b pk pn pe ((bin_sum _ _ _ (by decide) (by decide)).trans hp) ha hb
  have B := Below.refl w.heap.size w
  have he := run_eqv
  have ha' := ha
  have hb' := hb
  obtain ⟨a1, a2⟩ := ha
  obtain ⟨b1, b2⟩ := hb
  clear hs hd hp
  go_enter Try.func7, Try.ntmps7
  go_upto_region 4 with (first
    | (go_at_call 21; with_reducible refine (works_any _).mono ?_; rintro e wn ⟨rfl, bn⟩; (first | replace B := B.trans (bn.mono B.size) | replace B := B.drew.trans (bn.mono B.drew.size) | replace B := B.trans ((below_new bn).mono B.size) | replace B := B.trans ((below_newd bn).mono B.size)))
    | (go_at_call 22; with_reducible refine (num_any _ _).mono ?_; rintro e wn ⟨rfl, bn⟩; (first | replace B := B.trans (bn.mono B.size) | replace B := B.drew.trans (bn.mono B.drew.size) | replace B := B.trans ((below_new bn).mono B.size) | replace B := B.trans ((below_newd bn).mono B.size)))
    | (go_at_call 10; with_reducible refine (C1 _).mono ?_; rintro e wn ⟨rfl, bn⟩; (first | replace B := B.trans (bn.mono B.size) | replace B := B.drew.trans (bn.mono B.drew.size) | replace B := B.trans ((below_new bn).mono B.size) | replace B := B.trans ((below_newd bn).mono B.size)))
    | fail)
  have S := Box.new wn sk sn ⟨#[]⟩ 23
  replace B : Below w.heap.size w (wn.alloc (.cells #[.int .i64 sk, .int .i64 sn, .string ⟨#[]⟩] 23)) := B.alloc B.size _
  generalize wn.alloc (.cells #[.int .i64 sk, .int .i64 sn, .string ⟨#[]⟩] 23) = W at *
  generalize wn.heap.size = sb at *
  clear bn C1
  obtain ⟨s0, s1, s2, sl⟩ := S.get
  obtain ⟨ov, hov⟩ : ∃ o, (!decide (inR (a + b))) = o := ⟨_, rfl⟩
  go_cut [7] from 27 to 44 (fun sx wx => sx = .bool ov ∧ W = wx)
  case first =>
    by_cases h : inR (a + b)
    · have ho : Hid (false = ov) := by rw [← hov, decide_eq_true h]; rfl
      obtain ⟨h1, h2⟩ := h
      rcases Int.lt_trichotomy b 0 with hz | hz | hz
      · have e1 : decide (a < -9223372036854775808 - b) = false := decide_eq_false (by omega)
        go_wp2
        go_meet
        case rel => exact ⟨congrArg Value.bool ho.out, rfl⟩
      · go_wp2
        go_meet
        case rel => exact ⟨congrArg Value.bool ho.out, rfl⟩
      · have e1 : decide (9223372036854775807 - b < a) = false := decide_eq_false (by omega)
        go_wp2
        go_meet
        case rel => exact ⟨congrArg Value.bool ho.out, rfl⟩
    · have ho : Hid (true = ov) := by rw [← hov, decide_eq_false h]; rfl
      unfold inR at h
      by_cases hz : b < 0
      · have e1 : decide (a < -9223372036854775808 - b) = true := decide_eq_true (by omega)
        clear h
        go_wp2
        go_meet
        case rel => exact ⟨congrArg Value.bool ho.out, rfl⟩
      · have e1 : decide (9223372036854775807 - b < a) = true := decide_eq_true (by omega)
        have hz' : 0 < b := by omega
        clear h
        go_wp2
        go_meet
        case rel => exact ⟨congrArg Value.bool ho.out, rfl⟩
  case rest =>
  obtain ⟨rfl, rfl⟩ := hcut
  go_upto_region 5 with fail
  go_cut [64] from 45 to 64 (fun sx wx => sx = .bool false ∧ W = wx)
  case first =>
    rcases fs with ⟨h, rfl, rfl, rfl⟩ | ⟨h, rfl, rfl, rfl⟩
    · obtain rfl : false = ov := by rw [← hov, decide_eq_true h]; rfl
      obtain ⟨h1, h2⟩ := h
      go_wp2
      go_meet
      case rel => exact ⟨by simp, rfl⟩
    · obtain rfl : true = ov := by rw [← hov, decide_eq_false h]; rfl
      go_wp2
      go_meet
      case rel => exact ⟨by simp, rfl⟩
  case rest =>
  obtain ⟨rfl, rfl⟩ := hcut
  clear hov fs
  go_upto_region 8 with (first
    | (go_at_call 22; with_reducible refine (num_any _ _).mono ?_; rintro e wn ⟨rfl, bn⟩; (first | replace B := B.trans (bn.mono B.size) | replace B := B.drew.trans (bn.mono B.drew.size) | replace B := B.trans ((below_new bn).mono B.size) | replace B := B.trans ((below_newd bn).mono B.size)))
    | (go_at_call 10; with_reducible refine (C2 _).mono ?_; rintro e wn ⟨rfl, bn⟩; (first | replace B := B.trans (bn.mono B.size) | replace B := B.drew.trans (bn.mono B.drew.size) | replace B := B.trans ((below_new bn).mono B.size) | replace B := B.trans ((below_newd bn).mono B.size)))
    | fail)
  clear S s0 s1 s2 sl
  have S := Box.new wn dk dn ⟨#[]⟩ 23
  replace B : Below w.heap.size w (wn.alloc (.cells #[.int .i64 dk, .int .i64 dn, .string ⟨#[]⟩] 23)) := B.alloc B.size _
  clear bn C2
  generalize wn.alloc (.cells #[.int .i64 dk, .int .i64 dn, .string ⟨#[]⟩] 23) = W2 at *
  generalize wn.heap.size = sb2 at *
  obtain ⟨s0, s1, s2, sl⟩ := S.get
  obtain ⟨un, hun⟩ : ∃ o, (!decide (inR (a - b))) = o := ⟨_, rfl⟩
  go_cut [10] from 73 to 90 (fun sx wx => sx = .bool un ∧ W2 = wx)
  case first =>
    by_cases h : inR (a - b)
    · have ho : Hid (false = un) := by rw [← hun, decide_eq_true h]; rfl
      obtain ⟨h1, h2⟩ := h
      rcases Int.lt_trichotomy b 0 with hz | hz | hz
      · have e1 : decide (9223372036854775807 + b < a) = false := decide_eq_false (by omega)
        go_wp2
        go_meet
        case rel => exact ⟨congrArg Value.bool ho.out, rfl⟩
      · go_wp2
        go_meet
        case rel => exact ⟨congrArg Value.bool ho.out, rfl⟩
      · have e1 : decide (a < -9223372036854775808 + b) = false := decide_eq_false (by omega)
        go_wp2
        go_meet
        case rel => exact ⟨congrArg Value.bool ho.out, rfl⟩
    · have ho : Hid (true = un) := by rw [← hun, decide_eq_false h]; rfl
      unfold inR at h
      by_cases hz : b < 0
      · have e1 : decide (9223372036854775807 + b < a) = true := decide_eq_true (by omega)
        clear h
        go_wp2
        go_meet
        case rel => exact ⟨congrArg Value.bool ho.out, rfl⟩
      · have e1 : decide (a < -9223372036854775808 + b) = true := decide_eq_true (by omega)
        have hz' : 0 < b := by omega
        clear h
        go_wp2
        go_meet
        case rel => exact ⟨congrArg Value.bool ho.out, rfl⟩
  case rest =>
  obtain ⟨rfl, rfl⟩ := hcut
  go_upto_region 9 with fail
  go_cut [110] from 91 to 110 (fun sx wx => sx = .bool false ∧ W2 = wx)
  case first =>
    rcases fd with ⟨h, rfl, rfl, rfl⟩ | ⟨h, rfl, rfl, rfl⟩
    · obtain rfl : false = un := by rw [← hun, decide_eq_true h]; rfl
      obtain ⟨h1, h2⟩ := h
      go_wp2
      go_meet
      case rel => exact ⟨by simp, rfl⟩
    · obtain rfl : true = un := by rw [← hun, decide_eq_false h]; rfl
      go_wp2
      go_meet
      case rel => exact ⟨by simp, rfl⟩
  case rest =>
  obtain ⟨rfl, rfl⟩ := hcut
  clear hun fd
  go_upto_region 12 with (first
    | (go_at_call 22; with_reducible refine (num_any _ _).mono ?_; rintro e wn ⟨rfl, bn⟩; (first | replace B := B.trans (bn.mono B.size) | replace B := B.drew.trans (bn.mono B.drew.size) | replace B := B.trans ((below_new bn).mono B.size) | replace B := B.trans ((below_newd bn).mono B.size)))
    | (go_at_call 10; with_reducible refine (C3 _).mono ?_; rintro e wn ⟨rfl, bn⟩; (first | replace B := B.trans (bn.mono B.size) | replace B := B.drew.trans (bn.mono B.drew.size) | replace B := B.trans ((below_new bn).mono B.size) | replace B := B.trans ((below_newd bn).mono B.size)))
    | fail)
  clear S s0 s1 s2 sl
  have P := Box.new wn pk pn ⟨#[]⟩ 23
  replace B : Below w.heap.size w (wn.alloc (.cells #[.int .i64 pk, .int .i64 pn, .string ⟨#[]⟩] 23)) := B.alloc B.size _
  clear bn C3
  generalize wn.alloc (.cells #[.int .i64 pk, .int .i64 pn, .string ⟨#[]⟩] 23) = W3 at *
  generalize wn.heap.size = pb at *
  obtain ⟨p0, p1, p2, pl⟩ := P.get
  rcases fp with ⟨h, rfl, rfl, rfl⟩ | ⟨h, rfl, rfl, rfl⟩
  · have hi := h
    clear h
    by_cases hb0 : b = 0
    · subst hb0
      have q0 := eqv_same 2 0 ⟨#[]⟩
      rw [Int.mul_zero] at *
      have x0 := cell_regrown p0
      have x1 := cell_regrown p1
      have x2 := cell_regrown p2
      go_upto_region 15 with fail
      have D1 := num_grown 0 W3
      clear P p0 p1 p2 pl hi
      refine wp_region_quiet_below (by kernel_rfl) (by kernel_rfl) ?_
      repeat (first | go_big_quiet_step (first | (go_at_call 22; with_reducible exact D1.out _ _)) | quiet_step (first | (go_at_call 22; with_reducible exact D1.out _ _)))
      refine wpQuiet_nil ?_
      intro _ hw'
      obtain ⟨⟨dq, osq⟩, hw''⟩ := hw'
      subst hw''
      go_wp2
      go_ret
      exact ⟨ret_bool (by simp), B.trans ((below_regrown W3 dq osq).mono B.size)⟩
    · have db : (b == 0) = false := beq_eq_false_iff_ne.2 hb0
      have ht : (a * b).tdiv b = a := Int.mul_tdiv_cancel a hb0
      have hm : (a * b).tmod b = 0 := Int.mul_tmod_left a b
      have C4 := bin_num 14 (a * b) b 2 a 0 (by rw [bin_sum _ _ _ (by decide) (by decide)]; show (if b = 0 then _ else _) = _; rw [if_neg hb0]; show over ((a * b).tdiv b) = _; rw [ht, ov_in ha']; rfl) hi hb'
      have C5 := bin_num 15 (a * b) b 2 0 0 (by rw [bin_sum _ _ _ (by decide) (by decide)]; show (if b = 0 then _ else _) = _; rw [if_neg hb0]; show (⟨numV ((a * b).tmod b), 0⟩ : Ans) = _; rw [hm]; rfl) hi hb'
      generalize a * b = m at *
      clear ht hm hb0 hi
      go_upto_region 16 with fail
      go_cut [13, 14] from 136 to 142 (fun s13 s14 wx => ∃ bq : Nat, s13 = .pointer (some ⟨bq, 0, none⟩) ∧ s14 = .int .i64 0 ∧ Box wx bq ⟨2, a, ⟨#[]⟩⟩ ∧ Box wx pb ⟨2, m, ⟨#[]⟩⟩ ∧ Below w.heap.size w wx)
      case first =>
        clear C5
        go_region_with (first
          | (go_at_call 22; with_reducible refine (num_any _ _).mono ?_; rintro e wn ⟨rfl, bn⟩; (first | replace Z := Z.below bn | replace Z := Z.drew.below bn | (have Z := (Box.new _ 0 0 ⟨#[]⟩ 23).below bn; have zs := B.size; have zl0 := P.get.2.2.2) | (have Z := (Box.new _ 0 0 ⟨#[]⟩ 23).drew.below bn; have zs := B.size; have zl0 := P.get.2.2.2) | skip); (first | (obtain ⟨z0, z1, z2, zf0, zf1, zf2⟩ := Z.out) | skip); (first | replace B := B.trans (bn.mono B.size) | replace B := B.drew.trans (bn.mono B.drew.size) | replace B := B.trans ((below_new bn).mono B.size) | replace B := B.trans ((below_newd bn).mono B.size)); (first | replace P := P.below bn | replace P := P.drew.below bn | replace P := (P.alloc _).below bn | replace P := (P.alloc _).drew.below bn); (have p0 := P.get.1; have p1 := P.get.2.1; have p2 := P.get.2.2.1; have pl := P.get.2.2.2))
          | (go_at_call 10; with_reducible refine (C4 _).mono ?_; rintro e wn ⟨rfl, bn⟩; (first | replace Z := Z.below bn | replace Z := Z.drew.below bn | (have Z := (Box.new _ 0 0 ⟨#[]⟩ 23).below bn; have zs := B.size; have zl0 := P.get.2.2.2) | (have Z := (Box.new _ 0 0 ⟨#[]⟩ 23).drew.below bn; have zs := B.size; have zl0 := P.get.2.2.2) | skip); (first | (obtain ⟨z0, z1, z2, zf0, zf1, zf2⟩ := Z.out) | skip); (first | replace B := B.trans (bn.mono B.size) | replace B := B.drew.trans (bn.mono B.drew.size) | replace B := B.trans ((below_new bn).mono B.size) | replace B := B.trans ((below_newd bn).mono B.size)); (first | replace P := P.below bn | replace P := P.drew.below bn | replace P := (P.alloc _).below bn | replace P := (P.alloc _).drew.below bn)))
        all_goals
          go_wp2_with fail
          go_meet
          case rel =>
            first
              | exact ⟨_, rfl, rfl, Box.new _ 2 a ⟨#[]⟩ 23, P.alloc _, B.alloc B.size _⟩
              | exact ⟨_, rfl, rfl, Z.put 2 a ⟨#[]⟩, P.put3 (Nat.ne_of_gt zl0) _ _ _, below_put3 B zs _ _ _⟩
      case rest =>
      obtain ⟨bq, rfl, rfl, Q, P', B'⟩ := hcut
      clear P B p0 p1 p2 pl C4
      have P := P'
      have B := B'
      clear P' B'
      obtain ⟨p0, p1, p2, pl⟩ := P.get
      go_upto_region 17 with fail
      go_cut [15, 16] from 143 to 149 (fun s15 s16 wx => ∃ br : Nat, s15 = .pointer (some ⟨br, 0, none⟩) ∧ s16 = .int .i64 0 ∧ Box wx br ⟨2, 0, ⟨#[]⟩⟩ ∧ Box wx bq ⟨2, a, ⟨#[]⟩⟩ ∧ Below w.heap.size w wx)
      case first =>
        go_region_with (first
          | (go_at_call 22; with_reducible refine (num_any _ _).mono ?_; rintro e wn ⟨rfl, bn⟩; (first | replace Z := Z.below bn | replace Z := Z.drew.below bn | (have Z := (Box.new _ 0 0 ⟨#[]⟩ 23).below bn; have zs := B.size; have zl0 := P.get.2.2.2; have zl1 := Q.get.2.2.2) | (have Z := (Box.new _ 0 0 ⟨#[]⟩ 23).drew.below bn; have zs := B.size; have zl0 := P.get.2.2.2; have zl1 := Q.get.2.2.2) | skip); (first | (obtain ⟨z0, z1, z2, zf0, zf1, zf2⟩ := Z.out) | skip); (first | replace B := B.trans (bn.mono B.size) | replace B := B.drew.trans (bn.mono B.drew.size) | replace B := B.trans ((below_new bn).mono B.size) | replace B := B.trans ((below_newd bn).mono B.size)); (first | replace P := P.below bn | replace P := P.drew.below bn | replace P := (P.alloc _).below bn | replace P := (P.alloc _).drew.below bn); (first | replace Q := Q.below bn | replace Q := Q.drew.below bn | replace Q := (Q.alloc _).below bn | replace Q := (Q.alloc _).drew.below bn); (have p0 := P.get.1; have p1 := P.get.2.1; have p2 := P.get.2.2.1; have pl := P.get.2.2.2))
          | (go_at_call 10; with_reducible refine (C5 _).mono ?_; rintro e wn ⟨rfl, bn⟩; (first | replace Z := Z.below bn | replace Z := Z.drew.below bn | (have Z := (Box.new _ 0 0 ⟨#[]⟩ 23).below bn; have zs := B.size; have zl0 := P.get.2.2.2; have zl1 := Q.get.2.2.2) | (have Z := (Box.new _ 0 0 ⟨#[]⟩ 23).drew.below bn; have zs := B.size; have zl0 := P.get.2.2.2; have zl1 := Q.get.2.2.2) | skip); (first | (obtain ⟨z0, z1, z2, zf0, zf1, zf2⟩ := Z.out) | skip); (first | replace B := B.trans (bn.mono B.size) | replace B := B.drew.trans (bn.mono B.drew.size) | replace B := B.trans ((below_new bn).mono B.size) | replace B := B.trans ((below_newd bn).mono B.size)); (first | replace P := P.below bn | replace P := P.drew.below bn | replace P := (P.alloc _).below bn | replace P := (P.alloc _).drew.below bn); (first | replace Q := Q.below bn | replace Q := Q.drew.below bn | replace Q := (Q.alloc _).below bn | replace Q := (Q.alloc _).drew.below bn)))
        all_goals
          go_wp2_with fail
          go_meet
          case rel =>
            first
              | exact ⟨_, rfl, rfl, Box.new _ 2 0 ⟨#[]⟩ 23, Q.alloc _, B.alloc B.size _⟩
              | exact ⟨_, rfl, rfl, Z.put 2 0 ⟨#[]⟩, Q.put3 (Nat.ne_of_gt zl1) _ _ _, below_put3 B zs _ _ _⟩
      case rest =>
      obtain ⟨br, rfl, rfl, R, Q', B'⟩ := hcut
      obtain ⟨r0, r1, r2, _⟩ := R.get
      obtain ⟨x0, x1, x2, _⟩ := Q'.get
      have r0 := cell_regrown r0
      have r1 := cell_regrown r1
      have r2 := cell_regrown r2
      have x0 := cell_regrown x0
      have x1 := cell_regrown x1
      have x2 := cell_regrown x2
      have q0 := eqv_same 2 0 ⟨#[]⟩
      have q1 := eqv_same 2 a ⟨#[]⟩
      have D1 := num_grown 0 wc
      have D2 := num_grown a wc
      clear P Q R Q' B p0 p1 p2 pl C5
      go_upto_region 18 with fail
      refine wp_region_quiet_below (by kernel_rfl) (by kernel_rfl) ?_
      repeat (first | go_big_quiet_step (first | (go_at_call 22; with_reducible exact D1.out _ _) | (go_at_call 22; with_reducible exact D2.out _ _)) | quiet_step (first | (go_at_call 22; with_reducible exact D1.out _ _) | (go_at_call 22; with_reducible exact D2.out _ _)))
      refine wpQuiet_nil ?_
      intro _ hw'
      obtain ⟨⟨dq, osq⟩, hw''⟩ := hw'
      subst hw''
      go_wp2
      go_ret
      exact ⟨ret_bool (by simp), B'.trans ((below_regrown wc dq osq).mono B'.size)⟩
  · have n0 : (a != 0) = true := bne_iff_ne.2 (fun e => h (by rw [e, Int.zero_mul]; decide))
    have n1 : (b != 0) = true := bne_iff_ne.2 (fun e => h (by rw [e, Int.mul_zero]; decide))
    clear h
    go_wp2
    go_ret
    exact ⟨ret_bool (by simp), B⟩
end Go.Proofs.Ytonikoijelhojaa
