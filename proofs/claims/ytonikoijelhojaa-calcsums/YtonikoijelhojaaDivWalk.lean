/- The law CalcDivides returns true and writes nothing that was there. Conditions: the numbers are within the numbers. -/
import Derived.Test.YtonikoijelhojaaCalcWorks
import Derived.Test.YtonikoijelhojaaBoxMore
import Derived.Deep.CutRange
namespace Go.Proofs.Ytonikoijelhojaa
open Go.RowKit Go.Lib Go.Sort
set_option linter.unusedVariables false

theorem bin_num (op a b k n e : Int) (h : binV op ⟨2, a, ⟨#[]⟩⟩ ⟨2, b, ⟨#[]⟩⟩ = ⟨⟨k, n, ⟨#[]⟩⟩, e⟩) (h1 : inR a) (h2 : inR b) (w : World) :
    Calls Try.prog 10 #[.int .i64 op, .agg #[.int .i64 2, .int .i64 a, .string ⟨#[]⟩], .agg #[.int .i64 2, .int .i64 b, .string ⟨#[]⟩]] w fun x w' => x = .returned (.tuple #[.agg #[.int .i64 k, .int .i64 n, .string ⟨#[]⟩], .int .i64 e]) ∧ Below w.heap.size w w' :=
  works_bin op 2 a 2 b k n e h h1 h2 w

theorem bin_sum (op a b : Int) (h1 : 11 ≤ op) (h2 : op ≤ 15) : binV op ⟨2, a, ⟨#[]⟩⟩ ⟨2, b, ⟨#[]⟩⟩ = sumV op a b := by
  unfold binV
  rw [if_neg (by omega), if_neg (by
    unfold fitV
    rw [if_neg (by omega), if_neg (by omega), if_neg (by omega)]
    simp [nullOrV]), if_neg (by omega), if_neg (by omega), if_neg (by simp), if_neg (by omega), if_neg (by omega)]

theorem ov_in {n : Int} (h : inR n) : over n = ⟨numV n, 0⟩ := if_pos h
theorem ov_out {n : Int} (h : ¬ inR n) : over n = ⟨nullV, 40⟩ := if_neg h

set_option maxHeartbeats 4000000 in
theorem div_zero (a : Int) (w : World) (ha : inR a) :
    Calls Try.prog 6 #[.int .i64 a, .int .i64 0] w fun e w' => e = .returned (.bool true) ∧ Below w.heap.size w w' := by
  have C1 := bin_num 14 a 0 0 0 41 (by rw [bin_sum _ _ _ (by decide) (by decide)]; rfl) ha (by decide)
  have C2 := bin_num 15 a 0 0 0 41 (by rw [bin_sum _ _ _ (by decide) (by decide)]; rfl) ha (by decide)
  have B := Below.refl w.heap.size w
  clear ha
  go_enter Try.func6, Try.ntmps6
  go_wp2_with (first
    | (go_at_call 21; with_reducible refine (works_any _).mono ?_; rintro e wn ⟨rfl, bn⟩; (first | replace B := B.trans (bn.mono B.size) | replace B := B.trans ((below_new bn).mono B.size)))
    | (go_at_call 22; with_reducible refine (num_any _ _).mono ?_; rintro e wn ⟨rfl, bn⟩; (first | replace B := B.trans (bn.mono B.size) | replace B := B.trans ((below_new bn).mono B.size)))
    | (go_at_call 10; with_reducible refine (C1 _).mono ?_; rintro e wn ⟨rfl, bn⟩; (first | replace B := B.trans (bn.mono B.size) | replace B := B.trans ((below_new bn).mono B.size)))
    | (go_at_call 10; with_reducible refine (C2 _).mono ?_; rintro e wn ⟨rfl, bn⟩; (first | replace B := B.trans (bn.mono B.size) | replace B := B.trans ((below_new bn).mono B.size)))
    | fail)
  go_ret
  exact ⟨rfl, B.alloc B.size _⟩

set_option maxHeartbeats 4000000 in
theorem div_least (w : World) :
    Calls Try.prog 6 #[.int .i64 (-9223372036854775808), .int .i64 (-1)] w fun e w' => e = .returned (.bool true) ∧ Below w.heap.size w w' := by
  have C1 := bin_num 14 (-9223372036854775808) (-1) 0 0 40 (by rw [bin_sum _ _ _ (by decide) (by decide)]; rfl) (by decide) (by decide)
  have C2 := bin_num 15 (-9223372036854775808) (-1) 2 0 0 (by rw [bin_sum _ _ _ (by decide) (by decide)]; rfl) (by decide) (by decide)
  have B := Below.refl w.heap.size w
  have he := run_eqv
  have q1 := eqv_same 2 0 ⟨#[]⟩
  go_enter Try.func6, Try.ntmps6
  go_wp2_with (first
    | (go_at_call 21; with_reducible refine (works_any _).mono ?_; rintro e wn ⟨rfl, bn⟩; (first | replace B := B.trans (bn.mono B.size) | replace B := B.trans ((below_new bn).mono B.size)))
    | (go_at_call 22; with_reducible refine (num_any _ _).mono ?_; rintro e wn ⟨rfl, bn⟩; (first | replace B := B.trans (bn.mono B.size) | replace B := B.trans ((below_new bn).mono B.size)))
    | (go_at_call 10; with_reducible refine (C1 _).mono ?_; rintro e wn ⟨rfl, bn⟩; (first | replace B := B.trans (bn.mono B.size) | replace B := B.trans ((below_new bn).mono B.size)))
    | (go_at_call 10; with_reducible refine (C2 _).mono ?_; rintro e wn ⟨rfl, bn⟩; (first | replace B := B.trans (bn.mono B.size) | replace B := B.trans ((below_new bn).mono B.size)))
    | fail)
  have S := Box.new wn 2 0 ⟨#[]⟩ 23
  replace B : Below w.heap.size w (wn.alloc (.cells #[.int .i64 2, .int .i64 0, .string ⟨#[]⟩] 23)) := B.alloc B.size _
  clear bn C1 C2
  generalize wn.alloc (.cells #[.int .i64 2, .int .i64 0, .string ⟨#[]⟩] 23) = W at *
  obtain ⟨x0, x1, x2, _⟩ := S.get
  have x0 := cell_regrown x0
  have x1 := cell_regrown x1
  have x2 := cell_regrown x2
  have D1 : Hid (∀ d os, Calls Try.prog 22 #[.int .i64 0] (grow (redrawn W d) os) fun e w'' => e = .returned (.agg #[.int .i64 2, .int .i64 0, .string ⟨#[]⟩]) ∧ ∃ p : Regrown, w'' = grow (redrawn W p.d) p.os) :=
    fun d os => Calls.regrown_of (num_any 0 _)
  clear S
  refine wp_region_quiet_below (by kernel_rfl) (by kernel_rfl) ?_
  repeat (first | go_big_quiet_step (first | (go_at_call 22; with_reducible exact D1.out _ _)) | quiet_step (first | (go_at_call 22; with_reducible exact D1.out _ _)))
  refine wpQuiet_nil ?_
  intro _ hw'
  obtain ⟨⟨dq, osq⟩, hw''⟩ := hw'
  subst hw''
  go_wp2
  go_ret
  exact ⟨ret_bool (by simp), B.trans ((below_regrown W dq osq).mono B.size)⟩

set_option maxHeartbeats 16000000 in
theorem div_gen (a b q r : Int) (w : World) (ha : inR a) (hb : inR b) (hb0 : b ≠ 0) (hq : a.tdiv b = q) (hr : a.tmod b = r) (hqi : inR q) (hri : inR r) (hmi : inR (q * b)) (hsum : q * b + r = a) (hex : ¬ (a = -9223372036854775808 ∧ b = -1))
    (hpos : 0 < r → 0 < a) (hneg : r < 0 → a < 0) (hlt : r.natAbs < b.natAbs) :
    Calls Try.prog 6 #[.int .i64 a, .int .i64 b] w fun e w' => e = .returned (.bool true) ∧ Below w.heap.size w w' := by
  have C1 := bin_num 14 a b 2 q 0 (by rw [bin_sum _ _ _ (by decide) (by decide)]; show (if b = 0 then _ else _) = _; rw [if_neg hb0]; show over (a.tdiv b) = _; rw [hq, ov_in hqi]; rfl) ha hb
  have C2 := bin_num 15 a b 2 r 0 (by rw [bin_sum _ _ _ (by decide) (by decide)]; show (if b = 0 then _ else _) = _; rw [if_neg hb0]; show (⟨numV (a.tmod b), 0⟩ : Ans) = _; rw [hr]; rfl) ha hb
  have C3 := bin_num 13 q b 2 (q * b) 0 (by rw [bin_sum _ _ _ (by decide) (by decide)]; show over (q * b) = _; rw [ov_in hmi]; rfl) hqi hb
  have C4 := bin_num 11 (q * b) r 2 a 0 (by rw [bin_sum _ _ _ (by decide) (by decide)]; show over (q * b + r) = _; rw [hsum, ov_in ha]; rfl) hmi hri
  have B := Below.refl w.heap.size w
  have he := run_eqv
  have q1 := eqv_same 2 a ⟨#[]⟩
  have db : (b == 0) = false := beq_eq_false_iff_ne.2 hb0
  have hg : Hid ((a == -9223372036854775808) = false ∨ (a == -9223372036854775808) = true ∧ (b == -1) = false) := by
    by_cases h : a = -9223372036854775808
    · exact Or.inr ⟨beq_iff_eq.2 h, beq_eq_false_iff_ne.2 (fun e => hex ⟨h, e⟩)⟩
    · exact Or.inl (beq_eq_false_iff_ne.2 h)
  generalize q * b = m at *
  clear hq hr hmi hsum hex hqi
  unfold inR at *
  obtain ⟨a1, a2⟩ := ha
  obtain ⟨b1, b2⟩ := hb
  obtain ⟨r1, r2⟩ := hri
  go_enter Try.func6, Try.ntmps6
  go_upto_region 7 with (first
    | (go_at_call 21; with_reducible refine (works_any _).mono ?_; rintro e wn ⟨rfl, bn⟩; (first | replace B := B.trans (bn.mono B.size) | replace B := B.drew.trans (bn.mono B.drew.size) | replace B := B.trans ((below_new bn).mono B.size) | replace B := B.trans ((below_newd bn).mono B.size)))
    | (go_at_call 22; with_reducible refine (num_any _ _).mono ?_; rintro e wn ⟨rfl, bn⟩; (first | replace B := B.trans (bn.mono B.size) | replace B := B.drew.trans (bn.mono B.drew.size) | replace B := B.trans ((below_new bn).mono B.size) | replace B := B.trans ((below_newd bn).mono B.size)); (first | replace Q := Q.below bn | replace Q := Q.drew.below bn | replace Q := (Q.alloc _).below bn | replace Q := (Q.alloc _).drew.below bn | have Q := (Box.new _ 2 q ⟨#[]⟩ 23).below bn | skip))
    | (go_at_call 10; with_reducible refine (C1 _).mono ?_; rintro e wn ⟨rfl, bn⟩; (first | replace B := B.trans (bn.mono B.size) | replace B := B.drew.trans (bn.mono B.drew.size) | replace B := B.trans ((below_new bn).mono B.size) | replace B := B.trans ((below_newd bn).mono B.size)))
    | (go_at_call 10; with_reducible refine (C2 _).mono ?_; rintro e wn ⟨rfl, bn⟩; (first | replace B := B.trans (bn.mono B.size) | replace B := B.drew.trans (bn.mono B.drew.size) | replace B := B.trans ((below_new bn).mono B.size) | replace B := B.trans ((below_newd bn).mono B.size)); (first | replace Q := Q.below bn | replace Q := Q.drew.below bn | replace Q := (Q.alloc _).below bn | replace Q := (Q.alloc _).drew.below bn | have Q := (Box.new _ 2 q ⟨#[]⟩ 23).below bn | skip))
    | fail)
  have R := Box.new wn 2 r ⟨#[]⟩ 23
  replace Q := Q.alloc (.cells #[.int .i64 2, .int .i64 r, .string ⟨#[]⟩] 23)
  replace B : Below w.heap.size w (wn.alloc (.cells #[.int .i64 2, .int .i64 r, .string ⟨#[]⟩] 23)) := B.alloc B.size _
  generalize wn.alloc (.cells #[.int .i64 2, .int .i64 r, .string ⟨#[]⟩] 23) = W at *
  generalize wn.heap.size = rb at *
  clear bn C1 C2
  obtain ⟨r0, r1', r2', rl⟩ := R.get
  obtain ⟨q0, q1', q2, ql⟩ := Q.get
  go_cut [46] from 41 to 46 (fun s46 wx => s46 = .bool false ∧ W = wx)
  case first =>
    rcases hg.out with h | ⟨h, h'⟩
    all_goals
      go_wp2
      go_meet
      case rel => exact ⟨rfl, rfl⟩
  case rest =>
  obtain ⟨rfl, rfl⟩ := hcut
  go_upto_region 9 with fail
  go_cut [81] from 58 to 81 (fun s81 wx => s81 = .bool false ∧ W = wx)
  case first =>
    rcases Int.lt_trichotomy r 0 with h | h | h
    · have h' := hneg h
      have d : decide (0 ≤ a) = false := decide_eq_false (by omega)
      go_wp2
      go_meet
      case rel => exact ⟨rfl, rfl⟩
    · go_wp2
      go_meet
      case rel => exact ⟨rfl, rfl⟩
    · have h' := hpos h
      have d : decide (a ≤ 0) = false := decide_eq_false (by omega)
      go_wp2
      go_meet
      case rel => exact ⟨rfl, rfl⟩
  case rest =>
  obtain ⟨rfl, rfl⟩ := hcut
  go_upto_if 85 with fail
  go_cut [9] from 86 to 87 (fun s9 wx => ∃ mm : Int, s9 = .int .i64 mm ∧ mm ≤ 0 ∧ (mm = r ∨ mm = -r) ∧ W = wx)
  case first =>
    by_cases h : 0 < r
    · go_wp2
      go_meet
      case rel => exact ⟨-r, rfl, by omega, Or.inr rfl, rfl⟩
    · go_wp2
      go_meet
      case rel => exact ⟨r, rfl, by omega, Or.inl rfl, rfl⟩
  case rest =>
  obtain ⟨mm, rfl, hm0, hm1, rfl⟩ := hcut
  go_upto_if 90 with fail
  go_cut [10] from 91 to 92 (fun s10 wx => ∃ nn : Int, s10 = .int .i64 nn ∧ nn ≤ 0 ∧ (nn = b ∨ nn = -b) ∧ W = wx)
  case first =>
    by_cases h : 0 < b
    · go_wp2
      go_meet
      case rel => exact ⟨-b, rfl, by omega, Or.inr rfl, rfl⟩
    · go_wp2
      go_meet
      case rel => exact ⟨b, rfl, by omega, Or.inl rfl, rfl⟩
  case rest =>
  obtain ⟨nn, rfl, hn0, hn1, rfl⟩ := hcut
  have hmn : nn < mm := by omega
  clear hm0 hm1 hn0 hn1 hlt hpos hneg hg
  go_upto_region 17 with fail
  go_cut [11, 12] from 93 to 99 (fun s11 s12 wx => ∃ bp : Nat, s11 = .pointer (some ⟨bp, 0, none⟩) ∧ s12 = .int .i64 0 ∧ Box wx bp ⟨2, m, ⟨#[]⟩⟩ ∧ Box wx rb ⟨2, r, ⟨#[]⟩⟩ ∧ Below w.heap.size w wx)
  case first =>
    clear r0 r1' r2' rl hmn C4
    go_region_with (first
      | (go_at_call 22; with_reducible refine (num_any _ _).mono ?_; rintro e wn ⟨rfl, bn⟩; (first | replace Z := Z.below bn | replace Z := Z.drew.below bn | (have Z := (Box.new _ 0 0 ⟨#[]⟩ 23).below bn; have zl := R.get.2.2.2; have zs := B.size) | (have Z := (Box.new _ 0 0 ⟨#[]⟩ 23).drew.below bn; have zl := R.get.2.2.2; have zs := B.size) | skip); (first | (obtain ⟨z0, z1, z2, zf0, zf1, zf2⟩ := Z.out) | skip); (first | replace B := B.trans (bn.mono B.size) | replace B := B.drew.trans (bn.mono B.drew.size) | replace B := B.trans ((below_new bn).mono B.size) | replace B := B.trans ((below_newd bn).mono B.size)); (first | replace Q := Q.below bn | replace Q := Q.drew.below bn | replace Q := (Q.alloc _).below bn | replace Q := (Q.alloc _).drew.below bn | have Q := (Box.new _ 2 q ⟨#[]⟩ 23).below bn | skip); (first | replace R := R.below bn | replace R := R.drew.below bn | replace R := (R.alloc _).below bn | replace R := (R.alloc _).drew.below bn | have R := (Box.new _ 2 r ⟨#[]⟩ 23).below bn | skip); (have q0 := Q.get.1; have q1' := Q.get.2.1; have q2 := Q.get.2.2.1; have ql := Q.get.2.2.2))
      | (go_at_call 10; with_reducible refine (C3 _).mono ?_; rintro e wn ⟨rfl, bn⟩; (first | replace Z := Z.below bn | replace Z := Z.drew.below bn | (have Z := (Box.new _ 0 0 ⟨#[]⟩ 23).below bn; have zl := R.get.2.2.2; have zs := B.size) | (have Z := (Box.new _ 0 0 ⟨#[]⟩ 23).drew.below bn; have zl := R.get.2.2.2; have zs := B.size) | skip); (first | (obtain ⟨z0, z1, z2, zf0, zf1, zf2⟩ := Z.out) | skip); (first | replace B := B.trans (bn.mono B.size) | replace B := B.drew.trans (bn.mono B.drew.size) | replace B := B.trans ((below_new bn).mono B.size) | replace B := B.trans ((below_newd bn).mono B.size)); (first | replace R := R.below bn | replace R := R.drew.below bn | replace R := (R.alloc _).below bn | replace R := (R.alloc _).drew.below bn | have R := (Box.new _ 2 r ⟨#[]⟩ 23).below bn | skip)))
    all_goals
      go_wp2_with fail
      go_meet
      case rel =>
        first
          | exact ⟨_, rfl, rfl, Box.new _ 2 m ⟨#[]⟩ 23, R.alloc _, B.alloc B.size _⟩
          | exact ⟨_, rfl, rfl, Z.put 2 m ⟨#[]⟩, R.put3 (Nat.ne_of_gt zl) _ _ _, below_put3 B zs _ _ _⟩
  case rest =>
  obtain ⟨bp, rfl, rfl, P, R', B'⟩ := hcut
  clear Q R B q0 q1' q2 ql r0 r1' r2' rl
  obtain ⟨p0, p1, p2, pl⟩ := P.get
  obtain ⟨r0, r1', r2', rl⟩ := R'.get
  have B := B'
  go_upto_region 19 with (first
    | (go_at_call 10; with_reducible refine (C4 _).mono ?_; rintro e wn ⟨rfl, bn⟩; (first | replace B := B.trans (bn.mono B.size) | replace B := B.drew.trans (bn.mono B.drew.size) | replace B := B.trans ((below_new bn).mono B.size) | replace B := B.trans ((below_newd bn).mono B.size)))
    | fail)
  have S := Box.new wn 2 a ⟨#[]⟩ 23
  replace B : Below w.heap.size w (wn.alloc (.cells #[.int .i64 2, .int .i64 a, .string ⟨#[]⟩] 23)) := B.alloc B.size _
  generalize wn.alloc (.cells #[.int .i64 2, .int .i64 a, .string ⟨#[]⟩] 23) = U at *
  generalize wn.heap.size = sb at *
  obtain ⟨x0, x1, x2, _⟩ := S.get
  have x0 := cell_regrown x0
  have x1 := cell_regrown x1
  have x2 := cell_regrown x2
  have D1 : Hid (∀ d os, Calls Try.prog 22 #[.int .i64 a] (grow (redrawn U d) os) fun e w'' => e = .returned (.agg #[.int .i64 2, .int .i64 a, .string ⟨#[]⟩]) ∧ ∃ p : Regrown, w'' = grow (redrawn U p.d) p.os) :=
    fun d os => Calls.regrown_of (num_any a _)
  have dm : decide (nn < mm) = true := decide_eq_true hmn
  clear S P R' B' bn p0 p1 p2 pl r0 r1' r2' rl C3 C4
  refine wp_region_quiet_below (by kernel_rfl) (by kernel_rfl) ?_
  repeat (first | go_big_quiet_step (first | (go_at_call 22; with_reducible exact D1.out _ _)) | quiet_step (first | (go_at_call 22; with_reducible exact D1.out _ _)))
  refine wpQuiet_nil ?_
  intro _ hw'
  obtain ⟨⟨dq, osq⟩, hw''⟩ := hw'
  subst hw''
  go_wp2
  go_ret
  exact ⟨ret_bool (by simp), B.trans ((below_regrown U dq osq).mono B.size)⟩

theorem divides_walk (a b : Int) (w : World) (ha : inR a) (hb : inR b) :
    Calls Try.prog 6 #[.int .i64 a, .int .i64 b] w fun e w' => e = .returned (.bool true) ∧ Below w.heap.size w w' := by
  by_cases hb0 : b = 0
  · subst hb0; exact div_zero a w ha
  · by_cases hex : a = -9223372036854775808 ∧ b = -1
    · obtain ⟨rfl, rfl⟩ := hex; exact div_least w
    · have hsum : a.tdiv b * b + a.tmod b = a := by rw [Int.mul_comm]; exact Int.mul_tdiv_add_tmod a b
      have hlt : (a.tmod b).natAbs < b.natAbs := by rw [Int.natAbs_tmod]; exact Nat.mod_lt _ (by omega)
      have h3 : 0 ≤ a → 0 ≤ a.tmod b := fun h => Int.tmod_nonneg b h
      have h4 : a ≤ 0 → a.tmod b ≤ 0 := fun h => by
        have := Int.tmod_nonneg b (a := -a) (by omega)
        rw [Int.neg_tmod] at this
        omega
      have h5 : (a.tmod b).natAbs ≤ a.natAbs := by rw [Int.natAbs_tmod]; exact Nat.mod_le _ _
      have hmi : inR (a.tdiv b * b) := by
        unfold inR at *
        generalize a.tdiv b * b = m at *
        generalize a.tmod b = r at *
        omega
      exact div_gen a b _ _ w ha hb hb0 rfl rfl (tdiv_in ha hb0 hex) (tmod_in ha) hmi hsum hex
        (by generalize a.tmod b = r at *; omega) (by generalize a.tmod b = r at *; omega) hlt
end Go.Proofs.Ytonikoijelhojaa
