/- What calc.Call answers at a function that looks at each value, its work being a contract. Conditions: the slice's length is Go's. -/
import Derived.Test.YtonikoijelhojaaCalcCall
namespace Go.Proofs.Ytonikoijelhojaa
open Go.RowKit Go.Lib Go.Sort
set_option linter.unusedVariables false

set_option maxHeartbeats 4000000 in
theorem call_main (f : Int) (p : Option Addr) (xs : List Val) (c : Nat) (r : Ans) (w : World) (h : argsV f ≠ 0) (h6 : f ≠ 6) (hl : (xs.length : Int) = argsV f) (hL : xs.length ≤ maxLen) (rX : Row w p xs)
    (H1 : (∃ j, ∃ h : j < xs.length, badV f j xs[j] = true) → r = ⟨nullV, 35⟩)
    (H2 : (∀ j (h : j < xs.length), badV f j xs[j] = false) → xs.any isNull = true → r = ⟨nullV, 0⟩)
    (H3 : (∀ j (h : j < xs.length), badV f j xs[j] = false) → xs.any isNull = false → ∀ w1, CB w1 w.heap.size f (.slice p xs.length c) → Row w1 p xs →
      Calls Try.prog 31 #[.func (.func 47) #[] #[.pointer (some ⟨w.heap.size, 0, none⟩), .pointer (some ⟨w.heap.size + 1, 0, none⟩)]] w1 fun e w' => e = .returned r.out ∧ Below w1.heap.size w1 w') :
    Calls Try.prog 16 #[.int .i64 f, .slice p xs.length c] w fun e w' => e = .returned r.out ∧ Below w.heap.size w w' := by
  have hmf : ∀ (fn : Fn) (first cap : Array Value) (w : World), (Instr.makeFunc fn first cap).run Try.prog w = .ok (.func fn first cap) w := fun _ _ _ _ => rfl
  have A := fun w => args_any f w
  have d0 : (argsV f == 0) = false := beq_eq_false_iff_ne.2 h
  have d1 : ((xs.length : Int) != argsV f) = false := by rw [hl]; simp
  have d6 : (f == 6) = false := beq_eq_false_iff_ne.2 h6
  have X := cb_new w f p xs c
  have rX' : Hid (Row (((w.alloc (.cells #[.int .i64 f] 3)).alloc (.cells #[.slice p xs.length c] 31)).alloc (.cells #[.int .i64 0, .int .i64 0, .string ⟨#[]⟩] 23)) p xs) := rX.below ((((Below.refl _ _).alloc (Nat.le_refl _) _).alloc (by simp) _).alloc (by simp; omega) _)
  have H1' : Hid ((∃ j, ∃ h : j < xs.length, badV f j xs[j] = true) → r = ⟨nullV, 35⟩) := H1
  have H2' : Hid ((∀ j (h : j < xs.length), badV f j xs[j] = false) → xs.any isNull = true → r = ⟨nullV, 0⟩) := H2
  have H3' : Hid ((∀ j (h : j < xs.length), badV f j xs[j] = false) → xs.any isNull = false → ∀ w1, CB w1 w.heap.size f (.slice p xs.length c) → Row w1 p xs →
      Calls Try.prog 31 #[.func (.func 47) #[] #[.pointer (some ⟨w.heap.size, 0, none⟩), .pointer (some ⟨w.heap.size + 1, 0, none⟩)]] w1 fun e w' => e = .returned r.out ∧ Below w1.heap.size w1 w') := H3
  clear H1 H2 H3 rX h h6 hl
  unfold maxLen at hL
  generalize argsV f = m at *
  have AH : Hid (∀ d os, Calls Try.prog 18 #[.int .i64 f] (grow (redrawn (((w.alloc (.cells #[.int .i64 f] 3)).alloc (.cells #[.slice p xs.length c] 31)).alloc (.cells #[.int .i64 0, .int .i64 0, .string ⟨#[]⟩] 23)) d) os) fun e w'' => e = .returned (.int .i64 m) ∧ ∃ q : Regrown, w'' = grow (redrawn (((w.alloc (.cells #[.int .i64 f] 3)).alloc (.cells #[.slice p xs.length c] 31)).alloc (.cells #[.int .i64 0, .int .i64 0, .string ⟨#[]⟩] 23)) q.d) q.os) :=
    fun d os => Calls.regrown_of ((A _).mono (by rintro e w' ⟨rfl, rfl⟩; exact ⟨rfl, Below.refl _ _⟩))
  obtain ⟨o0, o1, _⟩ := X.out
  have g0 := cell_regrown o0
  have g1 := cell_regrown o1
  clear o0 o1
  go_enter Try.func16, Try.ntmps16
  go_wp2_with (go_at_call 18; with_reducible refine (A _).mono ?_; rintro e w' ⟨rfl, rfl⟩)
  refine wp_region_quiet_below (by kernel_rfl) (by kernel_rfl) ?_
  repeat (quiet_step (first | (go_at_call 18; with_reducible exact AH.out _ _)))
  refine wpQuiet_nil ?_
  intro _ hw'
  obtain ⟨⟨dq, osq⟩, hw''⟩ := hw'
  subst hw''
  simp only []
  have b1 := below_regrown (((w.alloc (.cells #[.int .i64 f] 3)).alloc (.cells #[.slice p xs.length c] 31)).alloc (.cells #[.int .i64 0, .int .i64 0, .string ⟨#[]⟩] 23)) dq osq
  have X1 := X.below b1
  have R1 : Hid (Row _ p xs) := rX'.out.below b1
  have B1 := below_new3 b1
  generalize grow (redrawn (((w.alloc (.cells #[.int .i64 f] 3)).alloc (.cells #[.slice p xs.length c] 31)).alloc (.cells #[.int .i64 0, .int .i64 0, .string ⟨#[]⟩] 23)) dq) osq = W at *
  clear X rX' b1 g0 g1 AH A
  obtain ⟨o0, o1, l0, l1, l2⟩ := X1.out
  go_wp2
  go_loopw [32, 6] (fun i nl wr => ∃ k : Nat, k ≤ xs.length ∧ i = .int .i64 k ∧ nl = .bool ((xs.take k).any isNull) ∧ (∀ j (h : j < xs.length), j < k → badV f j xs[j] = false) ∧ Below W.heap.size W wr) (fun i _ _ => xs.length - (intOf i).toNat)
  case atStart => exact ⟨0, Nat.zero_le _, rfl, rfl, fun j _ h => absurd h (Nat.not_lt_zero _), Below.refl _ _⟩
  case round =>
    obtain ⟨k, hkx, rfl, rfl, hk, hb⟩ := hrel
    clear o0 o1 l0 l1 l2
    have X2 := X1.below hb
    have R2 := R1.out.below hb
    have B2 := B1.trans (hb.mono B1.size)
    have hbs := hb.size
    obtain ⟨o0, o1, l0, l1, l2⟩ := X2.out
    by_cases hx : k < xs.length
    · obtain ⟨q1, q2, rfl, c10, c11, c12⟩ := R2.at hx
      have cl := cell_lt c10
      have tk : (xs.take (k + 1)).any isNull = ((xs.take k).any isNull || isNull xs[k]) := by
        rw [List.take_succ_eq_append_getElem hx, List.any_append]; simp
      have TK := fun w => takes_any f k xs[k].k w
      have hbad : badV f k xs[k] = (xs[k].k != 0 && !takesV f k xs[k].k) := rfl
      have hnull : isNull xs[k] = (xs[k].k == 0) := rfl
      have nx : badV f k xs[k] = false → ∀ j (h : j < xs.length), j < k + 1 → badV f j xs[j] = false := fun hh j hj hjk => by
        by_cases e : j = k
        · subst e; exact hh
        · exact hk j hj (by omega)
      have fail35 : Hid (badV f k xs[k] = true → r = ⟨nullV, 35⟩) := fun hh => H1'.out ⟨k, hx, hh⟩
      have nx' : Hid (badV f k xs[k] = false → ∀ j (h : j < xs.length), j < k + 1 → badV f j xs[j] = false) := nx
      have tk' : Hid ((xs.take (k + 1)).any isNull = ((xs.take k).any isNull || isNull xs[k])) := tk
      clear nx tk
      rw [hbad] at fail35 nx'
      rw [hnull] at tk'
      clear hbad hnull hk
      generalize hnb : (xs.take k).any isNull = nb at *
      clear hnb
      generalize xs[k] = x at *
      obtain ⟨xk, xn, xt⟩ := x
      simp only [] at *
      by_cases hz : xk = 0
      · subst hz
        have n1 := nx'.out rfl
        have e1 : Hid ((xs.take (k + 1)).any isNull = true) := by rw [tk'.out]; cases nb <;> rfl
        have n1' : Hid (∀ j (h : j < xs.length), j < k + 1 → badV f j xs[j] = false) := n1
        clear n1 nx' tk' fail35 TK
        cases nb
        all_goals
          go_wp2
          go_roundw
          case rel => exact ⟨k + 1, by omega, by go_num, by rw [e1.out], n1'.out, by go_grown⟩
          case measure => simp [intOf]; omega
      · have z0 : (xk != 0) = true := bne_iff_ne.2 hz
        have z1 : (xk == 0) = false := beq_eq_false_iff_ne.2 hz
        rw [z0, Bool.true_and] at fail35 nx'
        rw [z1, Bool.or_false] at tk'
        clear hz
        cases ht : takesV f k xk
        · rw [ht] at TK
          have hr : Hid (r = ⟨nullV, 35⟩) := fail35.out (by rw [ht]; rfl)
          obtain ⟨r0, r1, r2, f0, f1, f2⟩ := X2.r.out
          clear ht fail35 nx' tk'
          go_wp2_with (go_at_call 46; with_reducible refine (TK _).mono ?_; rintro e w' ⟨rfl, rfl⟩)
          refine bodyPost_ret (by simp [results, Try.results16, go_sem, r0, r1, r2, l2]; try rfl) rfl ?_
          exact ⟨by rw [hr.out]; rfl, by go_grown⟩
        · rw [ht] at TK
          have n1' : Hid (∀ j (h : j < xs.length), j < k + 1 → badV f j xs[j] = false) := nx'.out (by rw [ht]; rfl)
          clear ht fail35 nx'
          cases nb
          all_goals
            go_wp2_with (go_at_call 46; with_reducible refine (TK _).mono ?_; rintro e w' ⟨rfl, rfl⟩)
            go_roundw
            case rel => exact ⟨k + 1, by omega, by go_num, by rw [tk'.out], n1'.out, by go_grown⟩
            case measure => simp [intOf]; omega
    · have hall : Hid (∀ j (h : j < xs.length), badV f j xs[j] = false) := fun j hj => hk j hj (by omega)
      have hl2 : xs.take k = xs := List.take_of_length_le (by omega)
      rw [hl2]
      clear hl2 hk
      obtain ⟨r0, r1, r2, f0, f1, f2⟩ := X2.r.out
      cases hn : xs.any isNull
      · have H := H3'.out hall.out hn _ X2 R2
        simp only [Ans.out_eq] at *
        obtain ⟨⟨k', n', s'⟩, er⟩ := r
        simp only [] at *
        clear H1' H2' H3' hn hall
        go_wp2_with (go_at_call 31; with_reducible refine H.mono ?_; rintro e w2 ⟨rfl, b2⟩; obtain ⟨r0, r1, r2, f0, f1, f2⟩ := (X2.below b2).r.out; have B3 := B2.trans (b2.mono B2.size))
        refine bodyPost_ret (by simp [results, Try.results16, go_sem, r0, r1, r2]; try rfl) rfl ?_
        exact ⟨rfl, by go_grown⟩
      · have hr : Hid (r = ⟨nullV, 0⟩) := H2'.out hall.out hn
        clear H1' H2' H3' hn hall
        go_wp2
        refine bodyPost_ret (by simp [results, Try.results16, go_sem, r0, r1, r2]; try rfl) rfl ?_
        exact ⟨by rw [hr.out]; rfl, by go_grown⟩
end Go.Proofs.Ytonikoijelhojaa
