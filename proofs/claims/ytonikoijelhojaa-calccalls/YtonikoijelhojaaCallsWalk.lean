/- The law CalcCalls returns true and writes nothing that was there. Conditions: the numbers are within the numbers, the texts and the row lie within the reach. -/
import Derived.Test.YtonikoijelhojaaRefCall
import Derived.Test.YtonikoijelhojaaValCopy
namespace Go.Proofs.Ytonikoijelhojaa
open Go.RowKit Go.Lib Go.Sort
set_option linter.unusedVariables false

theorem rcall_any (f : Int) (p : Option Addr) (xs : List Val) (c : Nat) (w : World) (hL : xs.length ≤ maxLen) (rX : Row w p xs) (hn : ∀ v ∈ xs, inR v.n) (hs : ∀ v ∈ xs, v.s.size ≤ 140737488351232) (hr : ∀ v ∈ xs, rightV v = true) :
    Calls Try.prog 17 #[.int .i64 f, .slice p xs.length c] w fun e w' => e = .returned (callV f xs).out ∧ Below w.heap.size w w' := by
  by_cases h0 : argsV f = 0
  · rw [show callV f xs = ⟨nullV, 5⟩ from if_pos h0]
    exact rcall_kind f p xs c w h0
  by_cases hl : (xs.length : Int) ≠ argsV f
  · rw [show callV f xs = ⟨nullV, 37⟩ by unfold callV; rw [if_neg h0, if_pos hl]]
    exact rcall_count f p xs c w h0 hl
  exact rcall_main f p xs c w h0 (by omega) hL rX hn hs hr

set_option maxHeartbeats 4000000 in
theorem calls_walk (f : Int) (xs : List Val) (p : Option Addr) (c : Nat) (w : World) (hA : xs.length * 32 ≤ 140737488351232) (nX : p = none → xs.length = 0 ∧ c = 0) (rX : Row w p xs) (hn : ∀ v ∈ xs, inR v.n) (hs : ∀ v ∈ xs, v.s.size ≤ 140737488351232) :
    Calls Try.prog 4 #[.int .i64 f, .slice p xs.length c] w fun e w' => e = .returned (.bool true) ∧ Below w.heap.size w w' := by
  have hL : xs.length ≤ maxLen := by unfold maxLen; omega
  have RR := right_any xs p c w hL rX
  have HnX : Hid (p = none → xs.length = 0 ∧ c = 0) := nX
  cases hr : xs.all rightV
  · rw [hr] at RR
    clear hr hn hs hA nX rX hL
    go_enter Try.func4, Try.ntmps4
    go_wp2_with (first | (go_at_call 9; with_reducible refine RR.mono ?_; rintro e wn ⟨rfl, bn⟩))
    go_ret
    exact ⟨rfl, bn⟩
  · rw [hr] at RR
    have hr' : ∀ v ∈ xs, rightV v = true := List.all_eq_true.1 hr
    have CC : Hid (∀ (q : Option Addr) (cq : Nat) (w : World), Row w q xs → Calls Try.prog 16 #[.int .i64 f, .slice q xs.length cq] w fun e w' => e = .returned (callV f xs).out ∧ Below w.heap.size w w') := fun q cq w rq => call_any f q xs cq w hL rq hn hs
    have CR : Hid (∀ w : World, Row w p xs → Calls Try.prog 17 #[.int .i64 f, .slice p xs.length c] w fun e w' => e = .returned (callV f xs).out ∧ Below w.heap.size w w') := fun w rq => rcall_any f p xs c w hL rq hn hs hr'
    have SR : Hid (∀ (q : Option Addr) (cq : Nat) (w : World), Row w q xs → Row w p xs → Calls Try.prog 20 #[.slice q xs.length cq, .slice p xs.length c] w fun e w' => e = .returned (.bool true) ∧ Below w.heap.size w w') := fun q cq w r1 r2 => sameRow_refl xs q p cq c w hL r1 r2
    have A1 := fun w => args_any f w
    have A2 := fun w => rargs_any f w
    simp only [Ans.out_eq] at CC CR
    generalize callV f xs = r at *
    generalize argsV f = m at *
    obtain ⟨⟨k', n', s'⟩, er⟩ := r
    simp only [] at CC CR
    have he := run_eqv
    have q0 := eqv_same k' n' s'
    have q1 : (er == er) = true := by simp
    have q2 : (m == m) = true := by simp
    clear hr hr' hn hs hL nX
    go_enter Try.func4, Try.ntmps4
    go_upto_region 6 with (first
      | (go_at_call 9; with_reducible refine RR.mono ?_; rintro e w1 ⟨rfl, B⟩)
      | (at_builtin; refine copyV w1 _ _ _ p xs c rfl rfl rfl rfl rfl HnX.out (rX.below B) hA ?_; intro p1 c1 w2 r1 b1; replace B := B.trans (b1.mono B.size))
      | (go_at_call 16; with_reducible refine (CC.out _ _ _ r1).mono ?_; rintro e w3 ⟨rfl, b3⟩; replace r1 := r1.below b3; replace B := B.trans (b3.mono B.size))
      | (go_at_call 17; with_reducible refine (CR.out _ (rX.below (B.alloc B.size _))).mono ?_; rintro e w4 ⟨rfl, b4⟩; have X := (Box.new w3 k' n' s' 23).below b4; replace r1 := r1.below (below_new b4); replace B := B.trans ((below_new b4).mono B.size))
      | fail)
    have Y := Box.new w4 k' n' s' 23
    replace X := X.alloc (.cells #[.int .i64 k', .int .i64 n', .string s'] 23)
    replace r1 := r1.below (alloc_below w4 (.cells #[.int .i64 k', .int .i64 n', .string s'] 23))
    replace B : Below w.heap.size w (w4.alloc (.cells #[.int .i64 k', .int .i64 n', .string s'] 23)) := B.alloc B.size _
    generalize w4.alloc (.cells #[.int .i64 k', .int .i64 n', .string s'] 23) = W at *
    generalize w4.heap.size = yb at *
    generalize w3.heap.size = xb at *
    have S1 := SR.out p1 c1 W r1 (rX.below B)
    obtain ⟨x0, x1, x2, xl⟩ := X.get
    obtain ⟨y0, y1, y2, yl⟩ := Y.get
    clear CC CR SR RR
    go_wp2_with (first
      | (go_at_call 18; with_reducible refine (A1 _).mono ?_; rintro e wn ⟨rfl, hwn⟩; subst hwn)
      | (go_at_call 19; with_reducible refine (A2 _).mono ?_; rintro e wn ⟨rfl, hwn⟩; subst hwn)
      | (go_at_call 20; with_reducible refine S1.mono ?_; rintro e w5 ⟨rfl, b5⟩; replace B := B.trans (b5.mono B.size))
      | fail)
    go_ret
    exact ⟨ret_bool (by simp), B⟩
end Go.Proofs.Ytonikoijelhojaa
