/- The law AggRows returns true and writes nothing that was there. Condition: the slice's length is Go's. -/
import Derived.Test.YtfcecblppdgcbaaAgWorks
namespace Go.Proofs.Ytfcecblppdgcbaa
open Go.RowKit Go.Lib Go.Sort
set_option linter.unusedVariables false
set_option maxRecDepth 20000

theorem below2 {a b c : World} (h : Below a.heap.size a b) (k : Below b.heap.size b c) : Below a.heap.size a c := h.trans (k.mono h.size)
set_option maxHeartbeats 2000000 in
theorem rows_walk (xs : List Val) (p : Option Addr) (c : Nat) (w : World) (hA : xs.length ≤ maxLen) (rA : Row w p xs) :
    Calls Try.prog 7 #[.slice p xs.length c] w fun e w' => e = .returned (.bool true) ∧ Below w.heap.size w w' := by
  have W := fun w => works_any w
  have R := fun w r => right_any xs p c w hA r
  have rH := hid rA
  have hneq := run_neqv
  unfold maxLen at hA
  cases hr : (xs.all rightV && decide (xs.length ≤ 300))
  · rw [hr] at R
    clear rA hr
    go_enter Try.func7, Try.ntmps7
    go_wp2_with (first
      | (go_at_call 15; with_reducible refine (W _).mono ?_; rintro e w1 ⟨rfl, b1⟩)
      | (go_at_call 10; with_reducible refine (R _ (rH.out.below b1)).mono ?_; rintro e w2 ⟨rfl, b2⟩)
      | fail)
    go_ret
    exact ⟨rfl, below2 b1 b2⟩
  · rw [hr] at R
    have hlen : xs.length ≤ 300 := by
      simp only [Bool.and_eq_true, decide_eq_true_eq] at hr
      exact hr.2
    have N := fun w => new_any 1 true w
    have hbad : ¬ badNew 1 true := by unfold badNew; decide
    clear rA hr
    go_enter Try.func7, Try.ntmps7
    go_wp2_with (first
      | (go_at_call 15; with_reducible refine (W _).mono ?_; rintro e w1 ⟨rfl, b1⟩)
      | (go_at_call 10; with_reducible refine (R _ (rH.out.below b1)).mono ?_; rintro e w2 ⟨rfl, b2⟩)
      | (go_at_call 8; with_reducible refine (N _).mono ?_; rintro e w3 ⟨E1, b3⟩; unfold newEnd at E1; obtain ⟨b, g, he, hbb, hgg, P1⟩ := E1.2 hbad; subst he; have HB := hid (below2 (below2 b1 b2) b3); have hgl : w.heap.size ≤ g := Nat.le_trans (below2 b1 b2).size hgg; have HP1 := hid P1; clear E1 P1)
      | fail)
    go_loopw [5] (fun i wr => ∃ k : Nat, k ≤ xs.length ∧ i = .int .i64 k ∧ PAc wr b g 1 true (numV k) ∧ Below w.heap.size w wr) (fun i _ => xs.length - (intOf i).toNat)
    case atStart => exact ⟨0, Nat.zero_le _, rfl, HP1.out, HB.out⟩
    case round =>
      obtain ⟨k, hkx, rfl, P, hb⟩ := hrel
      have HP := hid P
      have HBr := hid hb
      by_cases hlt : k < xs.length
      · obtain ⟨b2, o2, rfl, c10, c11, c12⟩ := (rH.out.below hb).at hlt
        have hkl : (k : Int) < 300 := by omega
        have A := fun w1 P1 => add_any b g 1 true (numV k) xs[k] w1 P1 (by decide) (fun _ => ⟨by simp [numV], by simp only [numV]; omega⟩) (fun h => absurd h (by decide))
        have ha : addV 1 true (numV k) xs[k] = ⟨numV ((k : Int) + 1), 0⟩ := by unfold addV; rw [if_neg (by simp)]; rfl
        rw [ha] at A
        have V := fun w1 P1 => value_any b g 1 true (numV ((k : Int) + 1)) w1 P1 (by decide)
        have NB := fun n w => lnum_any n w
        have q := eqv_same 2 ((k : Int) + 1) ⟨#[]⟩
        generalize xs[k] = x at *
        obtain ⟨xk, xn, xt⟩ := x
        unfold Val.v numV at A V
        simp only [] at *
        clear P hb ha
        go_wp2_with (first
          | (go_at_call 13; with_reducible refine (A _ HP.out).mono ?_; rintro e w4 ⟨rfl, ch, P4⟩; have HB4 := hid (below_chg HBr.out ch HBr.out.size hgl))
          | (go_at_call 11; with_reducible refine (V _ P4).mono ?_; rintro e w5 ⟨rfl, b5⟩)
          | (go_at_call 18; with_reducible refine (NB _ _).mono ?_; rintro e w6 ⟨rfl, b6⟩)
          | fail)
        go_roundw
        case rel => exact ⟨k + 1, by omega, by go_num, by rw [show ((k + 1 : Nat) : Int) = (k : Int) + 1 by omega]; exact (P4.below b5).below b6, HB4.out.trans ((below2 b5 b6).mono HB4.out.size)⟩
        case measure => simp [intOf]; omega
      · have hkz : ¬ (k : Int) < (xs.length : Int) := by omega
        go_wp2
        go_ret
        exact ⟨rfl, HBr.out⟩
end Go.Proofs.Ytfcecblppdgcbaa
