/- What the law's own 'right' answers: whether every value is right; and 'num'. Condition: the slice's length is Go's. -/
import Derived.Test.YtonikoijelhojaaRefCheck
import Derived.Test.YtonikoijelhojaaCalcPlain
namespace Go.Proofs.Ytonikoijelhojaa
open Go.RowKit Go.Lib Go.Sort
set_option linter.unusedVariables false

def rightV (a : Val) : Bool := checkV a == 0

set_option maxHeartbeats 1000000 in
theorem right_any (xs : List Val) (p : Option Addr) (c : Nat) (w : World) (hA : xs.length ≤ maxLen) (rA : Row w p xs) :
    Calls Try.prog 9 #[.slice p xs.length c] w fun e w' => e = .returned (.bool (xs.all rightV)) ∧ Below w.heap.size w w' := by
  unfold maxLen at hA
  have rH : Hid (Row w p xs) := rA
  clear rA
  go_enter Try.func9, Try.ntmps9
  go_wp2
  go_loopw [3] (fun i wr => ∃ k : Nat, k ≤ xs.length ∧ i = .int .i64 k ∧ (xs.take k).all rightV = true ∧ Below w.heap.size w wr) (fun i _ => xs.length - (intOf i).toNat)
  case atStart => exact ⟨0, Nat.zero_le _, rfl, rfl, Below.refl _ _⟩
  case round =>
    obtain ⟨k, hkx, rfl, hk, hb⟩ := hrel
    by_cases hx : k < xs.length
    · obtain ⟨b1, o1, rfl, c10, c11, c12⟩ := (rH.out.below hb).at hx
      have ht : (xs.take (k + 1)).all rightV = ((xs.take k).all rightV && rightV xs[k]) := by
        rw [List.take_succ_eq_append_getElem hx, List.all_append]; simp
      have hall : rightV xs[k] = false → xs.all rightV = false := fun h => by
        rw [List.all_eq_false]; exact ⟨xs[k], List.getElem_mem hx, by rw [h]; decide⟩
      rw [hk, Bool.true_and] at ht
      have C := fun w => refCheck_any xs[k] w
      unfold rightV at ht hall
      generalize hc : checkV xs[k] = ch at *
      have Hh : Hid ((ch == 0) = false → xs.all rightV = false) := hall
      clear hall hc
      generalize xs[k] = x at *
      obtain ⟨xk, xn, xt⟩ := x
      unfold Val.v at C
      simp only [] at *
      by_cases h0 : ch = 0
      · subst h0
        go_wp2_with (go_at_call 23; with_reducible refine (C _).mono ?_; rintro e w1 ⟨rfl, b1⟩)
        go_roundw
        case rel => exact ⟨k + 1, by omega, by go_num, ht, hb.trans (b1.mono hb.size)⟩
        case measure => simp [intOf]; omega
      · have h1 : (ch != 0) = true := bne_iff_ne.2 h0
        have hf : Hid (xs.all rightV = false) := Hh.out (beq_eq_false_iff_ne.2 h0)
        clear h0
        go_wp2_with (go_at_call 23; with_reducible refine (C _).mono ?_; rintro e w1 ⟨rfl, b1⟩)
        go_ret
        exact ⟨ret_bool hf.out.symm, hb.trans (b1.mono hb.size)⟩
    · have hl : xs.take k = xs := List.take_of_length_le (by omega)
      rw [hl] at hk
      have hk' : Hid (xs.all rightV = true) := hk
      clear hk
      go_wp2
      go_ret
      exact ⟨ret_bool hk'.out.symm, hb⟩
end Go.Proofs.Ytonikoijelhojaa
