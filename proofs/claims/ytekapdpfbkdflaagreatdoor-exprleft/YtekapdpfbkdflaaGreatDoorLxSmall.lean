/- What the lexer's small functions answer, and the document's: which bytes are blanks, digits, letters, and what a hexadecimal digit says. No condition. -/
import Derived.Test.YtekapdpfbkdflaaGreatDoorLxMem
namespace Go.Proofs.YtekapdpfbkdflaaGreatDoor
open Go.RowKit Go.Lib Go.Sort
set_option linter.unusedVariables false
set_option maxRecDepth 20000

set_option maxHeartbeats 1000000 in
theorem xdigit_any (c : Int) (w : World) :
    Calls Tryz.prog 27 #[.int .u8 c] w fun e w' => e = .returned (.bool (dig c)) ∧ w' = w := by
  unfold dig
  go_enter Tryz.func27, Tryz.ntmps27
  go_wp2
  all_goals go_ret
  all_goals refine ⟨?_, rfl⟩
  all_goals (simp_all; try (first | omega | (rw [Bool.eq_iff_iff]; simp; omega)))
set_option maxHeartbeats 1000000 in
theorem xletter_any (c : Int) (w : World) :
    Calls Tryz.prog 31 #[.int .u8 c] w fun e w' => e = .returned (.bool (ltr c)) ∧ w' = w := by
  unfold ltr
  go_enter Tryz.func31, Tryz.ntmps31
  go_wp2
  all_goals go_ret
  all_goals refine ⟨?_, rfl⟩
  all_goals (simp_all; try (first | omega | (rw [Bool.eq_iff_iff]; simp; omega)))
set_option maxHeartbeats 1000000 in
theorem xblank_any (c : Int) (w : World) :
    Calls Tryz.prog 16 #[.int .u8 c] w fun e w' => e = .returned (.bool (blk c)) ∧ w' = w := by
  unfold blk
  go_enter Tryz.func16, Tryz.ntmps16
  go_wp2
  all_goals go_ret
  all_goals refine ⟨?_, rfl⟩
  all_goals (simp_all; try (first | omega | (rw [Bool.eq_iff_iff]; simp; omega)))
set_option maxHeartbeats 1000000 in
theorem xword_any (c : Int) (w : World) :
    Calls Tryz.prog 56 #[.int .u8 c] w fun e w' => e = .returned (.bool (wrd c)) ∧ w' = w := by
  have D := fun w => xdigit_any c w
  have L := fun w => xletter_any c w
  unfold wrd
  generalize dig c = d at *
  generalize ltr c = t at *
  cases t
  all_goals (
    go_enter Tryz.func56, Tryz.ntmps56
    go_wp2_with (first
      | (go_at_call 27; with_reducible refine (D _).mono ?_; rintro e w2 ⟨rfl, hw⟩; subst hw)
      | (go_at_call 31; with_reducible refine (L _).mono ?_; rintro e w2 ⟨rfl, hw⟩; subst hw))
    go_ret
    exact ⟨rfl, rfl⟩)

theorem xint {a b : Int} (h : a = b) : Ending.returned (.int .i64 a) = .returned (.int .i64 b) := by rw [h]
theorem hx_digit {c : Int} (h : dig c = true) : hx c = c - 48 := if_pos h
theorem dig_iff (c : Int) : dig c = true ↔ 48 ≤ c ∧ c ≤ 57 := by unfold dig; simp
theorem dig_no (c : Int) : dig c = false ↔ ¬ (48 ≤ c ∧ c ≤ 57) := by unfold dig; simp

set_option maxHeartbeats 1000000 in
theorem xhex_any (c : UInt8) (w : World) :
    Calls Tryz.prog 55 #[.int .u8 (c.toNat : Int)] w fun e w' => e = .returned (.int .i64 (hx (bi c))) ∧ w' = w := by
  have hc := c.toNat_lt
  unfold bi
  generalize c.toNat = n at *
  have D := fun w => xdigit_any (n : Int) w
  have hd := dig_iff (n : Int)
  have HH : Hid (hx (n : Int) = if dig (n : Int) then (n : Int) - 48 else if 97 ≤ (n : Int) ∧ (n : Int) ≤ 102 then (n : Int) - 87 else if 65 ≤ (n : Int) ∧ (n : Int) ≤ 70 then (n : Int) - 55 else -1) := rfl
  rw [HH.out]
  clear HH
  generalize dig (n : Int) = d at *
  cases d with
  | true =>
    have hd' := hd.1 rfl
    rw [if_pos rfl]
    clear hd
    go_enter Tryz.func55, Tryz.ntmps55
    go_wp2_with (go_at_call 27; with_reducible refine (D _).mono ?_; rintro e w2 ⟨rfl, hw⟩; subst hw)
    go_ret
    exact ⟨rfl, rfl⟩
  | false =>
    rw [if_neg (by simp)]
    by_cases h1 : 97 ≤ n ∧ n ≤ 102
    · rw [if_pos (by omega)]
      obtain ⟨h1a, h1b⟩ := h1
      have h1a' : (97 : Int) ≤ n := by omega
      have h1b' : (n : Int) ≤ 102 := by omega
      clear hd
      go_enter Tryz.func55, Tryz.ntmps55
      go_wp2_with (go_at_call 27; with_reducible refine (D _).mono ?_; rintro e w2 ⟨rfl, hw⟩; subst hw)
      go_ret
      exact ⟨xint (by omega), rfl⟩
    · rw [if_neg (by omega)]
      by_cases h2 : 65 ≤ n ∧ n ≤ 70
      · rw [if_pos (by omega)]
        obtain ⟨h2a, h2b⟩ := h2
        have h2a' : (65 : Int) ≤ n := by omega
        have h2b' : (n : Int) ≤ 70 := by omega
        have h3 : ¬ (97 : Int) ≤ n := by omega
        clear hd h1
        go_enter Tryz.func55, Tryz.ntmps55
        go_wp2_with (go_at_call 27; with_reducible refine (D _).mono ?_; rintro e w2 ⟨rfl, hw⟩; subst hw)
        go_ret
        exact ⟨xint (by omega), rfl⟩
      · rw [if_neg (by omega)]
        clear hd
        go_enter Tryz.func55, Tryz.ntmps55
        go_wp2_with (go_at_call 27; with_reducible refine (D _).mono ?_; rintro e w2 ⟨rfl, hw⟩; subst hw)
        all_goals first
          | (go_ret; exact ⟨rfl, rfl⟩)
          | (exfalso; omega)
end Go.Proofs.YtekapdpfbkdflaaGreatDoor
