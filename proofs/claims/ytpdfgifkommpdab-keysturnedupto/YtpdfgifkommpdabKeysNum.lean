/- What (*writer).number does: eight bytes more. Condition: the bytes lie within the reach. -/
import Derived.Test.YtpdfgifkommpdabKeysPut
import Derived.Laws.BitsAllLaws
namespace Go.Proofs.Ytpdfgifkommpdab
open Go.RowKit Go.Lib Go.Sort
set_option linter.unusedVariables false

theorem xor_top {a : Nat} (h : a < 2 ^ 63) : a ^^^ 2 ^ 63 = 2 ^ 63 + a := by
  apply Nat.eq_of_testBit_eq
  intro i
  rw [Nat.testBit_xor, Nat.testBit_two_pow]
  rcases Nat.lt_trichotomy i 63 with hi | rfl | hi
  · rw [Nat.testBit_two_pow_add_gt hi]
    have : decide (63 = i) = false := by simp; omega
    simp [this]
  · rw [Nat.testBit_two_pow_add_eq]
    simp
  · have e1 : a.testBit i = false := Nat.testBit_lt_two_pow (Nat.lt_of_lt_of_le h (Nat.pow_le_pow_right (by decide) (by omega)))
    have e2 : (2 ^ 63 + a).testBit i = false := Nat.testBit_lt_two_pow (Nat.lt_of_lt_of_le (show 2 ^ 63 + a < 2 ^ 64 by omega) (Nat.pow_le_pow_right (by decide) (by omega)))
    have : decide (63 = i) = false := by simp; omega
    simp [e1, e2, this]
theorem xor_high (n : Int) (h1 : -9223372036854775808 ≤ n) (h2 : n ≤ 9223372036854775807) : bits .xor .u64 (IntKind.u64.wrap n) 9223372036854775808 = ((n + 9223372036854775808).toNat : Int) := by
  have hw : IntKind.u64.wrap n = n % 18446744073709551616 := by simp [IntKind.wrap, IntKind.signed, IntKind.bits]
  rw [hw, u64_xor _ _ (by omega) (by omega) (by decide) (by decide)]
  congr 1
  show (n % 18446744073709551616).toNat ^^^ 2 ^ 63 = _
  by_cases h : 0 ≤ n
  · rw [xor_top (by omega)]
    omega
  · have : (n % 18446744073709551616).toNat = 2 ^ 63 + (n + 9223372036854775808).toNat := by omega
    rw [this, ← xor_top (by omega), Nat.xor_assoc, Nat.xor_self, Nat.xor_zero]

set_option maxHeartbeats 2000000 in
theorem wnumber_any (t : Bool) (wb : Nat) (n : Int) (l : List UInt8) (v : Value) (w : World) (h1 : -9223372036854775808 ≤ n) (h2 : n ≤ 9223372036854775807) (hW : Wr w wb (msk t) l v) (hl : l.length + 8 ≤ 140737488351232) :
    Calls Try.prog 20 #[.pointer (some ⟨wb, 0, none⟩), .int .i64 n] w fun e w' => e = .returned (.tuple #[]) ∧ ∃ v', Wr w' wb (msk t) (l ++ (be 8 (n + 9223372036854775808).toNat).map (tb t)) v' ∧ Past wb v v' w w' := by
  have hX := xor_high n h1 h2
  generalize (n + 9223372036854775808).toNat = N at *
  have HW : Hid (Wr w wb (msk t) l v) := hW
  clear hW
  go_enter Try.func20, Try.ntmps20
  go_wp2
  clear hX
  go_loopw [9] (fun i wr => ∃ k : Nat, k ≤ 8 ∧ i = .int .i64 k ∧ ∃ v1, Wr wr wb (msk t) (l ++ ((be 8 N).take k).map (tb t)) v1 ∧ Past wb v v1 w wr) (fun i _ => 8 - (RowKit.intOf i).toNat)
  case atStart => exact ⟨0, Nat.zero_le _, rfl, v, by simpa using HW.out, Past.refl _ _ _⟩
  case round =>
    obtain ⟨k, hks, rfl, v1, W1, P1⟩ := hrel
    clear HW
    by_cases hx : k < 8
    · have hlen : k < (be 8 N).length := by rw [be_length]; exact hx
      have HZ : Hid (((be 8 N)[k]'hlen).toNat = N / 256 ^ (8 - 1 - k) % 256) := by
        show ((be 8 N)[k]'hlen).toNat = _
        rw [be_get]; simp
      have HT : Hid (((be 8 N).take (k + 1)).map (tb t) = ((be 8 N).take k).map (tb t) ++ [tb t ((be 8 N)[k]'hlen)]) := by
        show _ = _
        rw [List.take_succ_eq_append_getElem hlen, List.map_append]; rfl
      have hll : (((be 8 N).take k).map (tb t)).length ≤ 7 := by simp [be_length]; omega
      generalize (be 8 N)[k]'hlen = z at *
      have HW1 : Hid (Wr wr wb (msk t) (l ++ ((be 8 N).take k).map (tb t)) v1) := W1
      have HP1 : Hid (Past wb v v1 w wr) := P1
      clear W1 P1 hlen
      generalize ((be 8 N).take k).map (tb t) = pre at *
      have hk : k = 0 ∨ k = 1 ∨ k = 2 ∨ k = 3 ∨ k = 4 ∨ k = 5 ∨ k = 6 ∨ k = 7 := by omega
      rcases hk with rfl | rfl | rfl | rfl | rfl | rfl | rfl | rfl
      all_goals
        have hz := HZ.out
        simp only [Nat.reduceSub, Nat.reducePow, Nat.div_one] at hz
        go_wp2_with (go_at_call 19; refine (put_any t wb z _ _ _ _ (by omega) HW1.out (by simp; omega)).mono ?_; rintro e w2 ⟨rfl, v2, W2, P2⟩; have HW2 : Hid (Wr w2 wb (msk t) (l ++ pre ++ [tb t z]) v2) := W2; have HP2 : Hid (Past wb v1 v2 wr w2) := P2; clear W2 P2)
        go_roundw
        case rel => exact ⟨_, by decide, rfl, v2, by rw [HT.out, ← List.append_assoc]; exact HW2.out, HP1.out.trans HP2.out⟩
        case measure => simp [RowKit.intOf]
    · obtain rfl : k = 8 := by omega
      rw [List.take_of_length_le (by rw [be_length]; exact Nat.le_refl _)] at W1
      go_wp2
      refine end0 Try.results20 rfl ?_
      exact ⟨rfl, v1, W1, P1⟩
end Go.Proofs.Ytpdfgifkommpdab
