/- What withoutSign, withSign, valueSize of package rows and the document's signed answer. No conditions but the bounds of numbers and texts. -/
import Derived.Test.YtaoeonbhlpnjiaaRowPut
import Derived.BigQuiet
import Derived.Lib.QuietBelow
namespace Go.Proofs.Ytaoeonbhlpnjiaa
open Go.RowKit Go.Lib Go.Sort
set_option linter.unusedVariables false

theorem xor_ones {a : Nat} (h : a < 2 ^ 64) : a ^^^ (2 ^ 64 - 1) = 2 ^ 64 - (a + 1) := by
  apply Nat.eq_of_testBit_eq
  intro i
  rw [Nat.testBit_xor, Nat.testBit_two_pow_sub_one, Nat.testBit_two_pow_sub_succ h]
  by_cases hi : i < 64
  · simp [hi]
  · have e1 : a.testBit i = false := Nat.testBit_lt_two_pow (Nat.lt_of_lt_of_le h (Nat.pow_le_pow_right (by decide) (by omega)))
    simp [hi, e1]
theorem zz_pos {n : Int} (h1 : 0 ≤ n) (h2 : n ≤ 9223372036854775807) : bits .xor .u64 (n * 2) (n / 9223372036854775808) = (zz n : Int) := by
  have h0 : n / 9223372036854775808 = 0 := by omega
  rw [h0, u64_xor _ _ (by omega) (by omega) (by decide) (by decide)]
  have : (0 : Int).toNat = 0 := rfl
  rw [this, Nat.xor_zero]
  unfold zz
  rw [if_pos h1]
  omega
theorem zz_neg {n : Int} (h1 : -9223372036854775808 ≤ n) (h2 : n < 0) : bits .xor .u64 (IntKind.u64.wrap (IntKind.u64.wrap n * 2)) (IntKind.u64.wrap (n / 9223372036854775808)) = (zz n : Int) := by
  have h0 : n / 9223372036854775808 = -1 := by omega
  have e1 : IntKind.u64.wrap (-1) = 18446744073709551615 := by decide
  have e2 : IntKind.u64.wrap (IntKind.u64.wrap n * 2) = 2 * n + 18446744073709551616 := by
    rw [IntKind.wrap_u64, IntKind.wrap_u64]
    omega
  rw [h0, e1, e2, u64_xor _ _ (by omega) (by omega) (by decide) (by decide)]
  have e3 : (18446744073709551615 : Int).toNat = 2 ^ 64 - 1 := by decide
  rw [e3, xor_ones (by omega)]
  unfold zz
  rw [if_neg (by omega)]
  omega

set_option maxHeartbeats 400000 in
theorem withoutSign_any (n : Int) (w : World) (h1 : -9223372036854775808 ≤ n) (h2 : n ≤ 9223372036854775807) :
    Calls Try.prog 32 #[.int .i64 n] w fun e w' => e = .returned (.int .u64 (zz n : Int)) ∧ w' = w := by
  by_cases h : 0 ≤ n
  · have hz := zz_pos h h2
    go_enter Try.func32, Try.ntmps32
    go_wp2
    go_ret
    first | exact ⟨ret_int hz, rfl⟩ | exact ⟨ret_int hz.symm, rfl⟩ | exact ⟨rfl, rfl⟩
  · have hz := zz_neg h1 (by omega)
    go_enter Try.func32, Try.ntmps32
    go_wp2
    go_ret
    first | exact ⟨ret_int hz, rfl⟩ | exact ⟨ret_int hz.symm, rfl⟩ | exact ⟨rfl, rfl⟩

set_option maxHeartbeats 400000 in
theorem signed_any (n : Int) (w : World) (h1 : -9223372036854775808 ≤ n) (h2 : n ≤ 9223372036854775807) :
    Calls Try.prog 41 #[.int .i64 n] w fun e w' => e = .returned (.int .u64 (zz n : Int)) ∧ w' = w := by
  by_cases h : 0 ≤ n
  · have hz : (zz n : Int) = 2 * n := by unfold zz; rw [if_pos h]; omega
    go_enter Try.func41, Try.ntmps41
    go_wp2
    go_ret
    first | exact ⟨ret_int hz, rfl⟩ | exact ⟨ret_int hz.symm, rfl⟩ | exact ⟨rfl, rfl⟩
  · have hz : (zz n : Int) = 2 * -(n + 1) + 1 := by unfold zz; rw [if_neg h]; omega
    go_enter Try.func41, Try.ntmps41
    go_wp2
    go_ret
    first | exact ⟨ret_int hz, rfl⟩ | exact ⟨ret_int hz.symm, rfl⟩ | exact ⟨rfl, rfl⟩

theorem and_one (n : Nat) (h : n < 18446744073709551616) : bits .and .u64 (n : Int) 1 = ((n % 2 : Nat) : Int) := by
  have := u64_and_nat n 1 h (by decide)
  rw [nat_mask1] at this
  exact this
theorem xor_i64 (a : Nat) (h : a < 9223372036854775808) (b : Int) (hb : b = 0 ∨ b = -1) : bits .xor .i64 (a : Int) b = if b = 0 then (a : Int) else -(a : Int) - 1 := by
  have ha := ofInt_u64 a (by omega)
  rcases hb with rfl | rfl
  · show IntKind.i64.wrap ((BitVec.ofInt 64 (a : Int) ^^^ BitVec.ofInt 64 0).toNat : Int) = _
    rw [BitVec.toNat_xor, ha]
    have e0 : (BitVec.ofInt 64 0).toNat = 0 := by decide
    rw [e0, Nat.xor_zero, IntKind.wrap_i64, if_pos rfl]
    omega
  · show IntKind.i64.wrap ((BitVec.ofInt 64 (a : Int) ^^^ BitVec.ofInt 64 (-1)).toNat : Int) = _
    rw [BitVec.toNat_xor, ha]
    have e0 : (BitVec.ofInt 64 (-1)).toNat = 2 ^ 64 - 1 := by decide
    rw [e0, xor_ones (by omega), IntKind.wrap_i64, if_neg (by decide)]
    omega

set_option maxHeartbeats 400000 in
theorem withSign_any (n : Nat) (w : World) (h : n < 18446744073709551616) :
    Calls Try.prog 44 #[.int .u64 (n : Int)] w fun e w' => e = .returned (.int .i64 (unzz n)) ∧ w' = w := by
  have ha := and_one n h
  have hz : bits .xor .i64 ((n : Int) / 2) (wrap64 (-wrap64 (bits .and .u64 (n : Int) 1))) = unzz n := by
    rw [ha]
    have e1 : ((n : Int) / 2) = ((n / 2 : Nat) : Int) := by omega
    have e2 : wrap64 (-wrap64 ((n % 2 : Nat) : Int)) = -((n % 2 : Nat) : Int) := by unfold wrap64; omega
    rw [e1, e2, xor_i64 _ (by omega) _ (by omega)]
    unfold unzz
    by_cases h2 : n % 2 = 0
    · rw [if_pos (by omega), if_pos h2]
    · rw [if_neg (by omega), if_neg h2]
  clear ha
  go_enter Try.func44, Try.ntmps44
  go_wp2
  go_ret
  first | exact ⟨ret_int hz, rfl⟩ | exact ⟨ret_int hz.symm, rfl⟩ | exact ⟨rfl, rfl⟩

/-- How many bytes a value has, kind by kind. -/
theorem bytesW_0 (n : Int) (s : ByteArray) : (bytesW ⟨0, n, s⟩).length = 1 := by simp [bytesW, bodyW]
theorem bytesW_1 (n : Int) (s : ByteArray) : (bytesW ⟨1, n, s⟩).length = 2 := by simp [bytesW, bodyW]
theorem bytesW_2 (n : Int) (s : ByteArray) : (bytesW ⟨2, n, s⟩).length = 1 + (uv (zz n)).length := by simp [bytesW, bodyW]; omega
theorem bytesW_34 (k n : Int) (s : ByteArray) (hk : k = 3 ∨ k = 4) : (bytesW ⟨k, n, s⟩).length = 1 + (uv s.size).length + s.size := by
  rcases hk with rfl | rfl <;> simp [bytesW, bodyW] <;> omega

set_option maxHeartbeats 1000000 in
theorem vsize_0 (n : Int) (s : ByteArray) (w : World) :
    Calls Try.prog 23 #[.agg #[.int .i64 0, .int .i64 n, .string s]] w fun e w' => e = .returned (.int .i64 1) ∧ Below w.heap.size w w' := by
  go_enter Try.func23, Try.ntmps23
  go_wp2
  go_ret
  exact ⟨rfl, by go_grown⟩
set_option maxHeartbeats 1000000 in
theorem vsize_1 (n : Int) (s : ByteArray) (w : World) :
    Calls Try.prog 23 #[.agg #[.int .i64 1, .int .i64 n, .string s]] w fun e w' => e = .returned (.int .i64 2) ∧ Below w.heap.size w w' := by
  go_enter Try.func23, Try.ntmps23
  go_wp2
  go_ret
  exact ⟨rfl, by go_grown⟩
set_option maxHeartbeats 1000000 in
theorem vsize_2 (n : Int) (s : ByteArray) (w : World) (h1 : -9223372036854775808 ≤ n) (h2 : n ≤ 9223372036854775807) :
    Calls Try.prog 23 #[.agg #[.int .i64 2, .int .i64 n, .string s]] w fun e w' => e = .returned (.int .i64 (1 + (uv (zz n)).length : Int)) ∧ Below w.heap.size w w' := by
  have hz := zz_lt h1 h2
  have hl := uv_len10 hz
  have A1 := fun w => withoutSign_any n w h1 h2
  have A2 := fun w => numSize_any (zz n) w hz
  generalize (uv (zz n)).length = m at *
  generalize zz n = z at *
  clear h1 h2 hz
  go_enter Try.func23, Try.ntmps23
  go_wp2_with (first
    | (go_at_call 32; with_reducible refine (A1 _).mono ?_; rintro e w2 ⟨rfl, hw⟩; subst hw)
    | (go_at_call 21; with_reducible refine (A2 _).mono ?_; rintro e w2 ⟨rfl, hw⟩; subst hw)
    | fail)
  go_ret
  exact ⟨rfl, by go_grown⟩
set_option maxHeartbeats 1000000 in
theorem vsize_34 (k n : Int) (s : ByteArray) (w : World) (hk : k = 3 ∨ k = 4) (hs : s.size ≤ 140737488351232) :
    Calls Try.prog 23 #[.agg #[.int .i64 k, .int .i64 n, .string s]] w fun e w' => e = .returned (.int .i64 (1 + (uv s.size).length + s.size : Int)) ∧ Below w.heap.size w w' := by
  have hl := uv_len10 (n := s.size) (by omega)
  have CN : Hid (∀ (w : World) (d : Nat) (os : Array Obj), Calls Try.prog 21 #[.int .u64 (s.size : Int)] (grow (redrawn w d) os) fun e w'' => e = .returned (.int .i64 ((uv s.size).length : Int)) ∧ ∃ p : Regrown, w'' = grow (redrawn w p.d) p.os) :=
    fun w d os => Calls.regrown_of ((numSize_any s.size _ (by omega)).mono fun e w' h => ⟨h.1, by rw [h.2]; exact Below.refl _ _⟩)
  generalize (uv s.size).length = m at *
  have x2 := fun (w : World) => cell_regrown (w := w.alloc (.cells #[.int .i64 k, .int .i64 n, .string s] 38)) (a := ⟨w.heap.size, 2, none⟩) (v := .string s) (by go_simp)
  rcases hk with rfl | rfl
  all_goals
    go_enter Try.func23, Try.ntmps23
    go_wp2
    refine wp_region_quiet_below (by kernel_rfl) (by kernel_rfl) ?_
    repeat (first | go_big_quiet_step (exact CN.out _ _ _) | quiet_step (exact CN.out _ _ _))
    refine wpQuiet_nil ?_
    intro _ hw'
    obtain ⟨⟨dq, osq⟩, hw''⟩ := hw'
    subst hw''
    go_wp2
    go_ret
    exact ⟨rfl, (show Below w.heap.size w (w.alloc _) by go_grown).trans ((below_regrown _ dq osq).mono (by simp))⟩
end Go.Proofs.Ytaoeonbhlpnjiaa
