/- What the document's own Check answers: the same as value.Check. No conditions. -/
import Derived.Test.YtfcecblppdgcbaaValCheck
namespace Go.Proofs.Ytfcecblppdgcbaa
open Go.RowKit Go.Lib Go.Sort
set_option linter.unusedVariables false
set_option maxRecDepth 20000

set_option maxHeartbeats 1000000 in
theorem refCheck_out (a : Val) (w : World) (hk : a.k < 0 ∨ 4 < a.k) :
    Calls Try.prog 20 #[a.v] w fun e w' => e = .returned (.int .i64 (checkV a)) ∧ Below w.heap.size w w' := by
  rw [checkV_out hk]
  obtain ⟨k, n, s⟩ := a
  unfold Val.v
  simp only [] at hk
  rcases hk with hk | hk
  all_goals
    go_enter Try.func20, Try.ntmps20
    go_wp2
    go_ret
    exact ⟨rfl, by go_grown⟩

set_option maxHeartbeats 1000000 in
theorem refCheck_0ok (w : World) :
    Calls Try.prog 20 #[.agg #[.int .i64 0, .int .i64 0, .string ⟨⟨[]⟩⟩]] w fun e w' => e = .returned (.int .i64 0) ∧ Below w.heap.size w w' := by
  go_enter Try.func20, Try.ntmps20
  go_wp2
  go_ret
  exact ⟨rfl, by go_grown⟩

set_option maxHeartbeats 1000000 in
theorem refCheck_0s (c : UInt8) (l : List UInt8) (w : World) :
    Calls Try.prog 20 #[.agg #[.int .i64 0, .int .i64 0, .string ⟨⟨c :: l⟩⟩]] w fun e w' => e = .returned (.int .i64 3) ∧ Below w.heap.size w w' := by
  go_enter Try.func20, Try.ntmps20
  go_wp2
  go_ret
  exact ⟨rfl, by go_grown⟩

set_option maxHeartbeats 1000000 in
theorem refCheck_0n (n : Int) (s : ByteArray) (w : World) (hn : (n == 0) = false) :
    Calls Try.prog 20 #[.agg #[.int .i64 0, .int .i64 n, .string s]] w fun e w' => e = .returned (.int .i64 3) ∧ Below w.heap.size w w' := by
  go_enter Try.func20, Try.ntmps20
  go_wp2
  go_ret
  exact ⟨rfl, by go_grown⟩

set_option maxHeartbeats 1000000 in
theorem refCheck_1ok0 (w : World) :
    Calls Try.prog 20 #[.agg #[.int .i64 1, .int .i64 0, .string ⟨⟨[]⟩⟩]] w fun e w' => e = .returned (.int .i64 0) ∧ Below w.heap.size w w' := by
  go_enter Try.func20, Try.ntmps20
  go_wp2
  go_ret
  exact ⟨rfl, by go_grown⟩

set_option maxHeartbeats 1000000 in
theorem refCheck_1ok1 (w : World) :
    Calls Try.prog 20 #[.agg #[.int .i64 1, .int .i64 1, .string ⟨⟨[]⟩⟩]] w fun e w' => e = .returned (.int .i64 0) ∧ Below w.heap.size w w' := by
  go_enter Try.func20, Try.ntmps20
  go_wp2
  go_ret
  exact ⟨rfl, by go_grown⟩

set_option maxHeartbeats 1000000 in
theorem refCheck_1s (c : UInt8) (l : List UInt8) (n : Int) (w : World) :
    Calls Try.prog 20 #[.agg #[.int .i64 1, .int .i64 n, .string ⟨⟨c :: l⟩⟩]] w fun e w' => e = .returned (.int .i64 3) ∧ Below w.heap.size w w' := by
  go_enter Try.func20, Try.ntmps20
  go_wp2
  go_ret
  exact ⟨rfl, by go_grown⟩

set_option maxHeartbeats 1000000 in
theorem refCheck_1n (n : Int) (w : World) (hn : (n != 0) = true) (hn1 : (n != 1) = true) :
    Calls Try.prog 20 #[.agg #[.int .i64 1, .int .i64 n, .string ⟨⟨[]⟩⟩]] w fun e w' => e = .returned (.int .i64 3) ∧ Below w.heap.size w w' := by
  go_enter Try.func20, Try.ntmps20
  go_wp2
  go_ret
  exact ⟨rfl, by go_grown⟩

set_option maxHeartbeats 1000000 in
theorem refCheck_2ok (n : Int) (w : World) :
    Calls Try.prog 20 #[.agg #[.int .i64 2, .int .i64 n, .string ⟨⟨[]⟩⟩]] w fun e w' => e = .returned (.int .i64 0) ∧ Below w.heap.size w w' := by
  go_enter Try.func20, Try.ntmps20
  go_wp2
  go_ret
  exact ⟨rfl, by go_grown⟩

set_option maxHeartbeats 1000000 in
theorem refCheck_2s (c : UInt8) (l : List UInt8) (n : Int) (w : World) :
    Calls Try.prog 20 #[.agg #[.int .i64 2, .int .i64 n, .string ⟨⟨c :: l⟩⟩]] w fun e w' => e = .returned (.int .i64 3) ∧ Below w.heap.size w w' := by
  go_enter Try.func20, Try.ntmps20
  go_wp2
  go_ret
  exact ⟨rfl, by go_grown⟩

set_option maxHeartbeats 1000000 in
theorem refCheck_3ok (s : ByteArray) (w : World) :
    Calls Try.prog 20 #[.agg #[.int .i64 3, .int .i64 0, .string s]] w fun e w' => e = .returned (.int .i64 0) ∧ Below w.heap.size w w' := by
  go_enter Try.func20, Try.ntmps20
  go_wp2
  go_ret
  exact ⟨rfl, by go_grown⟩

set_option maxHeartbeats 1000000 in
theorem refCheck_3n (n : Int) (s : ByteArray) (w : World) (hn : (n != 0) = true) :
    Calls Try.prog 20 #[.agg #[.int .i64 3, .int .i64 n, .string s]] w fun e w' => e = .returned (.int .i64 3) ∧ Below w.heap.size w w' := by
  go_enter Try.func20, Try.ntmps20
  go_wp2
  go_ret
  exact ⟨rfl, by go_grown⟩

set_option maxHeartbeats 1000000 in
theorem refCheck_4ok (s : ByteArray) (w : World) :
    Calls Try.prog 20 #[.agg #[.int .i64 4, .int .i64 0, .string s]] w fun e w' => e = .returned (.int .i64 0) ∧ Below w.heap.size w w' := by
  go_enter Try.func20, Try.ntmps20
  go_wp2
  go_ret
  exact ⟨rfl, by go_grown⟩

set_option maxHeartbeats 1000000 in
theorem refCheck_4n (n : Int) (s : ByteArray) (w : World) (hn : (n != 0) = true) :
    Calls Try.prog 20 #[.agg #[.int .i64 4, .int .i64 n, .string s]] w fun e w' => e = .returned (.int .i64 3) ∧ Below w.heap.size w w' := by
  go_enter Try.func20, Try.ntmps20
  go_wp2
  go_ret
  exact ⟨rfl, by go_grown⟩

theorem refCheck_any (a : Val) (w : World) :
    Calls Try.prog 20 #[a.v] w fun e w' => e = .returned (.int .i64 (checkV a)) ∧ Below w.heap.size w w' := by
  by_cases hk : a.k < 0 ∨ 4 < a.k
  · exact refCheck_out a w hk
  · have hf := fun b => checkV_in hk b
    obtain ⟨k, n, ⟨⟨l⟩⟩⟩ := a
    simp only [] at hk
    have hk5 : k = 0 ∨ k = 1 ∨ k = 2 ∨ k = 3 ∨ k = 4 := by omega
    clear hk
    unfold Val.v
    simp only []
    rcases hk5 with rfl | rfl | rfl | rfl | rfl
    · by_cases hn : n = 0
      · subst hn
        cases l with
        | nil => rw [hf true rfl]; exact refCheck_0ok w
        | cons c l => rw [hf false rfl]; exact refCheck_0s c l w
      · rw [hf false (by simp [Val.right, hn])]; exact refCheck_0n n _ w (beq_eq_false_iff_ne.2 hn)
    · cases l with
      | nil =>
        by_cases hn : n = 0
        · subst hn; rw [hf true rfl]; exact refCheck_1ok0 w
        · by_cases hn1 : n = 1
          · subst hn1; rw [hf true rfl]; exact refCheck_1ok1 w
          · rw [hf false (by simp [Val.right, hn, hn1])]; exact refCheck_1n n w (bne_iff_ne.2 hn) (bne_iff_ne.2 hn1)
      | cons c l => rw [hf false (by simp [Val.right])]; exact refCheck_1s c l n w
    · cases l with
      | nil => rw [hf true (by simp [Val.right])]; exact refCheck_2ok n w
      | cons c l => rw [hf false (by simp [Val.right])]; exact refCheck_2s c l n w
    · by_cases hn : n = 0
      · subst hn; rw [hf true (by simp [Val.right])]; exact refCheck_3ok _ w
      · rw [hf false (by simp [Val.right, hn])]; exact refCheck_3n n _ w (bne_iff_ne.2 hn)
    · by_cases hn : n = 0
      · subst hn; rw [hf true (by simp [Val.right])]; exact refCheck_4ok _ w
      · rw [hf false (by simp [Val.right, hn])]; exact refCheck_4n n _ w (bne_iff_ne.2 hn)
end Go.Proofs.Ytfcecblppdgcbaa
