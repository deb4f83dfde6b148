/- What cmp.Compare, strings.Compare and value.Compare answer, whatever the input. No conditions but that strings are Go's. -/
import Derived.Test.YtblkhlhhlalbkaaGreatDoorChecked
import Derived.Test.YtblkhlhhlalbkaaGreatDoorVA
import Derived.WalkKit
import Derived.Handy
import Derived.Lib.Bytealg
namespace Go.Proofs.YtblkhlhhlalbkaaGreatDoor
open Go.RowKit Go.Lib

set_option maxHeartbeats 400000 in
theorem cmpInt_any (a b : Int) (w : World) :
    Calls Tryz.prog 161 #[.int .i64 a, .int .i64 b] w fun e w' => e = .returned (.int .i64 (cmpI a b)) ∧ w' = w := by
  by_cases h1 : a < b
  · go_enter Tryz.func161, Tryz.ntmps161
    go_wp2
    go_ret
    exact ⟨ret_int (cmpI_lt h1).symm, rfl⟩
  · by_cases h2 : b < a
    · go_enter Tryz.func161, Tryz.ntmps161
      go_wp2
      go_ret
      exact ⟨ret_int (cmpI_gt h2).symm, rfl⟩
    · go_enter Tryz.func161, Tryz.ntmps161
      go_wp2
      go_ret
      exact ⟨ret_int (cmpI_eq (by omega)).symm, rfl⟩

set_option maxHeartbeats 400000 in
theorem cmpInt64_any (a b : Int) (w : World) :
    Calls Tryz.prog 162 #[.int .i64 a, .int .i64 b] w fun e w' => e = .returned (.int .i64 (cmpI a b)) ∧ w' = w := by
  by_cases h1 : a < b
  · go_enter Tryz.func162, Tryz.ntmps162
    go_wp2
    go_ret
    exact ⟨ret_int (cmpI_lt h1).symm, rfl⟩
  · by_cases h2 : b < a
    · go_enter Tryz.func162, Tryz.ntmps162
      go_wp2
      go_ret
      exact ⟨ret_int (cmpI_gt h2).symm, rfl⟩
    · go_enter Tryz.func162, Tryz.ntmps162
      go_wp2
      go_ret
      exact ⟨ret_int (cmpI_eq (by omega)).symm, rfl⟩

set_option maxHeartbeats 400000 in
theorem cmpStr_any (a b : ByteArray) (w : World) :
    Calls Tryz.prog 163 #[.string a, .string b] w fun e w' => e = .returned (.int .i64 (compareBytes a.data.toList b.data.toList)) ∧ w' = w := by
  have hx : ∀ w, (callFunc 210 #[.string a, .string b]).run Tryz.prog w = .ok (.value (.int .i64 (compareBytes a.data.toList b.data.toList))) w := by
    intro w
    rw [run_callFunc_extern (e := Extern.BytealgCompare.compare) Tryz.func210 (by kernel_rfl) (by kernel_rfl) (by kernel_rfl) (by kernel_rfl), run_compareString]
    rfl
  go_enter Tryz.func163, Tryz.ntmps163
  go_wp2
  go_ret
  exact ⟨rfl, rfl⟩

set_option maxHeartbeats 400000 in
theorem compare_any (a b : Val) (w : World) :
    Calls Tryz.prog 115 #[a.v, b.v] w fun e w' => e = .returned (.int .i64 (cmpV a b)) ∧ Below w.heap.size w w' := by
  obtain ⟨k1, n1, s1⟩ := a
  obtain ⟨k2, n2, s2⟩ := b
  unfold Val.v
  by_cases hk : k1 = k2
  · subst hk
    by_cases h12 : k1 = 1 ∨ k1 = 2
    · have hf : cmpV ⟨k1, n1, s1⟩ ⟨k1, n2, s2⟩ = cmpI n1 n2 := cmpV_num rfl h12
      rw [hf]
      clear hf
      rcases h12 with rfl | rfl
      all_goals
        go_enter Tryz.func115, Tryz.ntmps115
        go_wp2_with (go_at_call 162; refine (cmpInt64_any _ _ _).mono ?_; rintro e w' ⟨rfl, rfl⟩)
        go_ret
        exact ⟨rfl, by go_grown⟩
    · by_cases h34 : k1 = 3 ∨ k1 = 4
      · have hf : cmpV ⟨k1, n1, s1⟩ ⟨k1, n2, s2⟩ = compareBytes s1.data.toList s2.data.toList := cmpV_text rfl h34
        rw [hf]
        clear hf h12
        rcases h34 with rfl | rfl
        all_goals
          go_enter Tryz.func115, Tryz.ntmps115
          go_wp2_with (go_at_call 163; refine (cmpStr_any _ _ _).mono ?_; rintro e w' ⟨rfl, rfl⟩)
          go_ret
          exact ⟨rfl, by go_grown⟩
      · have hf : cmpV ⟨k1, n1, s1⟩ ⟨k1, n2, s2⟩ = 0 := cmpV_none rfl (by simp only []; omega) (by simp only []; omega) (by simp only []; omega) (by simp only []; omega)
        rw [hf]
        clear hf
        have e1 : (k1 == 1) = false := beq_eq_false_iff_ne.2 (by omega)
        have e2 : (k1 == 2) = false := beq_eq_false_iff_ne.2 (by omega)
        have e3 : (k1 == 3) = false := beq_eq_false_iff_ne.2 (by omega)
        have e4 : (k1 == 4) = false := beq_eq_false_iff_ne.2 (by omega)
        clear h12 h34
        go_enter Tryz.func115, Tryz.ntmps115
        go_wp2
        go_ret
        exact ⟨rfl, by go_grown⟩
  · have hf : cmpV ⟨k1, n1, s1⟩ ⟨k2, n2, s2⟩ = cmpI k1 k2 := cmpV_kind hk
    rw [hf]
    have e1 : (k1 != k2) = true := bne_iff_ne.2 hk
    clear hf hk
    go_enter Tryz.func115, Tryz.ntmps115
    go_wp2_with (go_at_call 161; refine (cmpInt_any _ _ _).mono ?_; rintro e w' ⟨rfl, rfl⟩)
    go_ret
    exact ⟨rfl, by go_grown⟩
end Go.Proofs.YtblkhlhhlalbkaaGreatDoor
