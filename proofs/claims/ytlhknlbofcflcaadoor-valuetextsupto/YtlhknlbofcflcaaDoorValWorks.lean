/- The probe that stands ahead of the laws answers true. Condition: the library's table lies in memory as its text lays it. -/
import Derived.Test.YtlhknlbofcflcaaDoorValLit
namespace Go.Proofs.YtlhknlbofcflcaaDoor
open Go.RowKit Go.Lib Go.Sort
set_option linter.unusedVariables false

set_option maxHeartbeats 400000 in
theorem works_any (w : World) (hw : Ready w) :
    Calls Tryd.prog 14 #[] w fun e w' => e = .returned (.bool true) ∧ Below w.heap.size w w' := by
  have C1 : Hid (∀ w, Calls Tryd.prog 15 #[.agg #[.int .i64 0, .int .i64 0, .string ⟨#[]⟩], .agg #[.int .i64 1, .int .i64 0, .string ⟨#[]⟩]] w fun e w' => e = .returned (.int .i64 (-1)) ∧ Below w.heap.size w w') :=
    fun w => compare_any ⟨0, 0, ⟨#[]⟩⟩ ⟨1, 0, ⟨#[]⟩⟩ w
  have C2 : Hid (∀ w, Ready w → Calls Tryd.prog 10 #[.agg #[.int .i64 3, .int .i64 0, .string ⟨#[105, 116, 39, 115]⟩]] w fun e w' => e = .returned (.string ⟨#[39, 105, 116, 39, 39, 115, 39]⟩) ∧ Below w.heap.size w w') :=
    fun w hw => literal_any ⟨3, 0, ⟨#[105, 116, 39, 115]⟩⟩ w hw (by decide) (by decide) (by decide)
  have C3 : Hid (∀ w, Ready w → Calls Tryd.prog 10 #[.agg #[.int .i64 4, .int .i64 0, .string ⟨#[10, 255]⟩]] w fun e w' => e = .returned (.string ⟨#[88, 39, 48, 65, 70, 70, 39]⟩) ∧ Below w.heap.size w w') :=
    fun w hw => literal_any ⟨4, 0, ⟨#[10, 255]⟩⟩ w hw (by decide) (by decide) (by decide)
  have C4 : Hid (∀ w, Calls Tryd.prog 8 #[.agg #[.int .i64 9, .int .i64 0, .string ⟨#[]⟩]] w fun e w' => e = .returned (.int .i64 5) ∧ Below w.heap.size w w') :=
    fun w => check_any ⟨9, 0, ⟨#[]⟩⟩ w
  have HW : Hid (Ready w) := hw
  clear hw
  go_enter Tryd.func14, Tryd.ntmps14
  go_wp2_with (go_at_call 15; refine (C1.out _).mono ?_; rintro e w1 ⟨rfl, B1⟩)
  refine (C2.out _ (HW.out.below B1)).mono ?_
  rintro e w2 ⟨rfl, b2⟩
  have B2 : Below w.heap.size w w2 := B1.trans (b2.mono B1.size)
  clear b2
  go_wp2_with fail
  refine (C3.out _ (HW.out.below B2)).mono ?_
  rintro e w3 ⟨rfl, b3⟩
  have B3 : Below w.heap.size w w3 := B2.trans (b3.mono B2.size)
  clear b3
  go_wp2_with fail
  refine (C4.out _).mono ?_
  rintro e w4 ⟨rfl, b4⟩
  have B4 : Below w.heap.size w w4 := B3.trans (b4.mono B3.size)
  clear b4
  go_wp2
  go_ret
  exact ⟨rfl, B4⟩
end Go.Proofs.YtlhknlbofcflcaaDoor
