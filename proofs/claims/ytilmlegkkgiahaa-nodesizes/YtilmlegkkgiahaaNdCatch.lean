/- What read of package node does over Decode's own work, and Decode: the node that a load is, or the error. Condition: the bytes lie within the reach. -/
import Derived.Test.YtilmlegkkgiahaaNdOpn
import Derived.Defers
import Derived.Recover
import Derived.Laws.Pointers
namespace Go.Proofs.Ytilmlegkkgiahaa
open Go.RowKit Go.Lib Go.Sort
set_option linter.unusedVariables false
set_option maxRecDepth 20000

theorem assert_errno (v : Value) (w : World) : (Instr.typeAssert (.iface 32 v) 20 32 false).run Try.prog w = .ok v w := by kernel_rfl
theorem ncatch_idle (p : Addr) (w : World) :
    CallsD Try.prog 53 #[.pointer (some p)] .returning w fun e u' w' => e = .returned (.tuple #[]) ∧ u' = .returning ∧ w' = w := by
  refine callsD_of_wpS Try.func53 rfl fun c₀ cs hu => ?_
  apply wpS_seq
  apply wpS_region
  simp [wpOpsS, go_sem, recoverD, hu, Try.ntmps53, Exit.thenS]
  refine wpS_of_wp ?_
  change Code.wp _ _ _ { tmps := #[.pointer (some p), .nilIface, .nilIface, undef, undef, undef, undef], defers := [] } w
  go_wp2
  cases c₀
  simp_all [bodyPostS, results, Try.results53]
theorem ncatch_panicking (b : Nat) (n : Int) (v : Value) (w : World) (c0 : w.cell? ⟨b, 0, none⟩ = some v) (f0 : w.frozen? ⟨b, 0, none⟩ = false) :
    CallsD Try.prog 53 #[.pointer (some ⟨b, 0, none⟩)] (.panicking (thr n)) w fun e u' w' =>
      e = .returned (.tuple #[]) ∧ u' = .panicking [{ v := .iface 32 (.int .i64 n), recovered := true }] ∧ w' = w.setCell ⟨b, 0, none⟩ (.int .i64 n) := by
  refine callsD_of_wpS Try.func53 rfl fun c₀ cs hu => ?_
  apply wpS_seq
  apply wpS_region
  unfold thr at hu
  simp [wpOpsS, go_sem, recoverD, hu, Try.ntmps53, Exit.thenS]
  refine wpS_of_wp ?_
  change Code.wp _ _ _ { tmps := #[.pointer (some ⟨b, 0, none⟩), .iface 32 (.int .i64 n), .iface 32 (.int .i64 n), undef, undef, undef, undef], defers := [] } w
  have hta := assert_errno
  go_wp2
  all_goals
    show bodyPostS _ _ _ _ _ Exit.normal _ _ _
    simp [bodyPostS, results, Try.results53]
theorem pcatch_idle (p : Addr) (w : World) :
    CallsD Try.prog 60 #[.pointer (some p)] .returning w fun e u' w' => e = .returned (.tuple #[]) ∧ u' = .returning ∧ w' = w := by
  refine callsD_of_wpS Try.func60 rfl fun c₀ cs hu => ?_
  apply wpS_seq
  apply wpS_region
  simp [wpOpsS, go_sem, recoverD, hu, Try.ntmps60, Exit.thenS]
  refine wpS_of_wp ?_
  change Code.wp _ _ _ { tmps := #[.pointer (some p), .nilIface, .nilIface, undef, undef, undef, undef], defers := [] } w
  go_wp2
  cases c₀
  simp_all [bodyPostS, results, Try.results60]
theorem pcatch_panicking (b : Nat) (n : Int) (v : Value) (w : World) (c0 : w.cell? ⟨b, 0, none⟩ = some v) (f0 : w.frozen? ⟨b, 0, none⟩ = false) :
    CallsD Try.prog 60 #[.pointer (some ⟨b, 0, none⟩)] (.panicking (thr n)) w fun e u' w' =>
      e = .returned (.tuple #[]) ∧ u' = .panicking [{ v := .iface 32 (.int .i64 n), recovered := true }] ∧ w' = w.setCell ⟨b, 0, none⟩ (.int .i64 n) := by
  refine callsD_of_wpS Try.func60 rfl fun c₀ cs hu => ?_
  apply wpS_seq
  apply wpS_region
  unfold thr at hu
  simp [wpOpsS, go_sem, recoverD, hu, Try.ntmps60, Exit.thenS]
  refine wpS_of_wp ?_
  change Code.wp _ _ _ { tmps := #[.pointer (some ⟨b, 0, none⟩), .iface 32 (.int .i64 n), .iface 32 (.int .i64 n), undef, undef, undef, undef], defers := [] } w
  have hta := assert_errno
  go_wp2
  all_goals
    show bodyPostS _ _ _ _ _ Exit.normal _ _ _
    simp [bodyPostS, results, Try.results60]
end Go.Proofs.Ytilmlegkkgiahaa
