/- What literal of package expr does. Conditions: none. -/
import Derived.Test.YtekapdpfbkdflaaGreatDoorXG
namespace Go.Proofs.YtekapdpfbkdflaaGreatDoor
open Go.RowKit Go.Lib Go.Sort
set_option linter.unusedVariables false
set_option maxRecDepth 20000

/-- A literal's value; none: zeroes. -/
def litO : Option Val → Value
  | some v => .agg #[.int .i64 v.k, .int .i64 v.n, .string v.s]
  | none => .agg #[.int .i64 0, .int .i64 0, .string ⟨#[]⟩]
/-- The literal that a word is. -/
def lit1 (k : Int) (s : List UInt8) (n : Int) : Option Val :=
  if k = 2 then some ⟨2, n, ⟨#[]⟩⟩
  else if k = 3 then some ⟨3, 0, ⟨s.toArray⟩⟩
  else if k = 4 then some ⟨4, 0, ⟨s.toArray⟩⟩
  else if k = 1 then
    if s == [110, 117, 108, 108] then some v0
    else if s == [116, 114, 117, 101] then some ⟨1, 1, ⟨#[]⟩⟩
    else if s == [102, 97, 108, 115, 101] then some ⟨1, 0, ⟨#[]⟩⟩
    else none
  else none
set_option maxHeartbeats 8000000 in
theorem literal1 (k : Int) (s : List UInt8) (i n : Int) (w : World) :
    Calls Tryz.prog 65 #[.agg #[.int .i64 k, .string ⟨s.toArray⟩, .int .i64 i, .int .i64 n]] w fun e w' => e = .returned (.tuple #[litO (lit1 k s n), .bool (lit1 k s n).isSome]) ∧ Below w.heap.size w w' := by
  obtain ⟨R, HR⟩ : ∃ R, Hid (lit1 k s n = R) := ⟨_, rfl⟩
  rw [HR.out]
  go_enter Tryz.func65, Tryz.ntmps65
  go_wp2
  all_goals (refine bodyPost_ret (by simp [results, Tryz.results65, go_sem]; try rfl) rfl ?_)
  all_goals (refine ⟨?_, by go_grown⟩)
  all_goals (rw [← HR.out]; simp_all [lit1, litO, v0])
theorem literal_tok (l : Ts) (w : World) :
    Calls Tryz.prog 65 #[tokV l 0] w fun e w' => e = .returned (.tuple #[litO (litT l), .bool (litT l).isSome]) ∧ Below w.heap.size w w' := by
  cases l with
  | nil => exact literal1 0 [] 0 0 w
  | cons x r => exact literal1 x.1.k x.1.s x.2 x.1.n w
end Go.Proofs.YtekapdpfbkdflaaGreatDoor
