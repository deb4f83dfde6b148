/- More on variables that hold a value, for regions that draw their order. No conditions. -/
import Derived.Test.YtonikoijelhojaaBoxMore
import Derived.Deep.CutRange
import Derived.Deep.RegionHeld3
namespace Go.Proofs.Ytonikoijelhojaa
open Go.RowKit Go.Lib Go.Sort
set_option linter.unusedVariables false

theorem below_two {b : Nat} {w wn wm : World} {o1 o2 : Obj} (B : Below b w wn) (h : b ≤ wn.heap.size) (bn : Below ((wn.alloc o1).alloc o2).heap.size ((wn.alloc o1).alloc o2) wm) : Below b w wm :=
  ((B.alloc h o1).alloc (Nat.le_trans h (by simp)) o2).trans (bn.mono (by simp; omega))
theorem box_after (w : World) (o : Obj) (k n : Int) (s : ByteArray) (t : TypeId) : Box ((w.alloc o).alloc (.cells #[.int .i64 k, .int .i64 n, .string s] t)) (w.heap.size + 1) ⟨k, n, s⟩ := Box.at (by simp) k n s t
theorem Box.three {w : World} {b : Nat} {k n : Int} {s : ByteArray} (h : Box w b ⟨k, n, s⟩) : w.cell? ⟨b, 0, none⟩ = some (.int .i64 k) ∧ w.cell? ⟨b, 1, none⟩ = some (.int .i64 n) ∧ w.cell? ⟨b, 2, none⟩ = some (.string s) := ⟨h.1, h.2.1, h.2.2.1⟩
theorem ne_up {a b : Nat} (h : a < b) : b + 1 ≠ a := by omega
theorem ne_lo {a b : Nat} (h : a < b) : b ≠ a := by omega
theorem le_up {a b : Nat} (h : a ≤ b) : a ≤ b + 1 := by omega
end Go.Proofs.Ytonikoijelhojaa
