/- More on variables that hold a value: behind a draw, behind a store. No conditions. -/
import Derived.Test.YtfcecblppdgcbaaCalcParts
namespace Go.Proofs.Ytfcecblppdgcbaa
open Go.RowKit Go.Lib Go.Sort
set_option linter.unusedVariables false
set_option maxRecDepth 20000

theorem Box.drew {w : World} {b : Nat} {a : Val} (h : Box w b a) : Box w.drew b a := h.below ((Below.refl _ _).drew)
theorem Box.put {w : World} {b : Nat} {z : Val} (h : Box w b z) (k n : Int) (s : ByteArray) : Box (((w.setCell ⟨b, 0, none⟩ (.int .i64 k)).setCell ⟨b, 1, none⟩ (.int .i64 n)).setCell ⟨b, 2, none⟩ (.string s)) b ⟨k, n, s⟩ := by
  obtain ⟨c0, c1, c2, f0, f1, f2⟩ := h
  unfold Box
  refine ⟨?_, ?_, ?_, ?_, ?_, ?_⟩ <;> simp [go_sem, c0, c1, c2, f0, f1, f2]
theorem Box.put3 {w : World} {b d : Nat} {a : Val} (h : Box w b a) (hne : d ≠ b) (x y z : Value) : Box (((w.setCell ⟨d, 0, none⟩ x).setCell ⟨d, 1, none⟩ y).setCell ⟨d, 2, none⟩ z) b a :=
  ((h.set (p := ⟨d, 0, none⟩) hne x).set (p := ⟨d, 1, none⟩) hne y).set (p := ⟨d, 2, none⟩) hne z
theorem below_put3 {B d : Nat} {a w : World} (h : Below B a w) (hd : B ≤ d) (x y z : Value) : Below B a (((w.setCell ⟨d, 0, none⟩ x).setCell ⟨d, 1, none⟩ y).setCell ⟨d, 2, none⟩ z) :=
  ((h.setCell (p := ⟨d, 0, none⟩) hd x).setCell (p := ⟨d, 1, none⟩) hd y).setCell (p := ⟨d, 2, none⟩) hd z
theorem below_newd {w w1 : World} {o : Obj} (h : Below (w.alloc o).drew.heap.size (w.alloc o).drew w1) : Below w.heap.size w w1 :=
  ((Below.refl _ _).alloc (Nat.le_refl _) o).drew.trans (h.mono (by simp))
end Go.Proofs.Ytfcecblppdgcbaa
