/- What value.Check answers: 5 where the kind is none, 3 where a field is set that the kind does not name, else 0. No conditions. -/
import Derived.Test.YtfcecblppdgcbaaValWalks
import Derived.Deep.QuietTactic
import Derived.BigQuiet
import Derived.Lib.QuietBelow
namespace Go.Proofs.Ytfcecblppdgcbaa
open Go.RowKit Go.Lib Go.Sort
set_option linter.unusedVariables false
set_option maxRecDepth 20000

/-- The value with just the fields that its kind names. -/
def Val.named (a : Val) : Val :=
  if a.k = 1 ∨ a.k = 2 then ⟨a.k, a.n, ⟨#[]⟩⟩ else if a.k = 3 ∨ a.k = 4 then ⟨a.k, 0, a.s⟩ else ⟨a.k, 0, ⟨#[]⟩⟩

/-- Is it a right value (1.1)? -/
def Val.right (a : Val) : Bool :=
  (a.k == 0 && a.n == 0 && a.s.data.toList.isEmpty) || (a.k == 1 && (a.n == 0 || a.n == 1) && a.s.data.toList.isEmpty) || (a.k == 2 && a.s.data.toList.isEmpty) || ((a.k == 3 || a.k == 4) && a.n == 0)
def checkV (a : Val) : Int := if a.k < 0 ∨ 4 < a.k then 5 else if a.right then 0 else 3

theorem checkV_out {a : Val} (h : a.k < 0 ∨ 4 < a.k) : checkV a = 5 := if_pos h
theorem checkV_in {a : Val} (h : ¬ (a.k < 0 ∨ 4 < a.k)) (b : Bool) (hr : a.right = b) : checkV a = if b then 0 else 3 := by subst hr; exact if_neg h

end Go.Proofs.Ytfcecblppdgcbaa
