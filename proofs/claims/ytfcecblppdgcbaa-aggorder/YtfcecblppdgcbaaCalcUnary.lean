/- What calc.Unary answers. Condition: the number is within the numbers. -/
import Derived.Test.YtfcecblppdgcbaaCalcLogic
import Derived.Test.YtfcecblppdgcbaaCalcCaught
namespace Go.Proofs.Ytfcecblppdgcbaa
open Go.RowKit Go.Lib Go.Sort
set_option linter.unusedVariables false
set_option maxRecDepth 20000

theorem endA_out {k n er : Int} {s : ByteArray} {e : Ending} (h : endA ⟨⟨k, n, s⟩, er⟩ e) :
    e = .returned (.tuple #[.agg #[.int .i64 k, .int .i64 n, .string s], .int .i64 er]) ∨ (e = .panicked thrown ∧ (⟨k, n, s⟩ : Val) = nullV ∧ er = 40) := h

theorem Ans.out_eq (x : Ans) : x.out = .tuple #[.agg #[.int .i64 x.v.k, .int .i64 x.v.n, .string x.v.s], .int .i64 x.e] := rfl

end Go.Proofs.Ytfcecblppdgcbaa
