/- What value.Rows answers: the order of rows, place by place. Conditions: the slices' lengths are Go's. -/
import Derived.Test.YtpdfgifkommpdaaValWalks
import Derived.Deep.QuietTactic
import Derived.BigQuiet
import Derived.Lib.QuietBelow
namespace Go.Proofs.Ytpdfgifkommpdaa
open Go.RowKit Go.Lib Go.Sort
set_option linter.unusedVariables false

end Go.Proofs.Ytpdfgifkommpdaa
