/- What cmp.Compare, strings.Compare and value.Compare answer, whatever the input. No conditions but that strings are Go's. -/
import Derived.Test.YtbaemjibaeeglaaGreatDoorChecked
import Derived.Test.YtbaemjibaeeglaaGreatDoorValPlain
import Derived.WalkKit
import Derived.Handy
import Derived.Lib.Bytealg
namespace Go.Proofs.YtbaemjibaeeglaaGreatDoor
open Go.RowKit Go.Lib

end Go.Proofs.YtbaemjibaeeglaaGreatDoor
