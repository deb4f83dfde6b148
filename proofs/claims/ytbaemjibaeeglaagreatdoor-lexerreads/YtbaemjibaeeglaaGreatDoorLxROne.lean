/- What the document's one answers, all cases. Condition: the text lies within the reach. -/
import Derived.Test.YtbaemjibaeeglaaGreatDoorLxROneBlob
import Derived.Test.YtbaemjibaeeglaaGreatDoorLxROneQuo
import Derived.Test.YtbaemjibaeeglaaGreatDoorLxROneSymb
import Derived.Test.YtbaemjibaeeglaaGreatDoorLxROneWord
import Derived.Test.YtbaemjibaeeglaaGreatDoorLxROneNum
namespace Go.Proofs.YtbaemjibaeeglaaGreatDoor
open Go.RowKit Go.Lib Go.Sort
theorem rone_any (s : ByteArray) (p : Nat) (w : World) (hp : p < s.size) (hs : s.size ≤ 140737488351232) :
    Calls Tryz.prog 17 #[.string s, .int .i64 p] w (oneEnd (first1 (s.data.toList.drop p)) p w) := by
  cases hX : isX (s.data.toList.drop p) with
  | true => exact rone_blob s p w hp hs hX
  | false =>
    cases h1 : ltr (s[p].toNat : Int) with
    | true => exact rone_ltr s p w hp hs hX h1
    | false =>
      cases h2 : dig (s[p].toNat : Int) with
      | true => exact rone_dig s p w hp hs h2
      | false =>
        cases h3 : (((s[p].toNat : Nat) : Int) == 39) with
        | true => exact rone_quo s p w hp hs h3
        | false => exact rone_sym s p w hp hs hX h1 h2 h3
end Go.Proofs.YtbaemjibaeeglaaGreatDoor
