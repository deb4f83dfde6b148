/- What FreePlays does: whatever number of pages and acts it is called with, it answers true and leaves memory as it was. Condition: the numbers of each act lie within the reach. -/
import Derived.Test.YtehfbdhkicdfiaaFPlaysA
import Derived.Test.YtehfbdhkicdfiaaFPlaysB
namespace Go.Proofs.Ytehfbdhkicdfiaa
open Go.RowKit
set_option linter.unusedVariables false
set_option maxRecDepth 20000

set_option maxHeartbeats 1000000 in
theorem fplays_walk (pages : Int) (l : List Opz) (p : Option Addr) (c : Nat) (w : World) (hl : l.length ≤ maxLen) (hL : Ops7 w p l) (hK : ∀ x ∈ l, x.l.length * 8 ≤ 140737488351232) :
    Calls Try.prog 3 #[.int .i64 pages, .slice p l.length c] w fun e w' => e = .returned (.bool true) ∧ Below w.heap.size w w' := by
  by_cases h1 : pages ≤ 3000
  · exact fplays_a pages l p c w h1 hl hL hK
  · by_cases h2 : 4096 < pages
    · exact fplays_b pages l p c w (by omega) h2 hl hL hK
    · have h1' : 3000 < pages := by omega
      have h2' : pages ≤ 4096 := by omega
      clear hL hK
      go_enter Try.func3, Try.ntmps3
      go_wp2
      go_ret
      exact ⟨rfl, Below.refl _ _⟩
end Go.Proofs.Ytehfbdhkicdfiaa
