/-
  No cell of these rows narrows 'for every input' (looked for: loops, veiled, ifaces, maps, wideKeys, modest, calm, conditions, laid).
  DERIVED. THE GIVEN ROWS OF THIS SEAT. 3 by the template 'for every input the law returns true; each argument reads behind the call as it read before'; 0 by the template 'total and deterministic' (their statements: YtehfbdhkicdfiaaTotals.lean).
  GIVEN WITH THE SEED: the statements are not yours to turn. If you find one false, say at which input.
  Laid BY PROGRAM, IN A SANDBOX (cutbox-rows.mjs): the forced cells as the released guide's own fill.sh prints them over the translation 535ce9ff55146df5… (all of the seat's roots in one cut). By AI agents, Wed Nov 11 2026. No macro, syntax, notation, axiom, sorry.
-/
import Derived.Test.YtehfbdhkicdfiaaChecked
import GoSem.Claim
import GoSem.ClaimJoined
import GoSem.ClaimMapViews
import Derived.JoinedTies
import Derived.KernelRfl
namespace Go.Proofs.Ytehfbdhkicdfiaa
/- THE CELL 'sum', in the pinned program and in every row, IS THE sha256 OF THE DUMP (.gsa) THAT YtehfbdhkicdfiaaProg.lean LOADS. Nothing in Lean hashes anything: it is a label: what it is worth is what the hold of that sum in a sandbox is worth. -/
noncomputable def Try.pinned : Pinned := { name := "ytehfbdhkicdfiaa", sum := "535ce9ff55146df5755565cd69c87913c925234947e29e57721531d759a4dca7", checked := Try.checked }
namespace Rows
def none {H : Type} : Left H := { results := [], args := [] }

/-- 'quarrylaw07.FreePlays': WHATEVER THE INPUT: true; the input reads as it did. -/
def freePlaysSpec : ChangeSpec := { name := "freePlays", fn := fun _ => fun
  | [d1, d2] => { results := [.lit (.bool true)], args := [d1, d2] }
  | _ => none }
def freePlaysRow : OpenClaim := { program := "ytehfbdhkicdfiaa", sum := "535ce9ff55146df5755565cd69c87913c925234947e29e57721531d759a4dca7", func := "quarry/quarrylaw07.FreePlays", spec := "freePlays", apart := false }
def FreePlaysSaid : Prop := freePlaysRow.holds Try.pinned (OpenSpec.ofChange freePlaysSpec)

/-- ITS FALSE NEIGHBOUR: 'it returns false'. Refute it at one input. -/
def freePlaysWrong : ChangeSpec := { name := "freePlays", fn := fun _ => fun
  | [d1, d2] => { results := [.lit (.bool false)], args := [d1, d2] }
  | _ => none }
def FreePlaysWrongFalsely : Prop := freePlaysRow.holds Try.pinned (OpenSpec.ofChange freePlaysWrong)

/-- 'quarrylaw07.FreeTakes': WHATEVER THE INPUT: true; the input reads as it did. -/
def freeTakesSpec : ChangeSpec := { name := "freeTakes", fn := fun _ => fun
  | [d1, d2] => { results := [.lit (.bool true)], args := [d1, d2] }
  | _ => none }
def freeTakesRow : OpenClaim := { program := "ytehfbdhkicdfiaa", sum := "535ce9ff55146df5755565cd69c87913c925234947e29e57721531d759a4dca7", func := "quarry/quarrylaw07.FreeTakes", spec := "freeTakes", apart := false }
def FreeTakesSaid : Prop := freeTakesRow.holds Try.pinned (OpenSpec.ofChange freeTakesSpec)

/-- ITS FALSE NEIGHBOUR: 'it returns false'. Refute it at one input. -/
def freeTakesWrong : ChangeSpec := { name := "freeTakes", fn := fun _ => fun
  | [d1, d2] => { results := [.lit (.bool false)], args := [d1, d2] }
  | _ => none }
def FreeTakesWrongFalsely : Prop := freeTakesRow.holds Try.pinned (OpenSpec.ofChange freeTakesWrong)

/-- 'quarrylaw07.FreeClones': WHATEVER THE INPUT: true; the input reads as it did. -/
def freeClonesSpec : ChangeSpec := { name := "freeClones", fn := fun _ => fun
  | [d1, d2] => { results := [.lit (.bool true)], args := [d1, d2] }
  | _ => none }
def freeClonesRow : OpenClaim := { program := "ytehfbdhkicdfiaa", sum := "535ce9ff55146df5755565cd69c87913c925234947e29e57721531d759a4dca7", func := "quarry/quarrylaw07.FreeClones", spec := "freeClones", apart := false }
def FreeClonesSaid : Prop := freeClonesRow.holds Try.pinned (OpenSpec.ofChange freeClonesSpec)

/-- ITS FALSE NEIGHBOUR: 'it returns false'. Refute it at one input. -/
def freeClonesWrong : ChangeSpec := { name := "freeClones", fn := fun _ => fun
  | [d1, d2] => { results := [.lit (.bool false)], args := [d1, d2] }
  | _ => none }
def FreeClonesWrongFalsely : Prop := freeClonesRow.holds Try.pinned (OpenSpec.ofChange freeClonesWrong)

/- THE SECOND FORM. 'bulk': how many values and letters a reading holds, each counted each time it is reached (what is shared counts as often as it is met; a slice's spare places count too). A statement '..UptoSaid' is the law's where the arguments, and the package variables that the reading takes, are together of bulk at most 1048576: NARROWER than '..Said'. Prove '..Said' where nothing that the law and all that it calls make is longer than what came in: it says more and counts as full. Else prove '..UptoSaid'. A law counts once. -/
mutual
def uptoBulk {H : Type} : DataW H → Nat
  | .lit (.string bytes) => bytes.length + 1
  | .lit _ => 1
  | .nil => 1
  | .ptr d => uptoBulk d + 1
  | .slice elems spare => uptoBulkAll elems + uptoBulkAll spare + 1
  | .agg parts => uptoBulkAll parts + 1
  | .iface _ d => uptoBulk d + 1
  | .map entries => uptoBulkEntries entries + 1
  | .held _ => 1
def uptoBulkAll {H : Type} : List (DataW H) → Nat
  | [] => 0
  | d :: r => uptoBulk d + uptoBulkAll r
def uptoBulkEntries {H : Type} : List (Lit × DataW H) → Nat
  | [] => 0
  | x :: r => uptoBulkEntry x + uptoBulkEntries r
def uptoBulkEntry {H : Type} : Lit × DataW H → Nat
  | (.string bytes, d) => bytes.length + uptoBulk d + 1
  | (_, d) => uptoBulk d + 1
 end
def uptoSmall : (H : Type) → List (DataW H) → Bool := fun _ ds => decide (uptoBulkAll ds ≤ 1048576)
def OpenSpec.upto (s : _root_.Go.ChangeSpec) : _root_.Go.OpenSpec := { _root_.Go.OpenSpec.ofChange s with cond := some uptoSmall }

/-- 'quarrylaw07.FreePlays', WHERE WHAT IT READS IS OF BULK AT MOST 1048576: true; the input reads as it did. -/
def freePlaysUptoRow : OpenClaim := { program := "ytehfbdhkicdfiaa", sum := "535ce9ff55146df5755565cd69c87913c925234947e29e57721531d759a4dca7", func := "quarry/quarrylaw07.FreePlays", spec := "freePlays", apart := false, narrowed := true }
def FreePlaysUptoSaid : Prop := freePlaysUptoRow.holds Try.pinned (OpenSpec.upto freePlaysSpec)

/-- 'quarrylaw07.FreeTakes', WHERE WHAT IT READS IS OF BULK AT MOST 1048576: true; the input reads as it did. -/
def freeTakesUptoRow : OpenClaim := { program := "ytehfbdhkicdfiaa", sum := "535ce9ff55146df5755565cd69c87913c925234947e29e57721531d759a4dca7", func := "quarry/quarrylaw07.FreeTakes", spec := "freeTakes", apart := false, narrowed := true }
def FreeTakesUptoSaid : Prop := freeTakesUptoRow.holds Try.pinned (OpenSpec.upto freeTakesSpec)

/-- 'quarrylaw07.FreeClones', WHERE WHAT IT READS IS OF BULK AT MOST 1048576: true; the input reads as it did. -/
def freeClonesUptoRow : OpenClaim := { program := "ytehfbdhkicdfiaa", sum := "535ce9ff55146df5755565cd69c87913c925234947e29e57721531d759a4dca7", func := "quarry/quarrylaw07.FreeClones", spec := "freeClones", apart := false, narrowed := true }
def FreeClonesUptoSaid : Prop := freeClonesUptoRow.holds Try.pinned (OpenSpec.upto freeClonesSpec)

end Rows
end Go.Proofs.Ytehfbdhkicdfiaa
