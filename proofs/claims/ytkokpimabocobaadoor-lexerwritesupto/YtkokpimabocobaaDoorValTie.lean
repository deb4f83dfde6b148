/- What the rows' lists give the walks: the library's table of powers of ten lies in memory, and its variable MaxLen holds a number; and a world in which all listed tables lie. No conditions. -/
import Derived.Test.YtkokpimabocobaaDoorRows
import Derived.Test.YtkokpimabocobaaDoorValLit
import Derived.ProofKit
import Derived.Deep.DeepHandedRow
import Derived.Lib.LaidTab
import Derived.MakeChecks
import Derived.LaidLaws
namespace Go.Proofs.YtkokpimabocobaaDoor
open Go.ChangeShapes Go.WideShapes Go.ChangeAt Go.RowKit
set_option linter.unusedVariables false

theorem own : ownKnob Tryd.prog.godebug = none := by kernel_rfl
theorem laidOut : laidOutB Tryd.prog = true := by kernel_rfl

def laidList : List (String × DataW Unit) := [("math/bits.deBruijn32tab", Rows.laid_math_bits_deBruijn32tab), ("math/bits.deBruijn64tab", Rows.laid_math_bits_deBruijn64tab), ("internal/strconv.uint64pow10", Rows.laid_internal_strconv_uint64pow10), ("unicode/utf8.acceptRanges", Rows.laid_unicode_utf8_acceptRanges), ("unicode/utf8.first", Rows.laid_unicode_utf8_first)]

theorem vars_read {P : Program} {w : World} : ∀ {l : List (String × DataW Unit)} {ps : List MemPlace}, DataW.LaidVars P w l ps → ∀ n d, (n, d) ∈ l →
    ∃ g t cs fuel p, P.globalNamed n = some g ∧ (P.globals[g]?).map (·.type) = some t ∧ w.var? P n = some cs ∧ DataW.trod (fun _ => ()) P w 0 (fun _ => true) false fuel t cs.toList = some (d, p)
  | [], _, _, _, _, hm => by cases hm
  | (n', d') :: r, ps, h, n, d, hm => by
    obtain ⟨g, t, cs, fuel, p, q, h1, h2, h3, h4, h5, _⟩ := h
    rcases List.mem_cons.1 hm with e | e
    · cases e
      exact ⟨g, t, cs, fuel, p, h1, h2, h3, h4⟩
    · exact vars_read h5 n d e

theorem powData : (Rows.laid_internal_strconv_uint64pow10 : DataW Unit) = Lib.tabData .u64 Lib.pow10Tab := by kernel_rfl
theorem gPowType : (Tryd.prog.globals[0]?).map (·.type) = some 58 := by kernel_rfl
theorem cellsPow : Tryd.prog.cellsOf 58 = 20 := by kernel_rfl
theorem cellsU64 : Tryd.prog.cellsOf 37 = 1 := by kernel_rfl

theorem ready_of {W : World} (h : laidMetH Tryd.prog laidList W) (hsh : W.ShapedOpen Tryd.prog) : Ready W := by
  refine ⟨Tryd.laysM155.s1_3 W hsh, ?_⟩
  rw [MakeChecks.laidMetH_plain _ _ _ (by kernel_rfl)] at h
  obtain ⟨ps, hL, _⟩ := h
  obtain ⟨g, t, cs, fuel, p, h1, h2, h3, h4⟩ := vars_read hL "internal/strconv.uint64pow10" Rows.laid_internal_strconv_uint64pow10 (by simp [laidList])
  obtain rfl := Option.some.inj (gPow.symm.trans h1)
  obtain rfl := Option.some.inj (gPowType.symm.trans h2)
  rw [powData] at h4
  unfold Lib.TabIs
  rw [h3, ← Lib.cells_of_tab Tryd.underlying58 Tryd.underlying37 cellsU64 cellsPow h4]

/-! ### A world in which the tables lie -/
def lits1 : List (DataW Unit) → List Value
  | [] => []
  | .lit (.int k z) :: r => .int k z :: lits1 r
  | _ :: r => lits1 r
def lits2 : List (DataW Unit) → List Value
  | [] => []
  | .agg l :: r => lits1 l ++ lits2 r
  | _ :: r => lits2 r
def cellsD : DataW Unit → List Value
  | .agg l => lits1 l ++ lits2 l
  | _ => []
def putCells (l : List Value) : Obj → Obj
  | .cells _ t frozen => .cells l.toArray t frozen
  | o => o
/-- The tables, laid into a world. -/
def layTables (W : World) : World :=
  { W with heap := ((((W.heap.modify 1 (putCells (cellsD Rows.laid_math_bits_deBruijn32tab))).modify 2 (putCells (cellsD Rows.laid_math_bits_deBruijn64tab))).modify 0 (putCells (cellsD Rows.laid_internal_strconv_uint64pow10))).modify 5 (putCells (cellsD Rows.laid_unicode_utf8_acceptRanges))).modify 4 (putCells (cellsD Rows.laid_unicode_utf8_first)) }
set_option maxRecDepth 100000 in
theorem laid_met (os : Os) (args : Array Value) : laidMet Tryd.prog laidList ((layTables (World.holding Tryd.prog os ⟨#[], #[], []⟩)).forCall (fun _ _ => 0) ⟨#[], args, []⟩).memory :=
  laidMet_of_run' 8 (by kernel_rfl) (by kernel_rfl)
end Go.Proofs.YtkokpimabocobaaDoor
