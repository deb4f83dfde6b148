/- What the rows' lists give the walks: what the library's variables hold; and a world in which all listed tables lie. No conditions. -/
import Derived.Test.YtbaemjibaeeglaaGreatDoorRows
import Derived.Test.YtbaemjibaeeglaaGreatDoorLxWorks
import Derived.ProofKit
import Derived.Deep.DeepHandedRow
import Derived.LaidMore
import Derived.Lay
import Derived.LaidHandle
import Derived.Stop.LaidErr
import Derived.MakeChecks
import Derived.LaidLaws
namespace Go.Proofs.YtbaemjibaeeglaaGreatDoor
open Go.ChangeShapes Go.WideShapes Go.ChangeAt Go.RowKit
set_option linter.unusedVariables false

theorem own : ownKnob Tryz.prog.godebug = none := by kernel_rfl
theorem laidOut : laidOutB Tryz.prog = true := by kernel_rfl

def dataL : List (String × DataW Unit) := [("math/bits.deBruijn32tab", Rows.laid_math_bits_deBruijn32tab), ("math/bits.deBruijn64tab", Rows.laid_math_bits_deBruijn64tab), ("internal/strconv.uint64pow10", Rows.laid_internal_strconv_uint64pow10), ("unicode/utf8.acceptRanges", Rows.laid_unicode_utf8_acceptRanges), ("strconv.ErrRange", Rows.laid_strconv_ErrRange), ("strconv.ErrSyntax", Rows.laid_strconv_ErrSyntax), ("unicode.CaseRanges", Rows.laid_unicode_CaseRanges), ("unicode/utf8.first", Rows.laid_unicode_utf8_first)]
def laidL : List (String × DataW Unit) := [("math/bits.deBruijn32tab", Rows.laid_math_bits_deBruijn32tab), ("math/bits.deBruijn64tab", Rows.laid_math_bits_deBruijn64tab), ("internal/strconv.uint64pow10", Rows.laid_internal_strconv_uint64pow10), ("unicode/utf8.acceptRanges", Rows.laid_unicode_utf8_acceptRanges), ("errors.errorType", Rows.laid_errors_errorType), ("strconv.ErrRange", Rows.laid_strconv_ErrRange), ("strconv.ErrSyntax", Rows.laid_strconv_ErrSyntax), ("unicode.CaseRanges", Rows.laid_unicode_CaseRanges), ("unicode/utf8.first", Rows.laid_unicode_utf8_first)]

theorem filt0 : (laidL.filter fun x => x.2.handleName?.isNone) = dataL := rfl
theorem filt1 : (laidL.filter fun x => x.2.handleName?.isSome) = [("errors.errorType", Rows.laid_errors_errorType)] := rfl
theorem parts_of {W : World} (h : laidMetH Tryz.prog laidL W) : laidMet Tryz.prog dataL W ∧ handlesMet Tryz.prog [("errors.errorType", Rows.laid_errors_errorType)] W := h

theorem gErrT : Tryz.prog.globalNamed "errors.errorType" = some 0 := by kernel_rfl
theorem rtT : (Tryz.prog.cutTypes.find? (·.1 == "internal/reflectlite.rtype")).map (·.2) = some 92 := by kernel_rfl
theorem oneRowE : ((List.range 196).filter fun t => Tryz.prog.rowNamed t [101, 114, 114, 111, 114]) = [24] := by kernel_rfl
theorem sizeTys : Tryz.prog.types.size = 196 := by kernel_rfl
theorem errT_of {W : World} (h : laidMetH Tryz.prog laidL W) : ErrT W := by
  obtain ⟨name, u, ty, e1, e2, e3, e4, e5⟩ := (parts_of h).2 _ (List.mem_singleton.2 rfl)
  have en : name = [101, 114, 114, 111, 114] := (Option.some.inj e1).symm
  subst en
  obtain rfl := Option.some.inj (rtT.symm.trans e2)
  have hm : ty ∈ (List.range 196).filter fun t => Tryz.prog.rowNamed t [101, 114, 114, 111, 114] := List.mem_filter.2 ⟨List.mem_range.2 (by rw [← sizeTys]; exact e3), e4⟩
  rw [oneRowE] at hm
  obtain rfl := List.mem_singleton.1 hm
  have hh : typeHandle Tryz.prog 24 = .pointer (some ⟨10, 24, none⟩) := by kernel_rfl
  rw [hh] at e5
  have := World.var?_cell gErrT e5 0
  simpa [ErrT] using this

theorem laidMet_tail {P : Program} {x : String × DataW Unit} {r : List (String × DataW Unit)} {W : World} (h : laidMet P (x :: r) W) : laidMet P r W := by
  obtain ⟨ps, ⟨g, t, cs, fuel, p, q, h1, h2, h3, h4, h5, e⟩, hn, hr⟩ := h
  subst e
  refine ⟨q, h5, (List.nodup_append.1 hn).2.1, fun b off hp => hr b off (List.mem_append_right _ hp)⟩

theorem gRng : Tryz.prog.globalNamed "strconv.ErrRange" = some 3 := by kernel_rfl
theorem gRngT : (Tryz.prog.globals[3]?).map (·.type) = some 24 := by kernel_rfl
theorem starES : "*" ++ "errors.errorString" = "*errors.errorString" := by decide
theorem namesES (u : TypeId) (h : Tryz.prog.typeName? 3 u = some "*errors.errorString") : u = 158 :=
  typeName_ptr_named (nm := "errors.errorString") (by rw [starES]; kernel_rfl) (by kernel_rfl) (by decide) u (by rw [starES]; exact h)
theorem rdy_of {W : World} (h : laidMetH Tryz.prog laidL W) : Rdy W := by
  have h5 := laidMet_tail (laidMet_tail (laidMet_tail (laidMet_tail (parts_of h).1)))
  obtain ⟨a, s, hv, _⟩ := laid_sentinel h5 gRng gRngT Tryz.underlying24 namesES
    Tryz.underlying158 Tryz.underlying160 rfl rfl Tryz.underlying9 (by kernel_rfl) (by kernel_rfl)
  have := World.var?_cell gRng hv 0
  exact ⟨⟨158, .pointer (some a), by simpa using this⟩⟩

/-! ### A world in which all of them lie -/
def putErrT : Obj → Obj
  | .cells _ t frozen => .cells #[.iface 92 (.agg #[.pointer (some ⟨10, 24, none⟩)])] t frozen
  | o => o
def setErrT (W : World) : World := { W with heap := W.heap.modify 0 putErrT }
def lxOf (P : Program) (W : World) : World := (setErrT W).layVars P dataL
theorem lxW_os (os : Os) : (lxOf Tryz.prog (World.holding Tryz.prog os ⟨#[], #[], []⟩)).os = os := (World.layVars_os _ _ _).trans rfl
theorem greatAll : (dataL.filter fun x => (dataL.map (·.1)).contains x.1) = dataL := List.filter_eq_self.2 fun x hx => List.contains_iff_mem.2 (List.mem_map.2 ⟨x, hx, rfl⟩)
theorem greatNone : (dataL.filter fun x => !(dataL.map (·.1)).contains x.1) = [] := List.filter_eq_nil_iff.2 fun x hx => by rw [List.contains_iff_mem.2 (List.mem_map.2 ⟨x, hx, rfl⟩)]; simp
set_option maxRecDepth 100000 in
theorem lxFits (os : Os) : (setErrT (World.holding Tryz.prog os ⟨#[], #[], []⟩)).layFits Tryz.prog dataL [] = true := by kernel_rfl
set_option maxRecDepth 100000 in
theorem lxIfaces (os : Os) : (setErrT (World.holding Tryz.prog os ⟨#[], #[], []⟩)).layIfaces Tryz.prog dataL (lxOf Tryz.prog (World.holding Tryz.prog os ⟨#[], #[], []⟩)) = true := by kernel_rfl
theorem lxData (os : Os) : laidMet Tryz.prog dataL (lxOf Tryz.prog (World.holding Tryz.prog os ⟨#[], #[], []⟩)) :=
  laidMet_layVars (w0 := setErrT (World.holding Tryz.prog os ⟨#[], #[], []⟩)) (dataL.map (·.1)) [] (by rw [greatAll]; rfl) (by rw [greatAll]; exact lxFits os) (by rw [greatAll]; exact lxIfaces os) (by rw [greatNone]; exact LaidIn.none)
set_option maxRecDepth 100000 in
theorem lxHandle (os : Os) (args : Array Value) : ([("errors.errorType", Rows.laid_errors_errorType)] : List (String × DataW Unit)).all (handleAtB Tryz.prog ((lxOf Tryz.prog (World.holding Tryz.prog os ⟨#[], #[], []⟩)).forCall (fun _ _ => 0) ⟨#[], args, []⟩).memory) = true := by kernel_rfl
theorem lxMet (os : Os) (args : Array Value) : laidMetH Tryz.prog laidL ((lxOf Tryz.prog (World.holding Tryz.prog os ⟨#[], #[], []⟩)).forCall (fun _ _ => 0) ⟨#[], args, []⟩).memory :=
  laidMetH_of_parts (by rw [filt0]; exact (lxData os).of_heap (by simp [World.memory, World.forCall, Input.heap])) (by rw [filt1]; exact lxHandle os args)
set_option maxRecDepth 100000 in
theorem lxShaped (os : Os) (args : Array Value) : ((lxOf Tryz.prog (World.holding Tryz.prog os ⟨#[], #[], []⟩)).forCall (fun _ _ => 0) ⟨#[], args, []⟩).Shaped Tryz.prog := World.shaped_of_ZipB (by kernel_rfl) (by kernel_rfl)
/-- An input that fits. -/
theorem lxWitness {H : Type} {enc : TypeId × Value → H} {os : Os} {f : FuncId} {fn : Func} {s : OpenSpec} {conds : List PathCond} (args : Array Value)
    (hok : Input.okWideB Tryz.prog ((lxOf Tryz.prog (World.holding Tryz.prog os ⟨#[], #[], []⟩)).forCall (fun _ _ => 0) ⟨#[], args, []⟩) f ⟨#[], args, []⟩ = true)
    (hrow : s.preRow enc Tryz.prog fn conds false laidL ((lxOf Tryz.prog (World.holding Tryz.prog os ⟨#[], #[], []⟩)).forCall (fun _ _ => 0) ⟨#[], args, []⟩).memory args) :
    ∃ (w : World) (tape : Tape) (i : Input), w.os = os ∧ (w.forCall tape i).Shaped Tryz.prog ∧ i.vars = [] ∧ Input.okWide Tryz.prog (w.forCall tape i) .any w.heap.size f i ∧
      s.preRow enc Tryz.prog fn conds false laidL (w.forCall tape i).memory i.args ∧ ({} : Assume).holds Tryz.prog (lone (Frame.enter Tryz.prog f i.args .normal) [] (w.forCall tape i)) :=
  ⟨lxOf Tryz.prog (World.holding Tryz.prog os ⟨#[], #[], []⟩), fun _ _ => 0, ⟨#[], args, []⟩, lxW_os os, lxShaped os args, (Input.okWide_of_okWideB (base := 0) hok).1, (Input.okWide_of_okWideB hok).2, hrow, by simp [Assume.holds]⟩
end Go.Proofs.YtbaemjibaeeglaaGreatDoor
