/- What the rows' lists give the walks: what the library's variables hold; and a world in which all listed tables lie. No conditions. -/
import Derived.Test.YtekapdpfbkdflaaGreatDoorRows
import Derived.Test.YtekapdpfbkdflaaGreatDoorExTk
import Derived.Lib.LaidTab
import Derived.OpenShut
import Derived.ChangeArms
import Derived.ProofKit
import Derived.Deep.DeepHandedRow
import Derived.LaidMore
import Derived.Lay
import Derived.LaidHandle
import Derived.Stop.LaidErr
import Derived.MakeChecks
import Derived.LaidLaws
namespace Go.Proofs.YtekapdpfbkdflaaGreatDoor
open Go.ChangeShapes Go.WideShapes Go.ChangeAt Go.RowKit
set_option linter.unusedVariables false
set_option maxRecDepth 20000

theorem own : ownKnob Tryz.prog.godebug = none := by kernel_rfl
theorem laidOut : laidOutB Tryz.prog = true := by kernel_rfl

def dataL : List (String × DataW Unit) := [("math/bits.deBruijn32tab", Rows.laid_math_bits_deBruijn32tab), ("math/bits.deBruijn64tab", Rows.laid_math_bits_deBruijn64tab), ("internal/strconv.uint64pow10", Rows.laid_internal_strconv_uint64pow10), ("unicode/utf8.acceptRanges", Rows.laid_unicode_utf8_acceptRanges), ("strconv.ErrRange", Rows.laid_strconv_ErrRange), ("strconv.ErrSyntax", Rows.laid_strconv_ErrSyntax), ("quarry/expr.operators", Rows.laid_quarry_expr_operators), ("quarry/expr.calls", Rows.laid_quarry_expr_calls), ("unicode.CaseRanges", Rows.laid_unicode_CaseRanges), ("unicode/utf8.first", Rows.laid_unicode_utf8_first)]
def laidL : List (String × DataW Unit) := [("math/bits.deBruijn32tab", Rows.laid_math_bits_deBruijn32tab), ("math/bits.deBruijn64tab", Rows.laid_math_bits_deBruijn64tab), ("internal/strconv.uint64pow10", Rows.laid_internal_strconv_uint64pow10), ("unicode/utf8.acceptRanges", Rows.laid_unicode_utf8_acceptRanges), ("errors.errorType", Rows.laid_errors_errorType), ("strconv.ErrRange", Rows.laid_strconv_ErrRange), ("strconv.ErrSyntax", Rows.laid_strconv_ErrSyntax), ("quarry/expr.operators", Rows.laid_quarry_expr_operators), ("quarry/expr.calls", Rows.laid_quarry_expr_calls), ("unicode.CaseRanges", Rows.laid_unicode_CaseRanges), ("unicode/utf8.first", Rows.laid_unicode_utf8_first)]

theorem filt0 : (laidL.filter fun x => x.2.handleName?.isNone) = dataL := rfl
theorem filt1 : (laidL.filter fun x => x.2.handleName?.isSome) = [("errors.errorType", Rows.laid_errors_errorType)] := rfl
theorem parts_of {W : World} (h : laidMetH Tryz.prog laidL W) : laidMet Tryz.prog dataL W ∧ handlesMet Tryz.prog [("errors.errorType", Rows.laid_errors_errorType)] W := h

theorem gErrT : Tryz.prog.globalNamed "errors.errorType" = some 0 := by kernel_rfl
theorem rtT : (Tryz.prog.cutTypes.find? (·.1 == "internal/reflectlite.rtype")).map (·.2) = some 138 := by kernel_rfl
theorem oneRowE : ((List.range 241).filter fun t => Tryz.prog.rowNamed t [101, 114, 114, 111, 114]) = [25] := by kernel_rfl
theorem sizeTys : Tryz.prog.types.size = 241 := by kernel_rfl
theorem errT_of {W : World} (h : laidMetH Tryz.prog laidL W) : ErrT W := by
  obtain ⟨name, u, ty, e1, e2, e3, e4, e5⟩ := (parts_of h).2 _ (List.mem_singleton.2 rfl)
  have en : name = [101, 114, 114, 111, 114] := (Option.some.inj e1).symm
  subst en
  obtain rfl := Option.some.inj (rtT.symm.trans e2)
  have hm : ty ∈ (List.range 241).filter fun t => Tryz.prog.rowNamed t [101, 114, 114, 111, 114] := List.mem_filter.2 ⟨List.mem_range.2 (by rw [← sizeTys]; exact e3), e4⟩
  rw [oneRowE] at hm
  obtain rfl := List.mem_singleton.1 hm
  have hh : typeHandle Tryz.prog 25 = .pointer (some ⟨12, 25, none⟩) := by kernel_rfl
  rw [hh] at e5
  have := World.var?_cell gErrT e5 0
  simpa [ErrT] using this

theorem laidMet_tail {P : Program} {x : String × DataW Unit} {r : List (String × DataW Unit)} {W : World} (h : laidMet P (x :: r) W) : laidMet P r W := by
  obtain ⟨ps, ⟨g, t, cs, fuel, p, q, h1, h2, h3, h4, h5, e⟩, hn, hr⟩ := h
  subst e
  refine ⟨q, h5, (List.nodup_append.1 hn).2.1, fun b off hp => hr b off (List.mem_append_right _ hp)⟩

theorem gRng : Tryz.prog.globalNamed "strconv.ErrRange" = some 5 := by kernel_rfl
theorem gRngT : (Tryz.prog.globals[5]?).map (·.type) = some 25 := by kernel_rfl
theorem starES : "*" ++ "errors.errorString" = "*errors.errorString" := by decide
theorem namesES (u : TypeId) (h : Tryz.prog.typeName? 3 u = some "*errors.errorString") : u = 203 :=
  typeName_ptr_named (nm := "errors.errorString") (by rw [starES]; kernel_rfl) (by kernel_rfl) (by decide) u (by rw [starES]; exact h)
theorem rdy_of {W : World} (h : laidMetH Tryz.prog laidL W) : Rdy W := by
  have h5 := laidMet_tail (laidMet_tail (laidMet_tail (laidMet_tail (parts_of h).1)))
  obtain ⟨a, s, hv, _⟩ := laid_sentinel h5 gRng gRngT Tryz.underlying25 namesES
    Tryz.underlying203 Tryz.underlying205 rfl rfl Tryz.underlying9 (by kernel_rfl) (by kernel_rfl)
  have := World.var?_cell gRng hv 0
  exact ⟨⟨203, .pointer (some a), by simpa using this⟩⟩

/-! ### A world in which all of them lie -/
def putErrT : Obj → Obj
  | .cells _ t frozen => .cells #[.iface 138 (.agg #[.pointer (some ⟨12, 25, none⟩)])] t frozen
  | o => o
def setErrT (W : World) : World := { W with heap := W.heap.modify 0 putErrT }
def lxOf (P : Program) (W : World) : World := (setErrT W).layVars P dataL
theorem lxW_os (os : Os) : (lxOf Tryz.prog (World.holding Tryz.prog os ⟨#[], #[], []⟩)).os = os := (World.layVars_os _ _ _).trans rfl
theorem greatAll : (dataL.filter fun x => (dataL.map (·.1)).contains x.1) = dataL := List.filter_eq_self.2 fun x hx => List.contains_iff_mem.2 (List.mem_map.2 ⟨x, hx, rfl⟩)
theorem greatNone : (dataL.filter fun x => !(dataL.map (·.1)).contains x.1) = [] := List.filter_eq_nil_iff.2 fun x hx => by rw [List.contains_iff_mem.2 (List.mem_map.2 ⟨x, hx, rfl⟩)]; simp
set_option maxRecDepth 100000 in
theorem lxFits (os : Os) : (setErrT (World.holding Tryz.prog os ⟨#[], #[], []⟩)).layFits Tryz.prog dataL [] = true := by kernel_rfl
set_option maxRecDepth 100000 in
theorem lxIfaces (os : Os) : (setErrT (World.holding Tryz.prog os ⟨#[], #[], []⟩)).layIfaces Tryz.prog dataL (lxOf Tryz.prog (World.holding Tryz.prog os ⟨#[], #[], []⟩)) = true := by kernel_rfl
theorem lxData (os : Os) : laidMet Tryz.prog dataL (lxOf Tryz.prog (World.holding Tryz.prog os ⟨#[], #[], []⟩)) :=
  laidMet_layVars (w0 := setErrT (World.holding Tryz.prog os ⟨#[], #[], []⟩)) (dataL.map (·.1)) [] (by rw [greatAll]; rfl) (by rw [greatAll]; exact lxFits os) (by rw [greatAll]; exact lxIfaces os) (by rw [greatNone]; exact LaidIn.none)
set_option maxRecDepth 100000 in
theorem lxHandle (os : Os) (args : Array Value) : ([("errors.errorType", Rows.laid_errors_errorType)] : List (String × DataW Unit)).all (handleAtB Tryz.prog ((lxOf Tryz.prog (World.holding Tryz.prog os ⟨#[], #[], []⟩)).forCall (fun _ _ => 0) ⟨#[], args, []⟩).memory) = true := by kernel_rfl
theorem lxMet (os : Os) (args : Array Value) : laidMetH Tryz.prog laidL ((lxOf Tryz.prog (World.holding Tryz.prog os ⟨#[], #[], []⟩)).forCall (fun _ _ => 0) ⟨#[], args, []⟩).memory :=
  laidMetH_of_parts (by rw [filt0]; exact (lxData os).of_heap (by simp [World.memory, World.forCall, Input.heap])) (by rw [filt1]; exact lxHandle os args)
set_option maxRecDepth 100000 in
theorem lxShaped (os : Os) (args : Array Value) : ((lxOf Tryz.prog (World.holding Tryz.prog os ⟨#[], #[], []⟩)).forCall (fun _ _ => 0) ⟨#[], args, []⟩).Shaped Tryz.prog := World.shaped_of_ZipB (by kernel_rfl) (by kernel_rfl)
/-- An input that fits. -/
theorem lxWitness {H : Type} {enc : TypeId × Value → H} {os : Os} {f : FuncId} {fn : Func} {s : OpenSpec} {conds : List PathCond} (args : Array Value)
    (hok : Input.okWideB Tryz.prog ((lxOf Tryz.prog (World.holding Tryz.prog os ⟨#[], #[], []⟩)).forCall (fun _ _ => 0) ⟨#[], args, []⟩) f ⟨#[], args, []⟩ = true)
    (hrow : s.preRow enc Tryz.prog fn conds false laidL ((lxOf Tryz.prog (World.holding Tryz.prog os ⟨#[], #[], []⟩)).forCall (fun _ _ => 0) ⟨#[], args, []⟩).memory args) :
    ∃ (w : World) (tape : Tape) (i : Input), w.os = os ∧ (w.forCall tape i).Shaped Tryz.prog ∧ i.vars = [] ∧ Input.okWide Tryz.prog (w.forCall tape i) .any w.heap.size f i ∧
      s.preRow enc Tryz.prog fn conds false laidL (w.forCall tape i).memory i.args ∧ ({} : Assume).holds Tryz.prog (lone (Frame.enter Tryz.prog f i.args .normal) [] (w.forCall tape i)) :=
  ⟨lxOf Tryz.prog (World.holding Tryz.prog os ⟨#[], #[], []⟩), fun _ _ => 0, ⟨#[], args, []⟩, lxW_os os, lxShaped os args, (Input.okWide_of_okWideB (base := 0) hok).1, (Input.okWide_of_okWideB hok).2, hrow, by simp [Assume.holds]⟩

/-! ### The library's tables, and the program's -/
theorem vars_read {P : Program} {w : World} : ∀ {l : List (String × DataW Unit)} {ps : List MemPlace}, DataW.LaidVars P w l ps → ∀ n d, (n, d) ∈ l →
    ∃ g t cs fuel p, P.globalNamed n = some g ∧ (P.globals[g]?).map (·.type) = some t ∧ w.var? P n = some cs ∧ DataW.trod (fun _ => ()) P w 0 (fun _ => true) false fuel t cs.toList = some (d, p)
  | [], _, _, _, _, hm => by cases hm
  | (n', d') :: r, ps, h, n, d, hm => by
    obtain ⟨g, t, cs, fuel, p, q, h1, h2, h3, h4, h5, _⟩ := h
    rcases List.mem_cons.1 hm with e | e
    · cases e
      exact ⟨g, t, cs, fuel, p, h1, h2, h3, h4⟩
    · exact vars_read h5 n d e
theorem powData : (Rows.laid_internal_strconv_uint64pow10 : DataW Unit) = Lib.tabData .u64 Lib.pow10Tab := by kernel_rfl
theorem gPowType : (Tryz.prog.globals[6]?).map (·.type) = some 190 := by kernel_rfl
theorem cellsPow : Tryz.prog.cellsOf 190 = 20 := by kernel_rfl
theorem cellsU64 : Tryz.prog.cellsOf 40 = 1 := by kernel_rfl
theorem ready_of {W : World} (h : laidMetH Tryz.prog laidL W) (hsh : W.ShapedOpen Tryz.prog) : Ready W := by
  refine ⟨Tryz.laysM155.s1_3 W hsh, ?_⟩
  obtain ⟨ps, hL, _⟩ := (parts_of h).1
  obtain ⟨g, t, cs, fuel, p, h1, h2, h3, h4⟩ := vars_read hL "internal/strconv.uint64pow10" Rows.laid_internal_strconv_uint64pow10 (List.mem_cons_of_mem _ (List.mem_cons_of_mem _ List.mem_cons_self))
  obtain rfl := Option.some.inj (gPow.symm.trans h1)
  obtain rfl := Option.some.inj (gPowType.symm.trans h2)
  rw [powData] at h4
  unfold Lib.TabIs
  rw [h3, ← Lib.cells_of_tab Tryz.underlying190 Tryz.underlying40 cellsU64 cellsPow h4]

/-- A number's or a text's value. -/
def vOf : DataW Unit → Value
  | .lit (.int k n) => .int k n
  | .lit (.string s) => .string ⟨s.toArray⟩
  | _ => .nilIface
def unAgg : DataW Unit → List (DataW Unit)
  | .agg l => l
  | _ => []
def Sc (P : Program) (u : TypeId) : Prop := (∃ k, P.underlying u = some (.int k)) ∨ P.underlying u = some .string
theorem sc_of {enc : TypeId × Value → Unit} {P : Program} {w : World} {base : Nat} {spare : Nat → Bool} {held : Bool} {fuel : Nat} {u : TypeId} {cs : List Value} {x : DataW Unit × List MemPlace}
    (hs : Sc P u) (h : DataW.trod enc P w base spare held fuel u cs = some x) : cs = [vOf x.1] := by
  rcases hs with ⟨k, hs⟩ | hs
  · obtain ⟨n, rfl, rfl, _⟩ := DataW.trod_int hs h
    rfl
  · obtain ⟨s, rfl, rfl, _⟩ := DataW.trod_string hs h
    simp [vOf]
theorem chunks {α : Type} (m : Nat) : ∀ (n : Nat) (cs : List α), (List.range n).flatMap (fun i => (cs.drop (i * m)).take m) = cs.take (n * m)
  | 0, cs => by simp
  | n + 1, cs => by
    rw [List.range_succ, List.flatMap_append, chunks m n cs, Nat.succ_mul, List.take_add]
    simp
theorem chunks1 {α : Type} : ∀ (cs : List α), (List.range cs.length).flatMap (fun i => (cs.drop i).take 1) = cs := by
  intro cs
  have := chunks 1 cs.length cs
  simpa using this
theorem struct_of {enc : TypeId × Value → Unit} {P : Program} {w : World} {base : Nat} {spare : Nat → Bool} {held : Bool} {fuel : Nat} {u : TypeId} {fs : Array Field} {cs : List Value} {x : DataW Unit × List MemPlace}
    (hu : P.underlying u = some (.struct fs)) (hc : P.cellsOf u = fs.size) (hf : ∀ i (f : Field), fs[i]? = some f → f.offset = i ∧ P.cellsOf f.type = 1 ∧ Sc P f.type)
    (h : DataW.trod enc P w base spare held fuel u cs = some x) : cs = (unAgg x.1).map vOf := by
  obtain ⟨xs, n, _, rfl, hl, hlen, hx⟩ := DataW.trod_struct hu h
  rw [hc] at hl
  refine List.ext_getElem? fun i => ?_
  simp only [unAgg, List.map_map]
  by_cases hi : i < fs.size
  · obtain ⟨ho, h1, hs⟩ := hf i fs[i] (by simp [hi])
    have h2 := hx i fs[i] (by simp [hi])
    rw [ho, h1] at h2
    have hi' : i < xs.length := by omega
    rw [List.getElem?_eq_getElem hi'] at h2
    have h3 := sc_of hs h2
    have h4 : ((cs.drop i).take 1)[0]? = some (vOf xs[i].1) := by rw [h3]; rfl
    have h5 : cs[i]? = some (vOf xs[i].1) := by simpa [List.getElem?_take, List.getElem?_drop] using h4
    rw [h5]
    simp [hi']
  · rw [List.getElem?_eq_none (by omega), List.getElem?_eq_none (by simp; omega)]
theorem array_of {enc : TypeId × Value → Unit} {P : Program} {w : World} {base : Nat} {spare : Nat → Bool} {held : Bool} {fuel : Nat} {u e : TypeId} {n : Nat} {fs : Array Field} {cs : List Value} {x : DataW Unit × List MemPlace}
    (ha : P.underlying u = some (.array n e)) (hca : P.cellsOf u = n * P.cellsOf e) (hu : P.underlying e = some (.struct fs)) (hc : P.cellsOf e = fs.size) (hf : ∀ i (f : Field), fs[i]? = some f → f.offset = i ∧ P.cellsOf f.type = 1 ∧ Sc P f.type)
    (h : DataW.trod enc P w base spare held fuel u cs = some x) : cs = (unAgg x.1).flatMap fun d => (unAgg d).map vOf := by
  obtain ⟨xs, m, _, rfl, hl, hlen, hx⟩ := DataW.trod_array ha h
  have h1 := chunks (P.cellsOf e) n cs
  rw [← hca, ← hl, List.take_length] at h1
  rw [← h1]
  subst hlen
  simp only [unAgg, List.flatMap_map]
  have h2 : ∀ i (hi : i < xs.length), (cs.drop (i * P.cellsOf e)).take (P.cellsOf e) = (unAgg xs[i].1).map vOf := fun i hi => by
    have := hx i hi
    rw [List.getElem?_eq_getElem hi] at this
    exact struct_of hu hc hf this
  have h3 : (List.range xs.length).map (fun i => (cs.drop (i * P.cellsOf e)).take (P.cellsOf e)) = xs.map fun y => (unAgg y.1).map vOf := by
    refine List.ext_getElem (by simp) fun i h4 h5 => ?_
    have hi : i < xs.length := by simpa using h5
    simp [h2 i hi]
  have h4 := congrArg List.flatten h3
  rw [List.flatMap_def, List.flatMap_def]
  exact h4
theorem var_block {P : Program} {w : World} {g : Nat} {t : TypeId} {zero : Array Value} {name : String} {cs : Array Value} (h : w.ShapedOpen P) (hg : g < P.globals.size)
    (h0 : ((begin P (fun _ _ => 0) default).world.heap[g]?).bind Obj.row? = some (zero, t)) (hn : P.globalNamed name = some g) (hv : w.var? P name = some cs) : w.heap[g]? = some (.cells cs t (0, 0)) := by
  obtain ⟨cs', hh, _⟩ := h.1 g zero t hg h0
  unfold World.var? at hv
  rw [hn] at hv
  simp only [Option.bind_some, hh, Option.some.injEq] at hv
  subst hv
  exact hh
theorem gOpr : Tryz.prog.globalNamed "quarry/expr.operators" = some 1 := by kernel_rfl
theorem gCal : Tryz.prog.globalNamed "quarry/expr.calls" = some 2 := by kernel_rfl
theorem gOprType : (Tryz.prog.globals[1]?).map (·.type) = some 132 := by kernel_rfl
theorem gCalType : (Tryz.prog.globals[2]?).map (·.type) = some 157 := by kernel_rfl
theorem cOpr16 : Tryz.prog.cellsOf 132 = 80 := by kernel_rfl
theorem cOpr1 : Tryz.prog.cellsOf 87 = 5 := by kernel_rfl
theorem cCal10 : Tryz.prog.cellsOf 157 = 40 := by kernel_rfl
theorem cCal1 : Tryz.prog.cellsOf 120 = 4 := by kernel_rfl
theorem cInt1 : Tryz.prog.cellsOf 3 = 1 := by kernel_rfl
theorem cStr1 : Tryz.prog.cellsOf 9 = 1 := by kernel_rfl
set_option maxRecDepth 100000 in
theorem rOpr : ∃ zero, ((begin Tryz.prog (fun _ _ => 0) default).world.heap[1]?).bind Obj.row? = some (zero, 132) := ⟨(oprs.flatMap fun _ => [.int .i64 0, .int .i64 0, .int .i64 0, .string ⟨#[]⟩, .int .i64 0]).toArray, by kernel_rfl⟩
set_option maxRecDepth 100000 in
theorem rCal : ∃ zero, ((begin Tryz.prog (fun _ _ => 0) default).world.heap[2]?).bind Obj.row? = some (zero, 157) := ⟨(cals.flatMap fun _ => [.int .i64 0, .int .i64 0, .string ⟨#[]⟩, .int .i64 0]).toArray, by kernel_rfl⟩
theorem lOpr : ((unAgg Rows.laid_quarry_expr_operators).flatMap fun d => (unAgg d).map vOf) = oprs.flatMap oprV := by kernel_rfl
theorem lCal : ((unAgg Rows.laid_quarry_expr_calls).flatMap fun d => (unAgg d).map vOf) = cals.flatMap calV := by kernel_rfl
theorem scI : Sc Tryz.prog 3 := Or.inl ⟨_, Tryz.underlying3⟩
theorem scS : Sc Tryz.prog 9 := Or.inr Tryz.underlying9
theorem gl_of {W : World} (h : laidMetH Tryz.prog laidL W) (hsh : W.ShapedOpen Tryz.prog) : Gl W := by
  obtain ⟨ps, hL, _⟩ := (parts_of h).1
  constructor
  · obtain ⟨g, t, cs, fuel, p, h1, h2, h3, h4⟩ := vars_read hL "quarry/expr.operators" Rows.laid_quarry_expr_operators (by unfold dataL; simp)
    obtain rfl := Option.some.inj (gOpr.symm.trans h1)
    obtain rfl := Option.some.inj (gOprType.symm.trans h2)
    have h5 := array_of Tryz.underlying132 (by rw [cOpr16, cOpr1]) Tryz.underlying87 (by rw [cOpr1]; rfl) (fun i f hf => by
      match i, hf with
      | 0, hf => cases hf; exact ⟨rfl, cInt1, scI⟩
      | 1, hf => cases hf; exact ⟨rfl, cInt1, scI⟩
      | 2, hf => cases hf; exact ⟨rfl, cInt1, scI⟩
      | 3, hf => cases hf; exact ⟨rfl, cStr1, scS⟩
      | 4, hf => cases hf; exact ⟨rfl, cInt1, scI⟩
      | n + 5, hf => cases hf) h4
    rw [lOpr] at h5
    obtain ⟨zero, h0⟩ := rOpr
    have h6 := var_block hsh (of_decide_eq_true (by kernel_rfl)) h0 gOpr h3
    rw [h6, ← h5]
  · obtain ⟨g, t, cs, fuel, p, h1, h2, h3, h4⟩ := vars_read hL "quarry/expr.calls" Rows.laid_quarry_expr_calls (by unfold dataL; simp)
    obtain rfl := Option.some.inj (gCal.symm.trans h1)
    obtain rfl := Option.some.inj (gCalType.symm.trans h2)
    have h5 := array_of Tryz.underlying157 (by rw [cCal10, cCal1]) Tryz.underlying120 (by rw [cCal1]; rfl) (fun i f hf => by
      match i, hf with
      | 0, hf => cases hf; exact ⟨rfl, cInt1, scI⟩
      | 1, hf => cases hf; exact ⟨rfl, cInt1, scI⟩
      | 2, hf => cases hf; exact ⟨rfl, cStr1, scS⟩
      | 3, hf => cases hf; exact ⟨rfl, cInt1, scI⟩
      | n + 4, hf => cases hf) h4
    rw [lCal] at h5
    obtain ⟨zero, h0⟩ := rCal
    have h6 := var_block hsh (of_decide_eq_true (by kernel_rfl)) h0 gCal h3
    rw [h6, ← h5]
theorem env_of {W : World} (h : laidMetH Tryz.prog laidL W) (hsh : W.ShapedOpen Tryz.prog) : Env W := ⟨gl_of h hsh, ready_of h hsh, rdy_of h, errT_of h⟩
end Go.Proofs.YtekapdpfbkdflaaGreatDoor
