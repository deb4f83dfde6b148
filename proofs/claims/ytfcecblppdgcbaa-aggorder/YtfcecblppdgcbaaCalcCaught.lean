/- What calc.caught answers: what the work answers; where it throws ErrOverflow, NULL and that error. Condition: the work throws nothing else. -/
import Derived.Test.YtfcecblppdgcbaaCalcSum
import Derived.Defers
import Derived.Recover
import Derived.Laws.Pointers
import Derived.Laws.NewBlocks
namespace Go.Proofs.Ytfcecblppdgcbaa
open Go.RowKit Go.Lib
set_option linter.unusedVariables false
set_option maxRecDepth 20000

/-- The cells of the two named results. -/
def Named (w : World) (b : Nat) (v : Val) (e : Int) : Prop :=
  w.cell? ⟨b, 0, none⟩ = some (.int .i64 v.k) ∧ w.cell? ⟨b, 1, none⟩ = some (.int .i64 v.n) ∧ w.cell? ⟨b, 2, none⟩ = some (.string v.s) ∧ w.cell? ⟨b + 1, 0, none⟩ = some (.int .i64 e) ∧
  w.frozen? ⟨b, 0, none⟩ = false ∧ w.frozen? ⟨b, 1, none⟩ = false ∧ w.frozen? ⟨b, 2, none⟩ = false ∧ w.frozen? ⟨b + 1, 0, none⟩ = false

theorem catch_idle (p q : Addr) (w : World) :
    CallsD Try.prog 71 #[.pointer (some p), .pointer (some q)] .returning w fun e u' w' => e = .returned (.tuple #[]) ∧ u' = .returning ∧ w' = w := by
  refine callsD_of_wpS Try.func71 rfl fun c₀ cs hu => ?_
  apply wpS_seq
  apply wpS_region
  simp [wpOpsS, go_sem, recoverD, hu, Try.ntmps71, Exit.thenS]
  refine wpS_of_wp ?_
  change Code.wp _ _ _ { tmps := #[.pointer (some p), .pointer (some q), .nilIface, .nilIface, undef, undef, undef, undef, undef], defers := [] } w
  go_wp2
  cases c₀
  simp_all [bodyPostS, results, Try.results71]

theorem assert_errno (v : Value) (w : World) : (Instr.typeAssert (.iface 24 v) 20 24 false).run Try.prog w = .ok v w := by kernel_rfl

theorem catch_panicking (b : Nat) (v : Val) (e0 : Int) (w : World) (hc : Named w b v e0) :
    CallsD Try.prog 71 #[.pointer (some ⟨b, 0, none⟩), .pointer (some ⟨b + 1, 0, none⟩)] (.panicking thrown) w fun e u' w' =>
      e = .returned (.tuple #[]) ∧ u' = .panicking [{ v := .iface 24 (.int .i64 40), recovered := true }] ∧ Named w' b nullV 40 ∧ Below b w w' := by
  obtain ⟨c0, c1, c2, c3, f0, f1, f2, f3⟩ := hc
  refine callsD_of_wpS Try.func71 rfl fun c₀ cs hu => ?_
  apply wpS_seq
  apply wpS_region
  unfold thrown at hu
  simp [wpOpsS, go_sem, recoverD, hu, Try.ntmps71, Exit.thenS]
  refine wpS_of_wp ?_
  change Code.wp _ _ _ { tmps := #[.pointer (some ⟨b, 0, none⟩), .pointer (some ⟨b + 1, 0, none⟩), .iface 24 (.int .i64 40), .iface 24 (.int .i64 40), undef, undef, undef, undef, undef], defers := [] } w
  have hta := assert_errno
  go_wp2
  go_region
  all_goals
    show bodyPostS _ _ _ _ _ Exit.normal _ _ _
    simp [bodyPostS, results, Try.results71]
    refine ⟨?_, by go_grown⟩
    unfold Named nullV
    refine ⟨?_, ?_, ?_, ?_, ?_, ?_, ?_, ?_⟩ <;> simp [go_sem, c0, c1, c2, c3, f0, f1, f2, f3]

theorem named_new {w w1 : World} {t t' : TypeId} (h : Below ((w.alloc (.cells #[.int .i64 0, .int .i64 0, .string ⟨#[]⟩] t)).alloc (.cells #[.int .i64 0] t')).heap.size ((w.alloc (.cells #[.int .i64 0, .int .i64 0, .string ⟨#[]⟩] t)).alloc (.cells #[.int .i64 0] t')) w1) :
    Named w1 w.heap.size nullV 0 := by
  unfold Named nullV
  refine ⟨below_cell h (by go_simp), below_cell h (by go_simp), below_cell h (by go_simp), below_cell h (by go_simp), ?_, ?_, ?_, ?_⟩ <;> (rw [h.frozen (by simp; try omega)]; go_simp)

set_option maxHeartbeats 400000 in
theorem caught_any (g : FuncId) (caps : Array Value) (x : Ans) (w : World) (hg : ∀ w, (callFunc g caps).run Try.prog w = .ok (.enter g caps) w)
    (h : ∀ w0, Below w.heap.size w w0 → Calls Try.prog g caps w0 fun e w' => endA x e ∧ Below w0.heap.size w0 w') :
    Calls Try.prog 62 #[.func (.func g) #[] caps] w fun e w' => e = .returned x.out ∧ Below w.heap.size w w' := by
  have hmf : ∀ (fn : Fn) (first cap : Array Value) (w : World), (Instr.makeFunc fn first cap).run Try.prog w = .ok (.func fn first cap) w := fun _ _ _ _ => rfl
  have H : Hid (∀ w0, Below w.heap.size w w0 → Calls Try.prog g caps w0 fun e w' => endA x e ∧ Below w0.heap.size w0 w') := h
  clear h
  go_enter_defers Try.func62, Try.ntmps62
  go_wp2
  refine (H.out _ (by go_grown)).mono ?_
  rintro e w1 ⟨he, b1⟩
  have N := named_new b1
  have B := below_new2 b1
  obtain ⟨c0, c1, c2, c3, f0, f1, f2, f3⟩ := N
  obtain ⟨⟨k, n, s⟩, er⟩ := x
  rcases he with he | ⟨he, hv, hx⟩
  · obtain rfl : e = .returned (.tuple #[.agg #[.int .i64 k, .int .i64 n, .string s], .int .i64 er]) := he
    go_wp2
    refine leaves_cons (f := 71) (args := #[.pointer (some ⟨w.heap.size, 0, none⟩), .pointer (some ⟨w.heap.size + 1, 0, none⟩)]) (by simp) (by simp [go_sem]) ?_
    refine (catch_idle _ _ _).mono ?_
    rintro e u' w'' ⟨rfl, rfl, rfl⟩
    simp [Leaves, settle, results, Try.results62, go_sem, c0, c1, c2, c3]
    exact ⟨rfl, by go_grown⟩
  · subst he
    go_wp2
    refine leaves_cons (f := 71) (args := #[.pointer (some ⟨w.heap.size, 0, none⟩), .pointer (some ⟨w.heap.size + 1, 0, none⟩)]) (by simp) (by simp [go_sem]) ?_
    refine (catch_panicking w.heap.size nullV 0 _ ⟨c0, c1, c2, c3, f0, f1, f2, f3⟩).mono ?_
    rintro e u' w2 ⟨rfl, rfl, ⟨d0, d1, d2, d3, _⟩, b2⟩
    have hv' : k = 0 ∧ n = 0 ∧ s = ⟨#[]⟩ := by simpa [nullV] using hv
    obtain ⟨rfl, rfl, rfl⟩ := hv'
    obtain rfl : er = 40 := hx
    simp [Leaves, settle, results, Try.results62, go_sem, d0, d1, d2, d3]
    exact ⟨rfl, B.trans b2⟩
end Go.Proofs.Ytfcecblppdgcbaa
