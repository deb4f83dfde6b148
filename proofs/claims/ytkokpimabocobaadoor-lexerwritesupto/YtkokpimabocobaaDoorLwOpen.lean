/- How the argument of LexerWrites reads: a word; and what the bound of the second form gives: its text's length. No conditions. -/
import Derived.Test.YtkokpimabocobaaDoorRows
import Derived.ProofKit
import Derived.OpenShut
import Derived.Lib.SmallJoins
import Derived.Deep.Slices
namespace Go.Proofs.YtkokpimabocobaaDoor
open Go.ChangeShapes Go.WideShapes Go.ChangeAt Go.RowKit Go.Deep Go.Joins
set_option linter.unusedVariables false

theorem cellsOfTok : Tryd.prog.cellsOf 23 = 4 := by kernel_rfl
theorem cellsOfI : Tryd.prog.cellsOf 3 = 1 := by kernel_rfl
theorem cellsOfI64 : Tryd.prog.cellsOf 2 = 1 := by kernel_rfl
theorem cellsOfS : Tryd.prog.cellsOf 9 = 1 := by kernel_rfl

theorem open_tok {H : Type} {enc : TypeId × Value → H} {W : World} {r : Reach} {b0 : Nat} {v : Value} {d : DataW H} {p : List MemPlace} (hv : Value.okWide Tryd.prog W r b0 23 v)
    (h : DataW.Trod enc Tryd.prog W 0 (fun _ => true) true 23 v d p) :
    ∃ (k i n : Int) (s : ByteArray), v = .agg #[.int .i64 k, .string s, .int .i64 i, .int .i64 n] ∧ d = .agg [.lit (.int .i64 k), .lit (.string s.data.toList), .lit (.int .i64 i), .lit (.int .i64 n)] ∧ s.size ≤ maxLen ∧ -9223372036854775808 ≤ n ∧ n ≤ 9223372036854775807 := by
  obtain ⟨cs, rfl, hsz⟩ := okWide_struct Tryd.underlying23 hv
  obtain ⟨fuel, hf⟩ := h
  obtain ⟨y0, y1, y2, y3, n, hx, hl, h0, h1, h2, h3⟩ := trod_struct4 Tryd.underlying23 hf
  rw [cellsOfTok] at hl
  obtain ⟨cl⟩ := cs
  simp only [Value.cells] at hl h0 h1 h2 h3
  match cl, hl with
  | [c0, c1, c2, c3], _ =>
    simp only [cellsOfI, cellsOfI64, cellsOfS, List.drop_zero, List.take_succ_cons, List.take_zero, List.drop_succ_cons] at h0 h1 h2 h3
    obtain ⟨k, e0, g0, _⟩ := DataW.trod_int Tryd.underlying3 h0
    obtain ⟨s, e1, g1, hs⟩ := DataW.trod_string Tryd.underlying9 h1
    obtain ⟨i, e2, g2, _⟩ := DataW.trod_int Tryd.underlying3 h2
    obtain ⟨m, e3, g3, wm⟩ := DataW.trod_int Tryd.underlying2 h3
    simp only [List.cons.injEq, and_true] at e0 e1 e2 e3
    subst e0 e1 e2 e3 g0 g1 g2 g3
    exact ⟨k, i, m, s, rfl, (Prod.mk.inj hx).1, hs, bounds_i64 wm⟩

theorem small_tok {H : Type} {k i n : Int} {s : ByteArray} (hk : Rows.uptoSmall H [.agg [.lit (.int .i64 k), .lit (.string s.data.toList), .lit (.int .i64 i), .lit (.int .i64 n)]] = true) : s.size ≤ 1048576 := by
  have h := of_decide_eq_true hk
  simp only [Rows.uptoBulkAll, Rows.uptoBulk] at h
  have : s.data.toList.length = s.size := by simp
  omega
end Go.Proofs.YtkokpimabocobaaDoor
