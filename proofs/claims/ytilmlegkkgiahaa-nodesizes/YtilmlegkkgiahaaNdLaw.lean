/- What the laws of nodes share. Conditions: the node lies within the reach. -/
import Derived.Test.YtilmlegkkgiahaaNWritesWalk
import Derived.Test.YtilmlegkkgiahaaNdWorks
import Derived.Test.YtilmlegkkgiahaaNdDec
namespace Go.Proofs.Ytilmlegkkgiahaa
open Go.RowKit Go.Lib Go.Sort
set_option linter.unusedVariables false
set_option maxRecDepth 20000

theorem umod_bd (n m : Int) (h0 : 0 < m) (h1 : m ≤ 1000) : 0 ≤ wrap64 ((IntKind.u64.wrap n).tmod m) ∧ wrap64 ((IntKind.u64.wrap n).tmod m) < m := by
  have hw : 0 ≤ IntKind.u64.wrap n := by
    have e : IntKind.u64.wrap n = n % 18446744073709551616 := by simp [IntKind.wrap, IntKind.bits, IntKind.signed]
    rw [e]; omega
  generalize IntKind.u64.wrap n = u at *
  have a1 := Int.tmod_lt_of_pos u h0
  have a2 : 0 ≤ u.tmod m := Int.tmod_nonneg m hw
  generalize u.tmod m = t at *
  have e : wrap64 t = t := by unfold wrap64; omega
  rw [e]
  exact ⟨a2, a1⟩
/-- Encode of a right node; of another one. -/
theorem encode_right {F : Nat → Prop} (cv kv dv : Value) (n : Nd) (w : World) (h : NV w F cv kv dv n) (hr : n.err = 0) :
    Calls Try.prog 10 #[.agg #[.bool n.leaf, cv, kv, dv]] w fun e w' => Below w.heap.size w w' ∧ ∃ v, e = .returned (.tuple #[v, .int .i64 0]) ∧ OwnB w' w.heap.size v n.load :=
  (encode_any cv kv dv n w h).mono (fun e w' ⟨B, q⟩ => by
    rcases q with ⟨_, q⟩ | ⟨q, _⟩
    · exact ⟨B, q⟩
    · exact absurd hr q)
theorem encode_wrong {F : Nat → Prop} (cv kv dv : Value) (n : Nd) (w : World) (h : NV w F cv kv dv n) (hr : n.err ≠ 0) :
    Calls Try.prog 10 #[.agg #[.bool n.leaf, cv, kv, dv]] w fun e w' => e = .returned (.tuple #[.slice none 0 0, .int .i64 n.err]) ∧ Below w.heap.size w w' :=
  (encode_any cv kv dv n w h).mono (fun e w' ⟨B, q⟩ => by
    rcases q with ⟨q, _⟩ | ⟨_, q⟩
    · exact absurd q hr
    · exact ⟨q, B⟩)
/-- Decode of a load of a node; of bytes that are none. -/
theorem decode_some {F : Nat → Prop} (v : Value) (l : List UInt8) (n : Nd) (w : World) (h : BV w F v l) (hd : decN l = some n) :
    Calls Try.prog 19 #[v] w fun e w' => Below w.heap.size w w' ∧ ∃ cv kv dv, e = .returned (.tuple #[.agg #[.bool n.leaf, cv, kv, dv], .int .i64 0]) ∧ NV w' (w.heap.size ≤ ·) cv kv dv n :=
  (ndecode_any v l w h).mono (fun e w' ⟨B, m, er, cv, kv, dv, he, N, q⟩ => by
    rw [hd] at q
    rcases q with ⟨q, rfl⟩ | ⟨q, _⟩
    · simp only [Option.some.injEq] at q
      subst q
      exact ⟨B, cv, kv, dv, he, N⟩
    · exact absurd q (by simp))
theorem decode_none {F : Nat → Prop} (v : Value) (l : List UInt8) (w : World) (h : BV w F v l) (hd : decN l = none) :
    Calls Try.prog 19 #[v] w fun e w' => Below w.heap.size w w' ∧ ∃ p1 c1 p2 c2 p3 c3, e = .returned (.tuple #[.agg #[.bool false, .slice p1 0 c1, .slice p2 0 c2, .slice p3 0 c3], .int .i64 10]) :=
  (ndecode_any v l w h).mono (fun e w' ⟨B, m, er, cv, kv, dv, he, N, q⟩ => by
    rw [hd] at q
    rcases q with ⟨q, _⟩ | ⟨_, rfl, rfl⟩
    · exact absurd q (by simp)
    · obtain ⟨p1, c1, p2, c2, p3, c3, rfl, rfl, rfl⟩ := N.formed
      exact ⟨B, p1, c1, p2, c2, p3, c3, he⟩)
/-- A load with one byte turned is another node's, or none's. -/
theorem set_ne {l : List UInt8} {k : Nat} {c : UInt8} (hk : k < l.length) (h : l[k] ≠ c) : l.set k c ≠ l := by
  intro e
  have h1 : (l.set k c)[k]'(by rw [List.length_set]; exact hk) = l[k] := by simp only [e]
  rw [List.getElem_set_self] at h1
  exact h h1.symm
theorem dec_other {n m : Nd} {k : Nat} {c : UInt8} (hr : n.right) (hk : k < n.load.length) (h : n.load[k] ≠ c) (hd : decN (n.load.set k c) = some m) : m.err = 0 ∧ m.load = n.load.set k c ∧ sameN m n = false := by
  obtain ⟨h1, h2⟩ := decN_sound hd
  refine ⟨(Nd.right_iff m).1 h1, h2, ?_⟩
  cases hs : sameN m n
  · rfl
  · exfalso
    have := (sameN_eq m n).1 hs
    subst this
    exact set_ne hk h h2.symm
end Go.Proofs.Ytilmlegkkgiahaa
