/- Proved: whatever number, values and places AggOrder is called with, it returns true and leaves its arguments as they were: counts, the least and the greatest do not hang on the order in which values come; nor does a sum, where none on the way is too great. No condition beyond the form's own reach. -/
import Derived.Test.YtfcecblppdgcbaaRows
import Derived.ChangeOld
import Derived.Test.YtfcecblppdgcbaaAgOrderWalk
import Derived.Test.YtfcecblppdgcbaaValOpenAll
import Derived.Test.YtfcecblppdgcbaaAgInts
namespace Go.Proofs.Ytfcecblppdgcbaa
open Go.ChangeShapes Go.WideShapes Go.ChangeAt Go.RowKit
set_option linter.unusedVariables false

theorem own : ownKnob Try.prog.godebug = none := by kernel_rfl
theorem laidOut : laidOutB Try.prog = true := by kernel_rfl

set_option maxRecDepth 100000 in
theorem aorder_lifted (os : Os) (started : os.Started) (H : Type) (enc : TypeId × Value → H) :
    ReturnsInHanded {} Try.checked os 4 .any (Rows.aggOrderSpec.pre6 enc Try.prog Try.f4 Rows.aggOrderRow.domain false) (Rows.aggOrderSpec.post enc Try.prog Try.f4 false true false false) := by
  refine returnsInHanded_of_change_sized (C := Try.checked) own started (by kernel_rfl) Try.func4
    (ChangeSpec.witness6 (enc := enc) (C := Try.checked) false ⟨#[], #[.int .i64 0, .slice none 0 0, .slice none 0 0], []⟩ 8 (by kernel_rfl) (by kernel_rfl) (by kernel_rfl) (by kernel_rfl)) ?_
  intro W base args ds gs before hval0 hW hcnd hsz0 _
  have hval : ∀ (j : Nat) t v, Try.f4.params[j]? = some t → args[j]? = some v → Value.okWide Try.prog W .any base t v := hval0
  have hsz : (DataW.weightsEach Try.prog (Try.f4.params.toList ++ Rows.aggOrderSpec.plain.varTypes Try.prog) (ds ++ gs)).all (· ≤ reachBytes) = true := hsz0
  have hW' := hW
  obtain ⟨p, q, hA0, hV, rfl, hfz, hnd⟩ := hW
  have hA : DataW.TrodAll enc Try.prog W 0 (fun _ => true) true Try.f4.params.toList args.toList ds p := hA0
  rw [Try.params4] at hA hval hsz
  obtain ⟨v0, vs0, d0, ds0, q0, qs0, hargs, rfl, rfl, h0, t0⟩ := trodAll_cons hA
  obtain ⟨v1, vs1, d1, ds1, q1, qs1, rfl, rfl, rfl, h1, t1⟩ := trodAll_cons t0
  obtain ⟨v2, vs2, d2, ds2, q2, qs2, rfl, rfl, rfl, h2, t2⟩ := trodAll_cons t1
  obtain ⟨rfl, rfl, rfl⟩ := trodAll_nil t2
  obtain rfl : args = #[v0, v1, v2] := by cases args; simp_all
  obtain ⟨rfl, rfl⟩ := trodVars_none hV
  have lt0 : ∀ x ∈ q0, x.block < W.heap.size := by obtain ⟨m, hm⟩ := h0; exact DataW.trod_lt m _ _ _ hm
  have lt1 : ∀ x ∈ q1, x.block < W.heap.size := by obtain ⟨m, hm⟩ := h1; exact DataW.trod_lt m _ _ _ hm
  have lt2 : ∀ x ∈ q2, x.block < W.heap.size := by obtain ⟨m, hm⟩ := h2; exact DataW.trod_lt m _ _ _ hm
  obtain ⟨a0, rfl, rfl, rfl, w0⟩ := open_int Try.underlying3 (hval 0 3 v0 rfl rfl) h0
  obtain ⟨p1a, c1, l1, rfl, r1, n1, i1, m1, e1⟩ := open_vals_all (hval 1 22 v1 rfl rfl) h1
  have z1 : l1.length * 32 ≤ 140737488351232 := by
    rcases e1 with ⟨_, e⟩ | ⟨el, sp, rfl, e, _⟩
    · simp [e]
    · have := sized_slice hsz (j := 1) (t := 22) (e := 32) rfl rfl Try.underlying22
      rw [bytesOfV] at this
      simp only [reachBytes] at this
      omega
  have y1 : ∀ v ∈ l1, v.s.size ≤ 140737488351232 := by
    intro v hv
    rcases e1 with ⟨_, e⟩ | ⟨el, sp, rfl, _, e⟩
    · rw [e] at hv; simp at hv
    · have := sized_vals hsz (j := 1) rfl rfl (e v hv)
      simp only [reachBytes] at this
      omega
  obtain ⟨p2a, c2, l2, rfl, r2, m2, e2⟩ := open_intsz (hval 2 36 v2 rfl rfl) h2
  have z2 : l2.length ≤ 140737488351232 := by
    rcases e2 with ⟨_, e⟩ | ⟨el, sp, rfl, e⟩
    · omega
    · have := sized_slice hsz (j := 2) (t := 36) (e := 3) rfl rfl Try.underlying36
      rw [bytesOfInt] at this
      simp only [reachBytes] at this
      omega
  clear hA0 hval0
  refine (order_walk a0 l1 l2 p1a p2a c1 c2 W m1 z2 n1 r1 r2 i1 y1).mono fun e W' ⟨he, bel⟩ => ?_
  subst he
  exact ⟨_, rfl, _, _, _, [], _, [], hW', trodAll_mk1 (shut_bool Try.underlying4 _),
    (trodAll_cons_mk (Below.trod laidOut (by kernel_rfl) (of_decide_eq_true (by kernel_rfl)) h0 bel lt0) (trodAll_cons_mk (Below.trod laidOut (by kernel_rfl) (of_decide_eq_true (by kernel_rfl)) h1 bel lt1) (trodAll_cons_mk (Below.trod laidOut (by kernel_rfl) (of_decide_eq_true (by kernel_rfl)) h2 bel lt2) trodAll_mk0))), rfl, bel.frame _, fun h => by cases h⟩

/-- THE STATEMENT. -/
theorem aggOrder_holds : Rows.AggOrderSaid :=
  OpenClaim.holds_of_wide 4 Try.f4 rfl rfl rfl rfl rfl rfl rfl ⟨rfl, rfl, rfl, rfl, rfl⟩ rfl rfl rfl rfl rfl (by kernel_rfl) Try.func4 (by kernel_rfl)
    (of_decide_eq_true (by kernel_rfl)) (by unfold Func.isWrapper; first | (rw [if_pos (by decide +kernel)]; kernel_rfl) | (rw [if_neg (by decide +kernel)]; exact ⟨rfl, rfl⟩))
    (fun os started H enc _ => aorder_lifted os started H enc)
#print axioms aggOrder_holds
end Go.Proofs.Ytfcecblppdgcbaa
