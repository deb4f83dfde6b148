/- Proved: whatever values AggBounds is called with, it returns true and leaves its argument as it was: the least is not above any, the greatest not below any, both are among the values, and the count is how many are not NULL. No condition beyond the form's own reach. -/
import Derived.Test.YtfcecblppdgcbaaRows
import Derived.ChangeOld
import Derived.Test.YtfcecblppdgcbaaAgBoundsWalk
import Derived.Test.YtfcecblppdgcbaaValOpenAll
namespace Go.Proofs.Ytfcecblppdgcbaa
open Go.ChangeShapes Go.WideShapes Go.ChangeAt Go.RowKit
set_option linter.unusedVariables false

theorem own : ownKnob Try.prog.godebug = none := by kernel_rfl
theorem laidOut : laidOutB Try.prog = true := by kernel_rfl

set_option maxRecDepth 100000 in
theorem abounds_lifted (os : Os) (started : os.Started) (H : Type) (enc : TypeId × Value → H) :
    ReturnsInHanded {} Try.checked os 5 .any (Rows.aggBoundsSpec.pre6 enc Try.prog Try.f5 Rows.aggBoundsRow.domain false) (Rows.aggBoundsSpec.post enc Try.prog Try.f5 false true false false) := by
  refine returnsInHanded_of_change_sized (C := Try.checked) own started (by kernel_rfl) Try.func5
    (ChangeSpec.witness6 (enc := enc) (C := Try.checked) false ⟨#[], #[.slice none 0 0], []⟩ 8 (by kernel_rfl) (by kernel_rfl) (by kernel_rfl) (by kernel_rfl)) ?_
  intro W base args ds gs before hval0 hW hcnd hsz0 _
  have hval : ∀ (j : Nat) t v, Try.f5.params[j]? = some t → args[j]? = some v → Value.okWide Try.prog W .any base t v := hval0
  have hsz : (DataW.weightsEach Try.prog (Try.f5.params.toList ++ Rows.aggBoundsSpec.plain.varTypes Try.prog) (ds ++ gs)).all (· ≤ reachBytes) = true := hsz0
  have hW' := hW
  obtain ⟨p, q, hA0, hV, rfl, hfz, hnd⟩ := hW
  have hA : DataW.TrodAll enc Try.prog W 0 (fun _ => true) true Try.f5.params.toList args.toList ds p := hA0
  rw [Try.params5] at hA hval hsz
  obtain ⟨v0, vs0, d0, ds0, q0, qs0, hargs, rfl, rfl, h0, t0⟩ := trodAll_cons hA
  obtain ⟨rfl, rfl, rfl⟩ := trodAll_nil t0
  obtain rfl : args = #[v0] := by cases args; simp_all
  obtain ⟨rfl, rfl⟩ := trodVars_none hV
  have lt0 : ∀ x ∈ q0, x.block < W.heap.size := by obtain ⟨m, hm⟩ := h0; exact DataW.trod_lt m _ _ _ hm
  obtain ⟨p0a, c0, l0, rfl, r0, n0, i0, m0, e0⟩ := open_vals_all (hval 0 22 v0 rfl rfl) h0
  have z0 : l0.length * 32 ≤ 140737488351232 := by
    rcases e0 with ⟨_, e⟩ | ⟨el, sp, rfl, e, _⟩
    · simp [e]
    · have := sized_slice hsz (j := 0) (t := 22) (e := 32) rfl rfl Try.underlying22
      rw [bytesOfV] at this
      simp only [reachBytes] at this
      omega
  have y0 : ∀ v ∈ l0, v.s.size ≤ 140737488351232 := by
    intro v hv
    rcases e0 with ⟨_, e⟩ | ⟨el, sp, rfl, _, e⟩
    · rw [e] at hv; simp at hv
    · have := sized_vals hsz (j := 0) rfl rfl (e v hv)
      simp only [reachBytes] at this
      omega
  clear hA0 hval0
  refine (bounds_walk l0 p0a c0 W m0 r0 i0 y0).mono fun e W' ⟨he, bel⟩ => ?_
  subst he
  exact ⟨_, rfl, _, _, _, [], _, [], hW', trodAll_mk1 (shut_bool Try.underlying4 _),
    (trodAll_cons_mk (Below.trod laidOut (by kernel_rfl) (of_decide_eq_true (by kernel_rfl)) h0 bel lt0) trodAll_mk0), rfl, bel.frame _, fun h => by cases h⟩

/-- THE STATEMENT. -/
theorem aggBounds_holds : Rows.AggBoundsSaid :=
  OpenClaim.holds_of_wide 5 Try.f5 rfl rfl rfl rfl rfl rfl rfl ⟨rfl, rfl, rfl, rfl, rfl⟩ rfl rfl rfl rfl rfl (by kernel_rfl) Try.func5 (by kernel_rfl)
    (of_decide_eq_true (by kernel_rfl)) (by unfold Func.isWrapper; first | (rw [if_pos (by decide +kernel)]; kernel_rfl) | (rw [if_neg (by decide +kernel)]; exact ⟨rfl, rfl⟩))
    (fun os started H enc _ => abounds_lifted os started H enc)
#print axioms aggBounds_holds
end Go.Proofs.Ytfcecblppdgcbaa
