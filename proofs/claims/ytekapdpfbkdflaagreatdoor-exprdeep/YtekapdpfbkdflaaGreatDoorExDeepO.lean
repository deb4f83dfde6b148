/- How a slice of numbers reads that a law is called with. No conditions. -/
import Derived.Test.YtekapdpfbkdflaaGreatDoorExDeepW
import Derived.ProofKit
import Derived.OpenShut
import Derived.Deep.Slices
namespace Go.Proofs.YtekapdpfbkdflaaGreatDoor
open Go.ChangeShapes Go.WideShapes Go.ChangeAt Go.RowKit Go.Deep
set_option linter.unusedVariables false
set_option maxRecDepth 20000

theorem cellsOfI1 : Tryz.prog.cellsOf 3 = 1 := by kernel_rfl
theorem open_lints {H : Type} {enc : TypeId × Value → H} {W : World} {r : Reach} {b0 : Nat} {v : Value} {d : DataW H} {p : List MemPlace} (hv : Value.okWide Tryz.prog W r b0 39 v)
    (h : DataW.Trod enc Tryz.prog W 0 (fun _ => true) true 39 v d p) :
    ∃ (pa : Option Addr) (cap : Nat) (zs : List Int), v = .slice pa zs.length cap ∧ NR W pa zs ∧ zs.length ≤ maxLen := by
  obtain ⟨a0, len, cap, rfl⟩ := okWide_slice Tryz.underlying39 hv
  obtain ⟨fuel, hf⟩ := h
  rcases open_slice1 Tryz.underlying39 cellsOfI1 hf with ⟨hcs, hx⟩ | ⟨a, l, c, m, n, V, D, Pl, hcs, _, hl, hm, hmm, hx, hel⟩
  · simp [Value.cells] at hcs
    obtain ⟨rfl, rfl, rfl⟩ := hcs
    exact ⟨none, 0, [], rfl, Or.inl rfl, Nat.zero_le _⟩
  · simp [Value.cells] at hcs
    obtain ⟨rfl, rfl, rfl⟩ := hcs
    have hlm : len ≤ m := by simp at hmm; omega
    obtain ⟨f, hF⟩ := choose_lt (n := len) (p := fun i (x : Int) => W.cell? (a.add i) = some (.int .i64 x)) (fun i hi => by
      obtain ⟨hc, ht⟩ := hel i (by omega)
      obtain ⟨x, e, _⟩ := DataW.trod_int Tryz.underlying3 ht
      simp only [List.cons.injEq, and_true] at e
      rw [e] at hc
      exact ⟨x, hc⟩)
    have hlen : ((List.range len).map f).length = len := by simp
    refine ⟨some a, cap, (List.range len).map f, by rw [hlen], ?_, by rw [hlen]; omega⟩
    by_cases h0 : len = 0
    · subst h0; exact Or.inl rfl
    · right
      obtain ⟨b, off, spot⟩ := a
      have hc := hF 0 (by omega)
      have hspot : spot = none := by simpa [Addr.add] using World.cell?_spot hc
      subst hspot
      refine ⟨b, off, rfl, fun i hi => ?_⟩
      rw [hlen] at hi
      have g0 := hF i hi
      simp only [add_plain, List.getElem_map, List.getElem_range] at *
      exact g0
end Go.Proofs.YtekapdpfbkdflaaGreatDoor
