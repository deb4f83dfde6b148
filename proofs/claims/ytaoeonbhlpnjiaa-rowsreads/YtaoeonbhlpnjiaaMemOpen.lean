/- How a slice of bytes reads. No conditions. -/
import Derived.Test.YtaoeonbhlpnjiaaValOpenAll
import Derived.Test.YtaoeonbhlpnjiaaMemBytes
namespace Go.Proofs.Ytaoeonbhlpnjiaa
open Go.ChangeShapes Go.WideShapes Go.ChangeAt Go.RowKit Go.Deep
set_option linter.unusedVariables false

theorem cellsOfByte : Try.prog.cellsOf 5 = 1 := by kernel_rfl
theorem bytesOfByte : Try.prog.bytesOf 5 = 1 := by kernel_rfl

theorem open_bytes {H : Type} {enc : TypeId × Value → H} {W : World} {r : Reach} {b0 : Nat} {v : Value} {d : DataW H} {p : List MemPlace} (hv : Value.okWide Try.prog W r b0 24 v)
    (h : DataW.Trod enc Try.prog W 0 (fun _ => true) true 24 v d p) :
    ∃ (pa : Option Addr) (cap : Nat) (bs : List UInt8), v = .slice pa bs.length cap ∧ Byts W pa bs ∧ (pa = none → bs.length = 0 ∧ cap = 0) ∧ bs.length ≤ maxLen ∧ bs.length ≤ cap ∧
      ((d = .nil ∧ bs.length = 0) ∨ ∃ el sp, d = .slice el sp ∧ el.length = bs.length) := by
  obtain ⟨a0, len, cap, rfl⟩ := okWide_slice Try.underlying24 hv
  obtain ⟨fuel, hf⟩ := h
  rcases open_slice1 Try.underlying24 cellsOfByte hf with ⟨hcs, hx⟩ | ⟨a, l, c, m, n, V, D, Pl, hcs, _, hl, hm, hmm, hx, hel⟩
  · simp [Value.cells] at hcs
    obtain ⟨rfl, rfl, rfl⟩ := hcs
    exact ⟨none, 0, [], rfl, Or.inl rfl, fun _ => ⟨rfl, rfl⟩, Nat.zero_le _, Nat.zero_le _, Or.inl ⟨(Prod.mk.inj hx).1, rfl⟩⟩
  · simp [Value.cells] at hcs
    obtain ⟨rfl, rfl, rfl⟩ := hcs
    have hlm : len ≤ m := by simp at hmm; omega
    obtain ⟨f, hF⟩ := choose_lt (n := len) (p := fun i (x : UInt8) => W.cell? (a.add i) = some (.int .u8 (x.toNat : Int))) (fun i hi => by
      obtain ⟨hc, ht⟩ := hel i (by omega)
      obtain ⟨x, e, _, hw⟩ := DataW.trod_int Try.underlying5 ht
      simp only [List.cons.injEq, and_true] at e
      rw [e] at hc
      have hb : 0 ≤ x ∧ x ≤ 255 := by simpa [Lit.wf, IntKind.min, IntKind.max, IntKind.signed, IntKind.bits] using hw
      refine ⟨UInt8.ofNat x.toNat, ?_⟩
      rw [hc]
      congr 2
      have : (UInt8.ofNat x.toNat).toNat = x.toNat % 256 := by simp
      rw [this]
      omega)
    have hlen : ((List.range len).map f).length = len := by simp
    refine ⟨some a, cap, (List.range len).map f, by rw [hlen], ?_, by simp, by rw [hlen]; omega, by rw [hlen]; omega, Or.inr ⟨_, _, (Prod.mk.inj hx).1, by simp⟩⟩
    by_cases h0 : len = 0
    · subst h0; exact Or.inl rfl
    · right
      obtain ⟨b, off, spot⟩ := a
      have hc := hF 0 (by omega)
      have hspot : spot = none := by simpa [Addr.add] using World.cell?_spot hc
      subst hspot
      refine ⟨b, off, rfl, fun i hi => ?_⟩
      rw [hlen] at hi
      have g0 := hF i hi
      simp only [add_plain, List.getElem_map, List.getElem_range] at *
      exact g0
end Go.Proofs.Ytaoeonbhlpnjiaa
