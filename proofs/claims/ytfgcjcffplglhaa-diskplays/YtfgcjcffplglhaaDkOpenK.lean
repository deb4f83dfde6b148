/- How a slice of acts reads, with the reach of its acts' bools. No conditions. -/
import Derived.Test.YtfgcjcffplglhaaDkOpen
namespace Go.Proofs.Ytfgcjcffplglhaa
open Go.ChangeShapes Go.WideShapes Go.ChangeAt Go.RowKit Go.Deep
set_option linter.unusedVariables false
set_option maxRecDepth 20000

theorem bytesOfBool : Try.prog.bytesOf 4 = 1 := by kernel_rfl
theorem weights_all {H : Type} (e : TypeId) (d : DataW H) (n : Nat) (hn : n ∈ DataW.weights Try.prog e d) : ∀ l : List (DataW H), d ∈ l → n ∈ DataW.weightsAll Try.prog e l
  | [], h => by simp at h
  | x :: l, h => by
    simp only [DataW.weightsAll, List.mem_append]
    rcases List.mem_cons.1 h with rfl | h
    · exact Or.inl hn
    · exact Or.inr (weights_all e d n hn l h)
/-- An act's bools are weighed with it. -/
theorem trod_keep {H : Type} {enc : TypeId × Value → H} {W : World} {fuel : Nat} {v0 v1 v2 v3 v4 v6 v7 : Value} {kp : Option Addr} {kl kc : Nat} {x : DataW H × List MemPlace} (h : DataW.trod enc Try.prog W 0 (fun _ => true) true fuel 33 [v0, v1, v2, v3, v4, .slice kp kl kc, v6, v7] = some x) :
    kl = 0 ∨ ∃ q ∈ DataW.weights Try.prog 33 x.1, kl ≤ q := by
  obtain ⟨xs, n, _, hx, hl, hlen, hf⟩ := DataW.trod_struct Try.underlying33 h
  match xs, hlen with
  | [y0, y1, y2, y3, y4, y5, y6, y7], _ =>
    have h5 : DataW.trod enc Try.prog W 0 (fun _ => true) true n 31 [.slice kp kl kc] = some y5 := by simpa [cellsOfKs] using hf 5 _ rfl
    obtain ⟨kp', kc', ks, e5, hk, _, _, hkc, hd⟩ := trod_bits h5
    simp only [Value.slice.injEq] at e5
    obtain ⟨_, rfl, _⟩ := e5
    rcases hd with ⟨_, h0⟩ | ⟨el, sp, hy, he⟩
    · exact Or.inl h0
    · right
      refine ⟨(el.length + sp.length) * Try.prog.bytesOf 4, ?_, by rw [bytesOfBool]; omega⟩
      rw [hx]
      simp only [DataW.weights, Try.underlying33]
      refine DataW.weights_mem_each (P := Try.prog) (j := 5) (t := 31) (d := .slice el sp) rfl ?_ _ ?_
      · simp [hy]
      · simp [DataW.weights, Try.underlying31]
theorem open_opsK {H : Type} {enc : TypeId × Value → H} {W : World} {r : Reach} {b0 : Nat} {v : Value} {d : DataW H} {p : List MemPlace} {ts : List TypeId} {ds : List (DataW H)} {j0 : Nat} (hv : Value.okWide Try.prog W r b0 22 v)
    (h : DataW.Trod enc Try.prog W 0 (fun _ => true) true 22 v d p) (hsz : (DataW.weightsEach Try.prog ts ds).all (· ≤ reachBytes) = true) (ht : ts[j0]? = some 22) (hd : ds[j0]? = some d) :
    ∃ (pa : Option Addr) (cap : Nat) (l : List Opx), v = .slice pa l.length cap ∧ Ops W pa l ∧ l.length ≤ maxLen ∧ l.length ≤ cap ∧ ∀ x ∈ l, x.keep.length ≤ 140737488351232 := by
  obtain ⟨a0, len, cap, rfl⟩ := okWide_slice Try.underlying22 hv
  obtain ⟨fuel, hf⟩ := h
  rcases open_slice Try.underlying22 hf with ⟨hcs, hx⟩ | ⟨a, l, c, m, n, D, Pl, hcs, _, hl, hm, hmm, hx, hel⟩
  · simp [Value.cells] at hcs
    obtain ⟨rfl, rfl, rfl⟩ := hcs
    exact ⟨none, 0, [], rfl, Or.inl rfl, Nat.zero_le _, Nat.zero_le _, by simp⟩
  · simp [Value.cells] at hcs
    obtain ⟨rfl, rfl, rfl⟩ := hcs
    have hlm : len ≤ m := by simp at hmm; omega
    have hdd : d = .slice ((List.range len).map D) ((List.range (m - len)).map fun j => D (len + j)) := (Prod.mk.inj hx).1
    have hall : ∀ i, i < len → ∀ q ∈ DataW.weights Try.prog 33 (D i), q ≤ reachBytes := by
      intro i hi q hq
      have h1 := weights_all _ _ _ hq ((List.range len).map D) (List.mem_map.2 ⟨i, List.mem_range.2 hi, rfl⟩)
      have hw := DataW.weights_mem_each (P := Try.prog) ht hd q (by
        rw [hdd]
        simp only [DataW.weights, Try.underlying22]
        simp only [List.mem_cons, List.mem_append]
        exact Or.inr (Or.inl h1))
      simpa using List.all_eq_true.1 hsz _ hw
    by_cases h0 : len = 0
    · subst h0
      exact ⟨some a, cap, [], rfl, Or.inl rfl, Nat.zero_le _, Nat.zero_le _, by simp⟩
    obtain ⟨b, off, spot⟩ := a
    have hspot : spot = none := by
      obtain ⟨cs', hc, ht⟩ := hel 0 (by omega)
      rw [cellsOfOp] at hc
      obtain ⟨o, bp, kp, bc, kc, rfl, _⟩ := trod_op ht
      obtain ⟨_, _, hcell⟩ := World.cells?_some hc
      have := hcell 0 (by omega)
      simpa [Addr.add] using World.cell?_spot this
    subst hspot
    obtain ⟨f, hF⟩ := choose_lt' (⟨0, 0, 0, [], false, [], 0, 0⟩ : Opx) (n := len) (p := fun i (x : Opx) => OpAt W b (off + i * 8) x ∧ x.keep.length ≤ 140737488351232) (fun i hi => by
      obtain ⟨cs', hc, ht⟩ := hel i (by omega)
      rw [cellsOfOp] at hc
      obtain ⟨o, bp, kp, bc, kc, rfl, hb, hk, r⟩ := trod_op ht
      have hkeep : o.keep.length ≤ 140737488351232 := by
        rcases trod_keep ht with h0 | ⟨q, hq, hle⟩
        · omega
        · have := hall i hi q hq
          simp only [reachBytes] at this
          omega
      obtain ⟨_, _, hcell⟩ := World.cells?_some hc
      have g0 := hcell 0 (by omega)
      have g1 := hcell 1 (by omega)
      have g2 := hcell 2 (by omega)
      have g3 := hcell 3 (by omega)
      have g4 := hcell 4 (by omega)
      have g5 := hcell 5 (by omega)
      have g6 := hcell 6 (by omega)
      have g7 := hcell 7 (by omega)
      simp only [add_plain', Nat.add_zero] at g0 g1 g2 g3 g4 g5 g6 g7
      exact ⟨o, ⟨bp, bc, kp, kc, g0, g1, g2, g3, g4, g5, g6, g7, hb, hk, r⟩, hkeep⟩)
    have hlen : ((List.range len).map f).length = len := by simp
    refine ⟨_, cap, (List.range len).map f, by rw [hlen], Or.inr ⟨b, off, rfl, fun i hi => ?_⟩, by rw [hlen]; omega, by rw [hlen]; omega, fun x hx => ?_⟩
    · rw [hlen] at hi
      simp only [List.getElem_map, List.getElem_range]
      exact (hF i hi).1
    · obtain ⟨i, hi, rfl⟩ := List.mem_map.1 hx
      exact (hF i (List.mem_range.1 hi)).2
end Go.Proofs.Ytfgcjcffplglhaa
