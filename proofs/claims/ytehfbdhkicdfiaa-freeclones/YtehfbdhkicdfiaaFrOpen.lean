/- How slices of numbers and of acts on sets of pages read, with the reach of the acts' numbers. No conditions. -/
import Derived.Test.YtehfbdhkicdfiaaFrOnly
import Derived.Deep.Slices
import Derived.Deep.Strs
import Derived.ChangeOld
import Derived.SizedLaws
namespace Go.Proofs.Ytehfbdhkicdfiaa
open Go.ChangeShapes Go.WideShapes Go.ChangeAt Go.RowKit Go.Deep
set_option linter.unusedVariables false
set_option maxRecDepth 20000

theorem cellsOfInt : Try.prog.cellsOf 3 = 1 := by kernel_rfl
theorem cellsOfIs : Try.prog.cellsOf 27 = 1 := by kernel_rfl
theorem bytesOfInt : Try.prog.bytesOf 3 = 8 := by kernel_rfl
theorem cellsOfOp7 : Try.prog.cellsOf 29 = 3 := by kernel_rfl
theorem bounds_i64 {n : Int} (h : (Lit.int .i64 n).wf = true) : -9223372036854775808 ≤ n ∧ n ≤ 9223372036854775807 := by
  simpa [Lit.wf, IntKind.min, IntKind.max, IntKind.signed, IntKind.bits] using h
theorem choose_lt' {α : Type} (d0 : α) {n : Nat} {p : Nat → α → Prop} (h : ∀ i, i < n → ∃ x, p i x) : ∃ f : Nat → α, ∀ i, i < n → p i (f i) := by
  classical
  refine ⟨fun i => if hi : i < n then Classical.choose (h i hi) else d0, fun i hi => ?_⟩
  simp only [hi, dif_pos]
  exact Classical.choose_spec (h i hi)
theorem add_plain' (b off n : Nat) : (⟨b, off, none⟩ : Addr).add n = ⟨b, off + n, none⟩ := Addr.add_mid b off n
/-- A slice of numbers, read. -/
theorem trod_ints {H : Type} {enc : TypeId × Value → H} {W : World} {fuel : Nat} {c : Value} {x : DataW H × List MemPlace} (h : DataW.trod enc Try.prog W 0 (fun _ => true) true fuel 27 [c] = some x) :
    ∃ (pa : Option Addr) (cap : Nat) (bs : List Int), c = .slice pa bs.length cap ∧ Ints W pa bs ∧ bs.length ≤ maxLen ∧ bs.length ≤ cap ∧ (pa = none → bs.length = 0 ∧ cap = 0) ∧ ((x.1 = .nil ∧ bs.length = 0) ∨ ∃ el sp, x.1 = .slice el sp ∧ el.length = bs.length) := by
  rcases open_slice1 Try.underlying27 cellsOfInt h with ⟨hcs, hx⟩ | ⟨a, l, cp, m, n, V, D, Pl, hcs, _, hl, hm, hmm, hx, hel⟩
  · simp only [List.cons.injEq, and_true] at hcs
    exact ⟨none, 0, [], hcs, Or.inl rfl, Nat.zero_le _, Nat.zero_le _, fun _ => ⟨rfl, rfl⟩, Or.inl ⟨by rw [hx], rfl⟩⟩
  · simp only [List.cons.injEq, and_true] at hcs
    have hlm : l ≤ m := by simp at hmm; omega
    obtain ⟨f, hF⟩ := choose_lt' (0 : Int) (n := l) (p := fun i (x : Int) => W.cell? (a.add i) = some (.int .i64 x)) (fun i hi => by
      obtain ⟨hc, ht⟩ := hel i (by omega)
      obtain ⟨x, e, _, hw⟩ := DataW.trod_int Try.underlying3 ht
      simp only [List.cons.injEq, and_true] at e
      rw [e] at hc
      exact ⟨x, hc⟩)
    have hlen : ((List.range l).map f).length = l := by simp
    refine ⟨some a, cp, (List.range l).map f, by rw [hlen]; exact hcs, ?_, by rw [hlen]; omega, by rw [hlen]; omega, by simp, Or.inr ⟨_, _, by rw [hx], by simp⟩⟩
    by_cases h0 : l = 0
    · subst h0; exact Or.inl rfl
    · right
      obtain ⟨b, off, spot⟩ := a
      have hc := hF 0 (by omega)
      have hspot : spot = none := by simpa [Addr.add] using World.cell?_spot hc
      subst hspot
      refine ⟨b, off, rfl, fun i hi => ?_⟩
      rw [hlen] at hi
      have g0 := hF i hi
      simp only [add_plain', List.getElem_map, List.getElem_range] at *
      exact g0
theorem open_ints {H : Type} {enc : TypeId × Value → H} {W : World} {r : Reach} {b0 : Nat} {v : Value} {d : DataW H} {p : List MemPlace} (hv : Value.okWide Try.prog W r b0 27 v)
    (h : DataW.Trod enc Try.prog W 0 (fun _ => true) true 27 v d p) : ∃ (pa : Option Addr) (cap : Nat) (l : List Int), v = .slice pa l.length cap ∧ Ints W pa l ∧ l.length ≤ maxLen ∧ l.length ≤ cap := by
  obtain ⟨a0, len, cap, rfl⟩ := okWide_slice Try.underlying27 hv
  obtain ⟨fuel, hf⟩ := h
  obtain ⟨pa, c, l, e, hb, h1, h2, _⟩ := trod_ints hf
  exact ⟨pa, c, l, e, hb, h1, h2⟩
/-- An act. -/
structure Opz where
  kind : Int
  n : Int
  l : List Int
/-- An act in memory. -/
def OpAt7 (w : World) (g o : Nat) (x : Opz) : Prop :=
  ∃ lp lc, w.cell? ⟨g, o, none⟩ = some (.int .i64 x.kind) ∧ w.cell? ⟨g, o + 1, none⟩ = some (.int .i64 x.n) ∧ w.cell? ⟨g, o + 2, none⟩ = some (.slice lp x.l.length lc) ∧
    Ints w lp x.l ∧ (-9223372036854775808 ≤ x.n ∧ x.n ≤ 9223372036854775807) ∧ x.l.length ≤ lc ∧ (lp = none → x.l.length = 0 ∧ lc = 0)
/-- A slice of acts in memory. -/
def Ops7 (w : World) (p : Option Addr) (l : List Opz) : Prop := l = [] ∨ ∃ g off, p = some ⟨g, off, none⟩ ∧ ∀ i (h : i < l.length), OpAt7 w g (off + i * 3) l[i]
theorem Ops7.at {w : World} {p : Option Addr} {l : List Opz} (h : Ops7 w p l) {k : Nat} (hk : k < l.length) : ∃ g off, p = some ⟨g, off, none⟩ ∧ OpAt7 w g (off + k * 3) l[k] := by
  rcases h with rfl | ⟨g, off, hp, hc⟩
  · simp at hk
  · exact ⟨g, off, hp, hc k hk⟩
theorem weights_all7 {H : Type} (e : TypeId) (d : DataW H) (n : Nat) (hn : n ∈ DataW.weights Try.prog e d) : ∀ l : List (DataW H), d ∈ l → n ∈ DataW.weightsAll Try.prog e l
  | [], h => by simp at h
  | x :: l, h => by
    simp only [DataW.weightsAll, List.mem_append]
    rcases List.mem_cons.1 h with rfl | h
    · exact Or.inl hn
    · exact Or.inr (weights_all7 e d n hn l h)
/-- An act, read; its numbers are weighed with it. -/
theorem trod_op7 {H : Type} {enc : TypeId × Value → H} {W : World} {fuel : Nat} {cs : List Value} {x : DataW H × List MemPlace} (h : DataW.trod enc Try.prog W 0 (fun _ => true) true fuel 29 cs = some x) :
    ∃ (o : Opz) (lp : Option Addr) (lc : Nat), cs = [.int .i64 o.kind, .int .i64 o.n, .slice lp o.l.length lc] ∧
      Ints W lp o.l ∧ ((-9223372036854775808 ≤ o.n ∧ o.n ≤ 9223372036854775807) ∧ o.l.length ≤ lc ∧ (lp = none → o.l.length = 0 ∧ lc = 0)) ∧ (o.l.length = 0 ∨ ∃ q ∈ DataW.weights Try.prog 29 x.1, o.l.length * 8 ≤ q) := by
  obtain ⟨xs, n, _, hx, hl, hlen, hf⟩ := DataW.trod_struct Try.underlying29 h
  rw [cellsOfOp7] at hl
  match cs, hl with
  | [c0, c1, c2], _ =>
    match xs, hlen with
    | [y0, y1, y2], _ =>
      have h0 : DataW.trod enc Try.prog W 0 (fun _ => true) true n 3 [c0] = some y0 := by simpa [cellsOfInt] using hf 0 _ rfl
      have h1 : DataW.trod enc Try.prog W 0 (fun _ => true) true n 3 [c1] = some y1 := by simpa [cellsOfInt] using hf 1 _ rfl
      have h2 : DataW.trod enc Try.prog W 0 (fun _ => true) true n 27 [c2] = some y2 := by simpa [cellsOfIs] using hf 2 _ rfl
      obtain ⟨k0, e0, _, w0⟩ := DataW.trod_int Try.underlying3 h0
      obtain ⟨k1, e1, _, w1⟩ := DataW.trod_int Try.underlying3 h1
      obtain ⟨lp, lc, ls, e2, hb, _, hbc, hnil, hd⟩ := trod_ints h2
      simp only [List.cons.injEq, and_true] at e0 e1
      refine ⟨⟨k0, k1, ls⟩, lp, lc, ?_, hb, ⟨bounds_i64 w1, hbc, hnil⟩, ?_⟩
      · rw [e0, e1, e2]
      · rcases hd with ⟨_, h0⟩ | ⟨el, sp, hy, he⟩
        · exact Or.inl h0
        · right
          refine ⟨(el.length + sp.length) * Try.prog.bytesOf 3, ?_, by rw [bytesOfInt, he]; show ls.length * 8 ≤ _; omega⟩
          rw [hx]
          simp only [DataW.weights, Try.underlying29]
          refine DataW.weights_mem_each (P := Try.prog) (j := 2) (t := 27) (d := .slice el sp) rfl ?_ _ ?_
          · simp [hy]
          · simp [DataW.weights, Try.underlying27]
theorem open_ops7 {H : Type} {enc : TypeId × Value → H} {W : World} {r : Reach} {b0 : Nat} {v : Value} {d : DataW H} {p : List MemPlace} {ts : List TypeId} {ds : List (DataW H)} {j0 : Nat} (hv : Value.okWide Try.prog W r b0 22 v)
    (h : DataW.Trod enc Try.prog W 0 (fun _ => true) true 22 v d p) (hsz : (DataW.weightsEach Try.prog ts ds).all (· ≤ reachBytes) = true) (ht : ts[j0]? = some 22) (hd : ds[j0]? = some d) :
    ∃ (pa : Option Addr) (cap : Nat) (l : List Opz), v = .slice pa l.length cap ∧ Ops7 W pa l ∧ l.length ≤ maxLen ∧ l.length ≤ cap ∧ ∀ x ∈ l, x.l.length * 8 ≤ 140737488351232 := by
  obtain ⟨a0, len, cap, rfl⟩ := okWide_slice Try.underlying22 hv
  obtain ⟨fuel, hf⟩ := h
  rcases open_slice Try.underlying22 hf with ⟨hcs, hx⟩ | ⟨a, l, c, m, n, D, Pl, hcs, _, hl, hm, hmm, hx, hel⟩
  · simp [Value.cells] at hcs
    obtain ⟨rfl, rfl, rfl⟩ := hcs
    exact ⟨none, 0, [], rfl, Or.inl rfl, Nat.zero_le _, Nat.zero_le _, by simp⟩
  · simp [Value.cells] at hcs
    obtain ⟨rfl, rfl, rfl⟩ := hcs
    have hlm : len ≤ m := by simp at hmm; omega
    have hdd : d = .slice ((List.range len).map D) ((List.range (m - len)).map fun j => D (len + j)) := (Prod.mk.inj hx).1
    have hall : ∀ i, i < len → ∀ q ∈ DataW.weights Try.prog 29 (D i), q ≤ reachBytes := by
      intro i hi q hq
      have h1 := weights_all7 _ _ _ hq ((List.range len).map D) (List.mem_map.2 ⟨i, List.mem_range.2 hi, rfl⟩)
      have hw := DataW.weights_mem_each (P := Try.prog) ht hd q (by
        rw [hdd]
        simp only [DataW.weights, Try.underlying22]
        simp only [List.mem_cons, List.mem_append]
        exact Or.inr (Or.inl h1))
      simpa using List.all_eq_true.1 hsz _ hw
    by_cases h0 : len = 0
    · subst h0
      exact ⟨some a, cap, [], rfl, Or.inl rfl, Nat.zero_le _, Nat.zero_le _, by simp⟩
    obtain ⟨b, off, spot⟩ := a
    have hspot : spot = none := by
      obtain ⟨cs', hc, ht⟩ := hel 0 (by omega)
      rw [cellsOfOp7] at hc
      obtain ⟨o, lp, lc, rfl, _⟩ := trod_op7 ht
      obtain ⟨_, _, hcell⟩ := World.cells?_some hc
      have := hcell 0 (by omega)
      simpa [Addr.add] using World.cell?_spot this
    subst hspot
    obtain ⟨f, hF⟩ := choose_lt' (⟨0, 0, []⟩ : Opz) (n := len) (p := fun i (x : Opz) => OpAt7 W b (off + i * 3) x ∧ x.l.length * 8 ≤ 140737488351232) (fun i hi => by
      obtain ⟨cs', hc, ht⟩ := hel i (by omega)
      rw [cellsOfOp7] at hc
      obtain ⟨o, lp, lc, rfl, hb, ⟨r1, r2, r3⟩, hk⟩ := trod_op7 ht
      have hkeep : o.l.length * 8 ≤ 140737488351232 := by
        rcases hk with h0 | ⟨q, hq, hle⟩
        · omega
        · have := hall i hi q hq
          simp only [reachBytes] at this
          omega
      obtain ⟨_, _, hcell⟩ := World.cells?_some hc
      have g0 := hcell 0 (by omega)
      have g1 := hcell 1 (by omega)
      have g2 := hcell 2 (by omega)
      simp only [add_plain', Nat.add_zero] at g0 g1 g2
      exact ⟨o, ⟨lp, lc, g0, g1, g2, hb, r1, r2, r3⟩, hkeep⟩)
    have hlen : ((List.range len).map f).length = len := by simp
    refine ⟨_, cap, (List.range len).map f, by rw [hlen], Or.inr ⟨b, off, rfl, fun i hi => ?_⟩, by rw [hlen]; omega, by rw [hlen]; omega, fun x hx => ?_⟩
    · rw [hlen] at hi
      simp only [List.getElem_map, List.getElem_range]
      exact (hF i hi).1
    · obtain ⟨i, hi, rfl⟩ := List.mem_map.1 hx
      exact (hF i (List.mem_range.1 hi)).2
end Go.Proofs.Ytehfbdhkicdfiaa
