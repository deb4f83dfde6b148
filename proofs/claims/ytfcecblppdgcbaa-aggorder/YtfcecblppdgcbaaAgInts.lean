/- Slices of numbers: in memory, and how they read; places drawn out of them. No conditions. -/
import Derived.Test.YtfcecblppdgcbaaAgNn
import Derived.Test.YtfcecblppdgcbaaValOpenAll
import Derived.Deep.Slices
import Derived.Deep.Strs
import Derived.ChangeOld
import Derived.SizedLaws
namespace Go.Proofs.Ytfcecblppdgcbaa
open Go.ChangeShapes Go.WideShapes Go.ChangeAt Go.RowKit Go.Deep
set_option linter.unusedVariables false
set_option maxRecDepth 20000

def Ints (w : World) (p : Option Addr) (l : List Int) : Prop := l = [] ∨ ∃ b off, p = some ⟨b, off, none⟩ ∧ ∀ i (h : i < l.length), w.cell? ⟨b, off + i, none⟩ = some (.int .i64 l[i])
theorem Ints.below {w w' : World} {p : Option Addr} {l : List Int} (h : Ints w p l) (B : Below w.heap.size w w') : Ints w' p l := by
  rcases h with h | ⟨b, off, hp, hc⟩
  · exact Or.inl h
  · exact Or.inr ⟨b, off, hp, fun i hi => (World.cell?_of_block (w := w) (a := ⟨b, off + i, none⟩) (B.block b (cell_lt (hc i hi)))).trans (hc i hi)⟩
theorem Ints.at {w : World} {p : Option Addr} {l : List Int} (h : Ints w p l) {k : Nat} (hk : k < l.length) : ∃ b off, p = some ⟨b, off, none⟩ ∧ w.cell? ⟨b, off + k, none⟩ = some (.int .i64 l[k]) := by
  rcases h with rfl | ⟨b, off, hp, hc⟩
  · simp at hk
  · exact ⟨b, off, hp, hc k hk⟩

theorem cellsOfIs : Try.prog.cellsOf 36 = 1 := by kernel_rfl
theorem bytesOfInt : Try.prog.bytesOf 3 = 8 := by kernel_rfl
theorem choose_lt' {α : Type} (d0 : α) {n : Nat} {p : Nat → α → Prop} (h : ∀ i, i < n → ∃ x, p i x) : ∃ f : Nat → α, ∀ i, i < n → p i (f i) := by
  classical
  refine ⟨fun i => if hi : i < n then Classical.choose (h i hi) else d0, fun i hi => ?_⟩
  simp only [hi, dif_pos]
  exact Classical.choose_spec (h i hi)
theorem add_plain' (b off n : Nat) : (⟨b, off, none⟩ : Addr).add n = ⟨b, off + n, none⟩ := Addr.add_mid b off n
/-- A slice of numbers, read. -/
theorem trod_ints {H : Type} {enc : TypeId × Value → H} {W : World} {fuel : Nat} {c : Value} {x : DataW H × List MemPlace} (h : DataW.trod enc Try.prog W 0 (fun _ => true) true fuel 36 [c] = some x) :
    ∃ (pa : Option Addr) (cap : Nat) (bs : List Int), c = .slice pa bs.length cap ∧ Ints W pa bs ∧ bs.length ≤ maxLen ∧ bs.length ≤ cap ∧ (pa = none → bs.length = 0 ∧ cap = 0) ∧ ((x.1 = .nil ∧ bs.length = 0) ∨ ∃ el sp, x.1 = .slice el sp ∧ el.length = bs.length) := by
  rcases open_slice1 Try.underlying36 cellsOfInt h with ⟨hcs, hx⟩ | ⟨a, l, cp, m, n, V, D, Pl, hcs, _, hl, hm, hmm, hx, hel⟩
  · simp only [List.cons.injEq, and_true] at hcs
    exact ⟨none, 0, [], hcs, Or.inl rfl, Nat.zero_le _, Nat.zero_le _, fun _ => ⟨rfl, rfl⟩, Or.inl ⟨by rw [hx], rfl⟩⟩
  · simp only [List.cons.injEq, and_true] at hcs
    have hlm : l ≤ m := by simp at hmm; omega
    obtain ⟨f, hF⟩ := choose_lt' (0 : Int) (n := l) (p := fun i (x : Int) => W.cell? (a.add i) = some (.int .i64 x)) (fun i hi => by
      obtain ⟨hc, ht⟩ := hel i (by omega)
      obtain ⟨x, e, _, hw⟩ := DataW.trod_int Try.underlying3 ht
      simp only [List.cons.injEq, and_true] at e
      rw [e] at hc
      exact ⟨x, hc⟩)
    have hlen : ((List.range l).map f).length = l := by simp
    refine ⟨some a, cp, (List.range l).map f, by rw [hlen]; exact hcs, ?_, by rw [hlen]; omega, by rw [hlen]; omega, by simp, Or.inr ⟨_, _, by rw [hx], by simp⟩⟩
    by_cases h0 : l = 0
    · subst h0; exact Or.inl rfl
    · right
      obtain ⟨b, off, spot⟩ := a
      have hc := hF 0 (by omega)
      have hspot : spot = none := by simpa [Addr.add] using World.cell?_spot hc
      subst hspot
      refine ⟨b, off, rfl, fun i hi => ?_⟩
      rw [hlen] at hi
      have g0 := hF i hi
      simp only [add_plain', List.getElem_map, List.getElem_range] at *
      exact g0
theorem open_ints {H : Type} {enc : TypeId × Value → H} {W : World} {r : Reach} {b0 : Nat} {v : Value} {d : DataW H} {p : List MemPlace} (hv : Value.okWide Try.prog W r b0 36 v)
    (h : DataW.Trod enc Try.prog W 0 (fun _ => true) true 36 v d p) : ∃ (pa : Option Addr) (cap : Nat) (l : List Int), v = .slice pa l.length cap ∧ Ints W pa l ∧ l.length ≤ maxLen ∧ l.length ≤ cap := by
  obtain ⟨a0, len, cap, rfl⟩ := okWide_slice Try.underlying36 hv
  obtain ⟨fuel, hf⟩ := h
  obtain ⟨pa, c, l, e, hb, h1, h2, _⟩ := trod_ints hf
  exact ⟨pa, c, l, e, hb, h1, h2⟩
theorem open_intsz {H : Type} {enc : TypeId × Value → H} {W : World} {r : Reach} {b0 : Nat} {v : Value} {d : DataW H} {p : List MemPlace} (hv : Value.okWide Try.prog W r b0 36 v)
    (h : DataW.Trod enc Try.prog W 0 (fun _ => true) true 36 v d p) : ∃ (pa : Option Addr) (cap : Nat) (l : List Int), v = .slice pa l.length cap ∧ Ints W pa l ∧ l.length ≤ maxLen ∧ ((d = .nil ∧ l.length = 0) ∨ ∃ el sp, d = .slice el sp ∧ el.length = l.length) := by
  obtain ⟨a0, len, cap, rfl⟩ := okWide_slice Try.underlying36 hv
  obtain ⟨fuel, hf⟩ := h
  obtain ⟨pa, c, l, e, hb, h1, h2, _, h4⟩ := trod_ints hf
  exact ⟨pa, c, l, e, hb, h1, h4⟩
theorem umod_big (n m : Int) (h0 : 0 < m) (h1 : m ≤ 4611686018427387907) : 0 ≤ wrap64 ((IntKind.u64.wrap n).tmod m) ∧ wrap64 ((IntKind.u64.wrap n).tmod m) < m := by
  have hw : 0 ≤ IntKind.u64.wrap n := by
    have e : IntKind.u64.wrap n = n % 18446744073709551616 := by simp [IntKind.wrap, IntKind.bits, IntKind.signed]
    rw [e]; omega
  generalize IntKind.u64.wrap n = u at *
  have a1 := Int.tmod_lt_of_pos u h0
  have a2 : 0 ≤ u.tmod m := Int.tmod_nonneg m hw
  generalize u.tmod m = t at *
  have e : wrap64 t = t := by unfold wrap64; omega
  rw [e]
  exact ⟨a2, a1⟩
theorem umod_nat (n m : Int) (h0 : 0 < m) (h1 : m ≤ 4611686018427387907) : ∃ k : Nat, wrap64 ((IntKind.u64.wrap n).tmod m) = (k : Int) ∧ (k : Int) < m := by
  obtain ⟨a, b⟩ := umod_big n m h0 h1
  exact ⟨(wrap64 ((IntKind.u64.wrap n).tmod m)).toNat, by omega, by omega⟩
end Go.Proofs.Ytfcecblppdgcbaa
