/- How slices of bytes, of bools and of acts read. No conditions. -/
import Derived.Test.YtnecigbncggogaaDkPage
import Derived.Deep.Slices
import Derived.Deep.Strs
import Derived.ChangeOld
import Derived.SizedLaws
namespace Go.Proofs.Ytnecigbncggogaa
open Go.ChangeShapes Go.WideShapes Go.ChangeAt Go.RowKit Go.Deep
set_option linter.unusedVariables false
set_option maxRecDepth 20000

theorem cellsOfByte : Try.prog.cellsOf 5 = 1 := by kernel_rfl
theorem bytesOfByte : Try.prog.bytesOf 5 = 1 := by kernel_rfl
theorem cellsOfB : Try.prog.cellsOf 4 = 1 := by kernel_rfl
theorem cellsOfInt : Try.prog.cellsOf 3 = 1 := by kernel_rfl
theorem cellsOfBs : Try.prog.cellsOf 22 = 1 := by kernel_rfl
theorem cellsOfKs : Try.prog.cellsOf 44 = 1 := by kernel_rfl
theorem bounds_i64 {n : Int} (h : (Lit.int .i64 n).wf = true) : -9223372036854775808 ≤ n ∧ n ≤ 9223372036854775807 := by
  simpa [Lit.wf, IntKind.min, IntKind.max, IntKind.signed, IntKind.bits] using h
theorem choose_lt' {α : Type} (d0 : α) {n : Nat} {p : Nat → α → Prop} (h : ∀ i, i < n → ∃ x, p i x) : ∃ f : Nat → α, ∀ i, i < n → p i (f i) := by
  classical
  refine ⟨fun i => if hi : i < n then Classical.choose (h i hi) else d0, fun i hi => ?_⟩
  simp only [hi, dif_pos]
  exact Classical.choose_spec (h i hi)
theorem add_plain' (b off n : Nat) : (⟨b, off, none⟩ : Addr).add n = ⟨b, off + n, none⟩ := Addr.add_mid b off n
theorem u8_of {x : Int} (hw : (Lit.int .u8 x).wf = true) : x = (((UInt8.ofNat x.toNat).toNat : Nat) : Int) := by
  have hb : 0 ≤ x ∧ x ≤ 255 := by simpa [Lit.wf, IntKind.min, IntKind.max, IntKind.signed, IntKind.bits] using hw
  have : (UInt8.ofNat x.toNat).toNat = x.toNat % 256 := by simp
  rw [this]
  omega
/-- A slice of bytes, read. -/
theorem trod_bytes {H : Type} {enc : TypeId × Value → H} {W : World} {fuel : Nat} {c : Value} {x : DataW H × List MemPlace} (h : DataW.trod enc Try.prog W 0 (fun _ => true) true fuel 22 [c] = some x) :
    ∃ (pa : Option Addr) (cap : Nat) (bs : List UInt8), c = .slice pa bs.length cap ∧ Byts W pa bs ∧ (pa = none → bs.length = 0 ∧ cap = 0) ∧ bs.length ≤ maxLen ∧ bs.length ≤ cap ∧ ((x.1 = .nil ∧ bs.length = 0) ∨ ∃ el sp, x.1 = .slice el sp ∧ el.length = bs.length) := by
  rcases open_slice1 Try.underlying22 cellsOfByte h with ⟨hcs, hx⟩ | ⟨a, l, cp, m, n, V, D, Pl, hcs, _, hl, hm, hmm, hx, hel⟩
  · simp only [List.cons.injEq, and_true] at hcs
    exact ⟨none, 0, [], hcs, Or.inl rfl, fun _ => ⟨rfl, rfl⟩, Nat.zero_le _, Nat.zero_le _, Or.inl ⟨by rw [hx], rfl⟩⟩
  · simp only [List.cons.injEq, and_true] at hcs
    have hlm : l ≤ m := by simp at hmm; omega
    obtain ⟨f, hF⟩ := choose_lt' (0 : UInt8) (n := l) (p := fun i (x : UInt8) => W.cell? (a.add i) = some (.int .u8 (x.toNat : Int))) (fun i hi => by
      obtain ⟨hc, ht⟩ := hel i (by omega)
      obtain ⟨x, e, _, hw⟩ := DataW.trod_int Try.underlying5 ht
      simp only [List.cons.injEq, and_true] at e
      rw [e] at hc
      exact ⟨UInt8.ofNat x.toNat, by rw [hc, ← u8_of hw]⟩)
    have hlen : ((List.range l).map f).length = l := by simp
    refine ⟨some a, cp, (List.range l).map f, by rw [hlen]; exact hcs, ?_, by simp, by rw [hlen]; omega, by rw [hlen]; omega, Or.inr ⟨_, _, by rw [hx], by simp⟩⟩
    by_cases h0 : l = 0
    · subst h0; exact Or.inl rfl
    · right
      obtain ⟨b, off, spot⟩ := a
      have hc := hF 0 (by omega)
      have hspot : spot = none := by simpa [Addr.add] using World.cell?_spot hc
      subst hspot
      refine ⟨b, off, rfl, fun i hi => ?_⟩
      rw [hlen] at hi
      have g0 := hF i hi
      simp only [add_plain', List.getElem_map, List.getElem_range] at *
      exact g0
/-- A slice of bools, read. -/
theorem trod_bits {H : Type} {enc : TypeId × Value → H} {W : World} {fuel : Nat} {c : Value} {x : DataW H × List MemPlace} (h : DataW.trod enc Try.prog W 0 (fun _ => true) true fuel 44 [c] = some x) :
    ∃ (pa : Option Addr) (cap : Nat) (bs : List Bool), c = .slice pa bs.length cap ∧ Bits W pa bs ∧ (pa = none → bs.length = 0 ∧ cap = 0) ∧ bs.length ≤ maxLen ∧ bs.length ≤ cap ∧ ((x.1 = .nil ∧ bs.length = 0) ∨ ∃ el sp, x.1 = .slice el sp ∧ el.length = bs.length) := by
  rcases open_slice1 Try.underlying44 cellsOfB h with ⟨hcs, hx⟩ | ⟨a, l, cp, m, n, V, D, Pl, hcs, _, hl, hm, hmm, hx, hel⟩
  · simp only [List.cons.injEq, and_true] at hcs
    exact ⟨none, 0, [], hcs, Or.inl rfl, fun _ => ⟨rfl, rfl⟩, Nat.zero_le _, Nat.zero_le _, Or.inl ⟨by rw [hx], rfl⟩⟩
  · simp only [List.cons.injEq, and_true] at hcs
    have hlm : l ≤ m := by simp at hmm; omega
    obtain ⟨f, hF⟩ := choose_lt' false (n := l) (p := fun i (x : Bool) => W.cell? (a.add i) = some (.bool x)) (fun i hi => by
      obtain ⟨hc, ht⟩ := hel i (by omega)
      obtain ⟨x, e, _⟩ := DataW.trod_bool Try.underlying4 ht
      simp only [List.cons.injEq, and_true] at e
      rw [e] at hc
      exact ⟨x, hc⟩)
    have hlen : ((List.range l).map f).length = l := by simp
    refine ⟨some a, cp, (List.range l).map f, by rw [hlen]; exact hcs, ?_, by simp, by rw [hlen]; omega, by rw [hlen]; omega, Or.inr ⟨_, _, by rw [hx], by simp⟩⟩
    by_cases h0 : l = 0
    · subst h0; exact Or.inl rfl
    · right
      obtain ⟨b, off, spot⟩ := a
      have hc := hF 0 (by omega)
      have hspot : spot = none := by simpa [Addr.add] using World.cell?_spot hc
      subst hspot
      refine ⟨b, off, rfl, fun i hi => ?_⟩
      rw [hlen] at hi
      have g0 := hF i hi
      simp only [add_plain', List.getElem_map, List.getElem_range] at *
      exact g0
/-- An act. -/
structure Opx where
  kind : Int
  n : Int
  fill : UInt8
  b : List UInt8
  long : Bool
  keep : List Bool
  torn : Int
  cut : Int
/-- An act in memory. -/
def OpAt (w : World) (g o : Nat) (x : Opx) : Prop :=
  ∃ bp bc kp kc, w.cell? ⟨g, o, none⟩ = some (.int .i64 x.kind) ∧ w.cell? ⟨g, o + 1, none⟩ = some (.int .i64 x.n) ∧ w.cell? ⟨g, o + 2, none⟩ = some (.int .u8 (x.fill.toNat : Int)) ∧ w.cell? ⟨g, o + 3, none⟩ = some (.slice bp x.b.length bc) ∧
    w.cell? ⟨g, o + 4, none⟩ = some (.bool x.long) ∧ w.cell? ⟨g, o + 5, none⟩ = some (.slice kp x.keep.length kc) ∧ w.cell? ⟨g, o + 6, none⟩ = some (.int .i64 x.torn) ∧ w.cell? ⟨g, o + 7, none⟩ = some (.int .i64 x.cut) ∧
    Byts w bp x.b ∧ Bits w kp x.keep ∧ (-9223372036854775808 ≤ x.n ∧ x.n ≤ 9223372036854775807) ∧ (-9223372036854775808 ≤ x.kind ∧ x.kind ≤ 9223372036854775807) ∧ x.b.length ≤ bc ∧ x.keep.length ≤ kc
/-- A slice of acts in memory. -/
def Ops (w : World) (p : Option Addr) (l : List Opx) : Prop := l = [] ∨ ∃ g off, p = some ⟨g, off, none⟩ ∧ ∀ i (h : i < l.length), OpAt w g (off + i * 8) l[i]
theorem Byts.kept {w w' : World} {p : Option Addr} {l : List UInt8} (h : Byts w p l) (e : ∀ k, k < w.heap.size → w'.heap[k]? = w.heap[k]?) : Byts w' p l := by
  rcases h with h | ⟨b, off, hp, hc⟩
  · exact Or.inl h
  · exact Or.inr ⟨b, off, hp, fun i hi => (World.cell?_of_block (w := w) (a := ⟨b, off + i, none⟩) (e b (cell_lt (hc i hi)))).trans (hc i hi)⟩
theorem Bits.kept {w w' : World} {p : Option Addr} {l : List Bool} (h : Bits w p l) (e : ∀ k, k < w.heap.size → w'.heap[k]? = w.heap[k]?) : Bits w' p l := by
  rcases h with h | ⟨b, off, hp, hc⟩
  · exact Or.inl h
  · exact Or.inr ⟨b, off, hp, fun i hi => (World.cell?_of_block (w := w) (a := ⟨b, off + i, none⟩) (e b (cell_lt (hc i hi)))).trans (hc i hi)⟩
theorem OpAt.kept {w w' : World} {g o : Nat} {x : Opx} (h : OpAt w g o x) (e : ∀ k, k < w.heap.size → w'.heap[k]? = w.heap[k]?) : OpAt w' g o x := by
  obtain ⟨bp, bc, kp, kc, c0, c1, c2, c3, c4, c5, c6, c7, hb, hk, r⟩ := h
  have f : ∀ {j v}, w.cell? ⟨g, j, none⟩ = some v → w'.cell? ⟨g, j, none⟩ = some v := fun {j v} hc => (World.cell?_of_block (w := w) (a := ⟨g, j, none⟩) (e g (cell_lt hc))).trans hc
  exact ⟨bp, bc, kp, kc, f c0, f c1, f c2, f c3, f c4, f c5, f c6, f c7, hb.kept e, hk.kept e, r⟩
theorem Ops.below {w w' : World} {p : Option Addr} {l : List Opx} (h : Ops w p l) (B : Below w.heap.size w w') : Ops w' p l := by
  rcases h with h | ⟨g, off, hp, hc⟩
  · exact Or.inl h
  · exact Or.inr ⟨g, off, hp, fun i hi => (hc i hi).kept (fun k hk => B.block k hk)⟩
theorem open_bits {H : Type} {enc : TypeId × Value → H} {W : World} {r : Reach} {b0 : Nat} {v : Value} {d : DataW H} {p : List MemPlace} (hv : Value.okWide Try.prog W r b0 44 v)
    (h : DataW.Trod enc Try.prog W 0 (fun _ => true) true 44 v d p) : ∃ (pa : Option Addr) (cap : Nat) (l : List Bool), v = .slice pa l.length cap ∧ Bits W pa l ∧ l.length ≤ maxLen ∧ l.length ≤ cap := by
  obtain ⟨a0, len, cap, rfl⟩ := okWide_slice Try.underlying44 hv
  obtain ⟨fuel, hf⟩ := h
  obtain ⟨pa, c, l, e, hb, _, h1, h2, _⟩ := trod_bits hf
  exact ⟨pa, c, l, e, hb, h1, h2⟩
theorem open_bytes {H : Type} {enc : TypeId × Value → H} {W : World} {r : Reach} {b0 : Nat} {v : Value} {d : DataW H} {p : List MemPlace} (hv : Value.okWide Try.prog W r b0 22 v)
    (h : DataW.Trod enc Try.prog W 0 (fun _ => true) true 22 v d p) : ∃ (pa : Option Addr) (cap : Nat) (l : List UInt8), v = .slice pa l.length cap ∧ Byts W pa l ∧ (pa = none → l.length = 0 ∧ cap = 0) ∧ l.length ≤ maxLen ∧ l.length ≤ cap ∧ ((d = .nil ∧ l.length = 0) ∨ ∃ el sp, d = .slice el sp ∧ el.length = l.length) := by
  obtain ⟨a0, len, cap, rfl⟩ := okWide_slice Try.underlying22 hv
  obtain ⟨fuel, hf⟩ := h
  exact trod_bytes hf
end Go.Proofs.Ytnecigbncggogaa
