/- How slices of bytes, of bools and of acts read. No conditions. -/
import Derived.Test.YtfgcjcffplglhaaDkPage
import Derived.Deep.Slices
import Derived.Deep.Strs
import Derived.ChangeOld
import Derived.SizedLaws
namespace Go.Proofs.Ytfgcjcffplglhaa
open Go.ChangeShapes Go.WideShapes Go.ChangeAt Go.RowKit Go.Deep
set_option linter.unusedVariables false
set_option maxRecDepth 20000

theorem cellsOfByte : Try.prog.cellsOf 5 = 1 := by kernel_rfl
theorem bytesOfByte : Try.prog.bytesOf 5 = 1 := by kernel_rfl
theorem cellsOfB : Try.prog.cellsOf 4 = 1 := by kernel_rfl
theorem cellsOfInt : Try.prog.cellsOf 3 = 1 := by kernel_rfl
theorem cellsOfBs : Try.prog.cellsOf 30 = 1 := by kernel_rfl
theorem cellsOfKs : Try.prog.cellsOf 31 = 1 := by kernel_rfl
theorem cellsOfOp : Try.prog.cellsOf 33 = 8 := by kernel_rfl
theorem bounds_i64 {n : Int} (h : (Lit.int .i64 n).wf = true) : -9223372036854775808 ≤ n ∧ n ≤ 9223372036854775807 := by
  simpa [Lit.wf, IntKind.min, IntKind.max, IntKind.signed, IntKind.bits] using h
theorem choose_lt' {α : Type} (d0 : α) {n : Nat} {p : Nat → α → Prop} (h : ∀ i, i < n → ∃ x, p i x) : ∃ f : Nat → α, ∀ i, i < n → p i (f i) := by
  classical
  refine ⟨fun i => if hi : i < n then Classical.choose (h i hi) else d0, fun i hi => ?_⟩
  simp only [hi, dif_pos]
  exact Classical.choose_spec (h i hi)
theorem add_plain' (b off n : Nat) : (⟨b, off, none⟩ : Addr).add n = ⟨b, off + n, none⟩ := Addr.add_mid b off n
theorem u8_of {x : Int} (hw : (Lit.int .u8 x).wf = true) : x = (((UInt8.ofNat x.toNat).toNat : Nat) : Int) := by
  have hb : 0 ≤ x ∧ x ≤ 255 := by simpa [Lit.wf, IntKind.min, IntKind.max, IntKind.signed, IntKind.bits] using hw
  have : (UInt8.ofNat x.toNat).toNat = x.toNat % 256 := by simp
  rw [this]
  omega
/-- A slice of bytes, read. -/
theorem trod_bytes {H : Type} {enc : TypeId × Value → H} {W : World} {fuel : Nat} {c : Value} {x : DataW H × List MemPlace} (h : DataW.trod enc Try.prog W 0 (fun _ => true) true fuel 30 [c] = some x) :
    ∃ (pa : Option Addr) (cap : Nat) (bs : List UInt8), c = .slice pa bs.length cap ∧ Byts W pa bs ∧ (pa = none → bs.length = 0 ∧ cap = 0) ∧ bs.length ≤ maxLen ∧ bs.length ≤ cap ∧ ((x.1 = .nil ∧ bs.length = 0) ∨ ∃ el sp, x.1 = .slice el sp ∧ el.length = bs.length) := by
  rcases open_slice1 Try.underlying30 cellsOfByte h with ⟨hcs, hx⟩ | ⟨a, l, cp, m, n, V, D, Pl, hcs, _, hl, hm, hmm, hx, hel⟩
  · simp only [List.cons.injEq, and_true] at hcs
    exact ⟨none, 0, [], hcs, Or.inl rfl, fun _ => ⟨rfl, rfl⟩, Nat.zero_le _, Nat.zero_le _, Or.inl ⟨by rw [hx], rfl⟩⟩
  · simp only [List.cons.injEq, and_true] at hcs
    have hlm : l ≤ m := by simp at hmm; omega
    obtain ⟨f, hF⟩ := choose_lt' (0 : UInt8) (n := l) (p := fun i (x : UInt8) => W.cell? (a.add i) = some (.int .u8 (x.toNat : Int))) (fun i hi => by
      obtain ⟨hc, ht⟩ := hel i (by omega)
      obtain ⟨x, e, _, hw⟩ := DataW.trod_int Try.underlying5 ht
      simp only [List.cons.injEq, and_true] at e
      rw [e] at hc
      exact ⟨UInt8.ofNat x.toNat, by rw [hc, ← u8_of hw]⟩)
    have hlen : ((List.range l).map f).length = l := by simp
    refine ⟨some a, cp, (List.range l).map f, by rw [hlen]; exact hcs, ?_, by simp, by rw [hlen]; omega, by rw [hlen]; omega, Or.inr ⟨_, _, by rw [hx], by simp⟩⟩
    by_cases h0 : l = 0
    · subst h0; exact Or.inl rfl
    · right
      obtain ⟨b, off, spot⟩ := a
      have hc := hF 0 (by omega)
      have hspot : spot = none := by simpa [Addr.add] using World.cell?_spot hc
      subst hspot
      refine ⟨b, off, rfl, fun i hi => ?_⟩
      rw [hlen] at hi
      have g0 := hF i hi
      simp only [add_plain', List.getElem_map, List.getElem_range] at *
      exact g0
/-- A slice of bools, read. -/
theorem trod_bits {H : Type} {enc : TypeId × Value → H} {W : World} {fuel : Nat} {c : Value} {x : DataW H × List MemPlace} (h : DataW.trod enc Try.prog W 0 (fun _ => true) true fuel 31 [c] = some x) :
    ∃ (pa : Option Addr) (cap : Nat) (bs : List Bool), c = .slice pa bs.length cap ∧ Bits W pa bs ∧ (pa = none → bs.length = 0 ∧ cap = 0) ∧ bs.length ≤ maxLen ∧ bs.length ≤ cap ∧ ((x.1 = .nil ∧ bs.length = 0) ∨ ∃ el sp, x.1 = .slice el sp ∧ el.length = bs.length) := by
  rcases open_slice1 Try.underlying31 cellsOfB h with ⟨hcs, hx⟩ | ⟨a, l, cp, m, n, V, D, Pl, hcs, _, hl, hm, hmm, hx, hel⟩
  · simp only [List.cons.injEq, and_true] at hcs
    exact ⟨none, 0, [], hcs, Or.inl rfl, fun _ => ⟨rfl, rfl⟩, Nat.zero_le _, Nat.zero_le _, Or.inl ⟨by rw [hx], rfl⟩⟩
  · simp only [List.cons.injEq, and_true] at hcs
    have hlm : l ≤ m := by simp at hmm; omega
    obtain ⟨f, hF⟩ := choose_lt' false (n := l) (p := fun i (x : Bool) => W.cell? (a.add i) = some (.bool x)) (fun i hi => by
      obtain ⟨hc, ht⟩ := hel i (by omega)
      obtain ⟨x, e, _⟩ := DataW.trod_bool Try.underlying4 ht
      simp only [List.cons.injEq, and_true] at e
      rw [e] at hc
      exact ⟨x, hc⟩)
    have hlen : ((List.range l).map f).length = l := by simp
    refine ⟨some a, cp, (List.range l).map f, by rw [hlen]; exact hcs, ?_, by simp, by rw [hlen]; omega, by rw [hlen]; omega, Or.inr ⟨_, _, by rw [hx], by simp⟩⟩
    by_cases h0 : l = 0
    · subst h0; exact Or.inl rfl
    · right
      obtain ⟨b, off, spot⟩ := a
      have hc := hF 0 (by omega)
      have hspot : spot = none := by simpa [Addr.add] using World.cell?_spot hc
      subst hspot
      refine ⟨b, off, rfl, fun i hi => ?_⟩
      rw [hlen] at hi
      have g0 := hF i hi
      simp only [add_plain', List.getElem_map, List.getElem_range] at *
      exact g0
/-- An act. -/
structure Opx where
  kind : Int
  n : Int
  fill : UInt8
  b : List UInt8
  long : Bool
  keep : List Bool
  torn : Int
  cut : Int
/-- An act in memory. -/
def OpAt (w : World) (g o : Nat) (x : Opx) : Prop :=
  ∃ bp bc kp kc, w.cell? ⟨g, o, none⟩ = some (.int .i64 x.kind) ∧ w.cell? ⟨g, o + 1, none⟩ = some (.int .i64 x.n) ∧ w.cell? ⟨g, o + 2, none⟩ = some (.int .u8 (x.fill.toNat : Int)) ∧ w.cell? ⟨g, o + 3, none⟩ = some (.slice bp x.b.length bc) ∧
    w.cell? ⟨g, o + 4, none⟩ = some (.bool x.long) ∧ w.cell? ⟨g, o + 5, none⟩ = some (.slice kp x.keep.length kc) ∧ w.cell? ⟨g, o + 6, none⟩ = some (.int .i64 x.torn) ∧ w.cell? ⟨g, o + 7, none⟩ = some (.int .i64 x.cut) ∧
    Byts w bp x.b ∧ Bits w kp x.keep ∧ (-9223372036854775808 ≤ x.n ∧ x.n ≤ 9223372036854775807) ∧ (-9223372036854775808 ≤ x.kind ∧ x.kind ≤ 9223372036854775807) ∧ x.b.length ≤ bc ∧ x.keep.length ≤ kc
/-- A slice of acts in memory. -/
def Ops (w : World) (p : Option Addr) (l : List Opx) : Prop := l = [] ∨ ∃ g off, p = some ⟨g, off, none⟩ ∧ ∀ i (h : i < l.length), OpAt w g (off + i * 8) l[i]
theorem Byts.kept {w w' : World} {p : Option Addr} {l : List UInt8} (h : Byts w p l) (e : ∀ k, k < w.heap.size → w'.heap[k]? = w.heap[k]?) : Byts w' p l := by
  rcases h with h | ⟨b, off, hp, hc⟩
  · exact Or.inl h
  · exact Or.inr ⟨b, off, hp, fun i hi => (World.cell?_of_block (w := w) (a := ⟨b, off + i, none⟩) (e b (cell_lt (hc i hi)))).trans (hc i hi)⟩
theorem Bits.kept {w w' : World} {p : Option Addr} {l : List Bool} (h : Bits w p l) (e : ∀ k, k < w.heap.size → w'.heap[k]? = w.heap[k]?) : Bits w' p l := by
  rcases h with h | ⟨b, off, hp, hc⟩
  · exact Or.inl h
  · exact Or.inr ⟨b, off, hp, fun i hi => (World.cell?_of_block (w := w) (a := ⟨b, off + i, none⟩) (e b (cell_lt (hc i hi)))).trans (hc i hi)⟩
theorem OpAt.kept {w w' : World} {g o : Nat} {x : Opx} (h : OpAt w g o x) (e : ∀ k, k < w.heap.size → w'.heap[k]? = w.heap[k]?) : OpAt w' g o x := by
  obtain ⟨bp, bc, kp, kc, c0, c1, c2, c3, c4, c5, c6, c7, hb, hk, r⟩ := h
  have f : ∀ {j v}, w.cell? ⟨g, j, none⟩ = some v → w'.cell? ⟨g, j, none⟩ = some v := fun {j v} hc => (World.cell?_of_block (w := w) (a := ⟨g, j, none⟩) (e g (cell_lt hc))).trans hc
  exact ⟨bp, bc, kp, kc, f c0, f c1, f c2, f c3, f c4, f c5, f c6, f c7, hb.kept e, hk.kept e, r⟩
theorem Ops.below {w w' : World} {p : Option Addr} {l : List Opx} (h : Ops w p l) (B : Below w.heap.size w w') : Ops w' p l := by
  rcases h with h | ⟨g, off, hp, hc⟩
  · exact Or.inl h
  · exact Or.inr ⟨g, off, hp, fun i hi => (hc i hi).kept (fun k hk => B.block k hk)⟩
/-- An act, read. -/
theorem trod_op {H : Type} {enc : TypeId × Value → H} {W : World} {fuel : Nat} {cs : List Value} {x : DataW H × List MemPlace} (h : DataW.trod enc Try.prog W 0 (fun _ => true) true fuel 33 cs = some x) :
    ∃ (o : Opx) (bp kp : Option Addr) (bc kc : Nat), cs = [.int .i64 o.kind, .int .i64 o.n, .int .u8 (o.fill.toNat : Int), .slice bp o.b.length bc, .bool o.long, .slice kp o.keep.length kc, .int .i64 o.torn, .int .i64 o.cut] ∧
      Byts W bp o.b ∧ Bits W kp o.keep ∧ (-9223372036854775808 ≤ o.n ∧ o.n ≤ 9223372036854775807) ∧ (-9223372036854775808 ≤ o.kind ∧ o.kind ≤ 9223372036854775807) ∧ o.b.length ≤ bc ∧ o.keep.length ≤ kc := by
  obtain ⟨xs, n, _, _, hl, hlen, hf⟩ := DataW.trod_struct Try.underlying33 h
  rw [cellsOfOp] at hl
  match cs, hl with
  | [c0, c1, c2, c3, c4, c5, c6, c7], _ =>
    match xs, hlen with
    | [y0, y1, y2, y3, y4, y5, y6, y7], _ =>
      have h0 : DataW.trod enc Try.prog W 0 (fun _ => true) true n 3 [c0] = some y0 := by simpa [cellsOfInt] using hf 0 _ rfl
      have h1 : DataW.trod enc Try.prog W 0 (fun _ => true) true n 3 [c1] = some y1 := by simpa [cellsOfInt] using hf 1 _ rfl
      have h2 : DataW.trod enc Try.prog W 0 (fun _ => true) true n 5 [c2] = some y2 := by simpa [cellsOfByte] using hf 2 _ rfl
      have h3 : DataW.trod enc Try.prog W 0 (fun _ => true) true n 30 [c3] = some y3 := by simpa [cellsOfBs] using hf 3 _ rfl
      have h4 : DataW.trod enc Try.prog W 0 (fun _ => true) true n 4 [c4] = some y4 := by simpa [cellsOfB] using hf 4 _ rfl
      have h5 : DataW.trod enc Try.prog W 0 (fun _ => true) true n 31 [c5] = some y5 := by simpa [cellsOfKs] using hf 5 _ rfl
      have h6 : DataW.trod enc Try.prog W 0 (fun _ => true) true n 3 [c6] = some y6 := by simpa [cellsOfInt] using hf 6 _ rfl
      have h7 : DataW.trod enc Try.prog W 0 (fun _ => true) true n 3 [c7] = some y7 := by simpa [cellsOfInt] using hf 7 _ rfl
      obtain ⟨k0, e0, _, w0⟩ := DataW.trod_int Try.underlying3 h0
      obtain ⟨k1, e1, _, w1⟩ := DataW.trod_int Try.underlying3 h1
      obtain ⟨k2, e2, _, w2⟩ := DataW.trod_int Try.underlying5 h2
      obtain ⟨bp, bc, bs, e3, hb, _, _, hbc, _⟩ := trod_bytes h3
      obtain ⟨k4, e4, _⟩ := DataW.trod_bool Try.underlying4 h4
      obtain ⟨kp, kc, ks, e5, hk, _, _, hkc, _⟩ := trod_bits h5
      obtain ⟨k6, e6, _, w6⟩ := DataW.trod_int Try.underlying3 h6
      obtain ⟨k7, e7, _, w7⟩ := DataW.trod_int Try.underlying3 h7
      simp only [List.cons.injEq, and_true] at e0 e1 e2 e4 e6 e7
      refine ⟨⟨k0, k1, UInt8.ofNat k2.toNat, bs, k4, ks, k6, k7⟩, bp, kp, bc, kc, ?_, hb, hk, bounds_i64 w1, bounds_i64 w0, hbc, hkc⟩
      rw [e0, e1, e2, e3, e4, e5, e6, e7, ← u8_of w2]
theorem open_ops {H : Type} {enc : TypeId × Value → H} {W : World} {r : Reach} {b0 : Nat} {v : Value} {d : DataW H} {p : List MemPlace} (hv : Value.okWide Try.prog W r b0 22 v)
    (h : DataW.Trod enc Try.prog W 0 (fun _ => true) true 22 v d p) :
    ∃ (pa : Option Addr) (cap : Nat) (l : List Opx), v = .slice pa l.length cap ∧ Ops W pa l ∧ l.length ≤ maxLen ∧ l.length ≤ cap := by
  obtain ⟨a0, len, cap, rfl⟩ := okWide_slice Try.underlying22 hv
  obtain ⟨fuel, hf⟩ := h
  rcases open_slice Try.underlying22 hf with ⟨hcs, hx⟩ | ⟨a, l, c, m, n, D, Pl, hcs, _, hl, hm, hmm, hx, hel⟩
  · simp [Value.cells] at hcs
    obtain ⟨rfl, rfl, rfl⟩ := hcs
    exact ⟨none, 0, [], rfl, Or.inl rfl, Nat.zero_le _, Nat.zero_le _⟩
  · simp [Value.cells] at hcs
    obtain ⟨rfl, rfl, rfl⟩ := hcs
    have hlm : len ≤ m := by simp at hmm; omega
    by_cases h0 : len = 0
    · subst h0
      exact ⟨some a, cap, [], rfl, Or.inl rfl, Nat.zero_le _, Nat.zero_le _⟩
    obtain ⟨b, off, spot⟩ := a
    have hspot : spot = none := by
      obtain ⟨cs', hc, ht⟩ := hel 0 (by omega)
      rw [cellsOfOp] at hc
      obtain ⟨o, bp, kp, bc, kc, rfl, _⟩ := trod_op ht
      obtain ⟨_, _, hcell⟩ := World.cells?_some hc
      have := hcell 0 (by omega)
      simpa [Addr.add] using World.cell?_spot this
    subst hspot
    obtain ⟨f, hF⟩ := choose_lt' (⟨0, 0, 0, [], false, [], 0, 0⟩ : Opx) (n := len) (p := fun i (x : Opx) => OpAt W b (off + i * 8) x) (fun i hi => by
      obtain ⟨cs', hc, ht⟩ := hel i (by omega)
      rw [cellsOfOp] at hc
      obtain ⟨o, bp, kp, bc, kc, rfl, hb, hk, r⟩ := trod_op ht
      obtain ⟨_, _, hcell⟩ := World.cells?_some hc
      have g0 := hcell 0 (by omega)
      have g1 := hcell 1 (by omega)
      have g2 := hcell 2 (by omega)
      have g3 := hcell 3 (by omega)
      have g4 := hcell 4 (by omega)
      have g5 := hcell 5 (by omega)
      have g6 := hcell 6 (by omega)
      have g7 := hcell 7 (by omega)
      simp only [add_plain', Nat.add_zero] at g0 g1 g2 g3 g4 g5 g6 g7
      exact ⟨o, bp, bc, kp, kc, g0, g1, g2, g3, g4, g5, g6, g7, hb, hk, r⟩)
    have hlen : ((List.range len).map f).length = len := by simp
    refine ⟨_, cap, (List.range len).map f, by rw [hlen], Or.inr ⟨b, off, rfl, fun i hi => ?_⟩, by rw [hlen]; omega, by rw [hlen]; omega⟩
    rw [hlen] at hi
    simp only [List.getElem_map, List.getElem_range]
    exact hF i hi
theorem open_bits {H : Type} {enc : TypeId × Value → H} {W : World} {r : Reach} {b0 : Nat} {v : Value} {d : DataW H} {p : List MemPlace} (hv : Value.okWide Try.prog W r b0 31 v)
    (h : DataW.Trod enc Try.prog W 0 (fun _ => true) true 31 v d p) : ∃ (pa : Option Addr) (cap : Nat) (l : List Bool), v = .slice pa l.length cap ∧ Bits W pa l ∧ l.length ≤ maxLen ∧ l.length ≤ cap := by
  obtain ⟨a0, len, cap, rfl⟩ := okWide_slice Try.underlying31 hv
  obtain ⟨fuel, hf⟩ := h
  obtain ⟨pa, c, l, e, hb, _, h1, h2, _⟩ := trod_bits hf
  exact ⟨pa, c, l, e, hb, h1, h2⟩
theorem open_bytes {H : Type} {enc : TypeId × Value → H} {W : World} {r : Reach} {b0 : Nat} {v : Value} {d : DataW H} {p : List MemPlace} (hv : Value.okWide Try.prog W r b0 30 v)
    (h : DataW.Trod enc Try.prog W 0 (fun _ => true) true 30 v d p) : ∃ (pa : Option Addr) (cap : Nat) (l : List UInt8), v = .slice pa l.length cap ∧ Byts W pa l ∧ (pa = none → l.length = 0 ∧ cap = 0) ∧ l.length ≤ maxLen ∧ l.length ≤ cap ∧ ((d = .nil ∧ l.length = 0) ∨ ∃ el sp, d = .slice el sp ∧ el.length = l.length) := by
  obtain ⟨a0, len, cap, rfl⟩ := okWide_slice Try.underlying30 hv
  obtain ⟨fuel, hf⟩ := h
  exact trod_bytes hf
end Go.Proofs.Ytfgcjcffplglhaa
