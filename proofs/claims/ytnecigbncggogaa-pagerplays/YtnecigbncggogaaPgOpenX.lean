/- How slices of numbers, of rows of bytes and of the pager's acts read. No conditions. -/
import Derived.Test.YtnecigbncggogaaDkOpen
import Derived.Test.YtnecigbncggogaaDkRefList
namespace Go.Proofs.Ytnecigbncggogaa
open Go.ChangeShapes Go.WideShapes Go.ChangeAt Go.RowKit Go.Deep
set_option linter.unusedVariables false
set_option maxRecDepth 20000

/-- A slice of numbers, read. -/
theorem trod_ints {H : Type} {enc : TypeId × Value → H} {W : World} {fuel : Nat} {c : Value} {x : DataW H × List MemPlace} (h : DataW.trod enc Try.prog W 0 (fun _ => true) true fuel 57 [c] = some x) :
    ∃ (pa : Option Addr) (cap : Nat) (bs : List Int), c = .slice pa bs.length cap ∧ Ints W pa bs ∧ bs.length ≤ maxLen ∧ bs.length ≤ cap := by
  rcases open_slice1 Try.underlying57 cellsOfInt h with ⟨hcs, hx⟩ | ⟨a, l, cp, m, n, V, D, Pl, hcs, _, hl, hm, hmm, hx, hel⟩
  · simp only [List.cons.injEq, and_true] at hcs
    exact ⟨none, 0, [], hcs, Or.inl rfl, Nat.zero_le _, Nat.zero_le _⟩
  · simp only [List.cons.injEq, and_true] at hcs
    have hlm : l ≤ m := by simp at hmm; omega
    obtain ⟨f, hF⟩ := choose_lt' (0 : Int) (n := l) (p := fun i (x : Int) => W.cell? (a.add i) = some (.int .i64 x)) (fun i hi => by
      obtain ⟨hc, ht⟩ := hel i (by omega)
      obtain ⟨x, e, _, hw⟩ := DataW.trod_int Try.underlying3 ht
      simp only [List.cons.injEq, and_true] at e
      rw [e] at hc
      exact ⟨x, hc⟩)
    have hlen : ((List.range l).map f).length = l := by simp
    refine ⟨some a, cp, (List.range l).map f, by rw [hlen]; exact hcs, ?_, by rw [hlen]; omega, by rw [hlen]; omega⟩
    by_cases h0 : l = 0
    · subst h0; exact Or.inl rfl
    · right
      obtain ⟨b, off, spot⟩ := a
      have hc := hF 0 (by omega)
      have hspot : spot = none := by simpa [Addr.add] using World.cell?_spot hc
      subst hspot
      refine ⟨b, off, rfl, fun i hi => ?_⟩
      rw [hlen] at hi
      have g0 := hF i hi
      simp only [add_plain', List.getElem_map, List.getElem_range] at *
      exact g0
theorem open_ints {H : Type} {enc : TypeId × Value → H} {W : World} {r : Reach} {b0 : Nat} {v : Value} {d : DataW H} {p : List MemPlace} (hv : Value.okWide Try.prog W r b0 57 v)
    (h : DataW.Trod enc Try.prog W 0 (fun _ => true) true 57 v d p) : ∃ (pa : Option Addr) (cap : Nat) (l : List Int), v = .slice pa l.length cap ∧ Ints W pa l ∧ l.length ≤ maxLen ∧ l.length ≤ cap := by
  obtain ⟨a0, len, cap, rfl⟩ := okWide_slice Try.underlying57 hv
  obtain ⟨fuel, hf⟩ := h
  exact trod_ints hf
/-- A slice of rows of bytes in memory. -/
def Bss (w : World) (p : Option Addr) (l : List (List UInt8)) : Prop := l = [] ∨ ∃ g off, p = some ⟨g, off, none⟩ ∧ ∀ i (h : i < l.length), ∃ bp bc, w.cell? ⟨g, off + i, none⟩ = some (.slice bp l[i].length bc) ∧ Byts w bp l[i]
theorem Bss.below {w w' : World} {p : Option Addr} {l : List (List UInt8)} (h : Bss w p l) (B : Below w.heap.size w w') : Bss w' p l := by
  rcases h with h | ⟨g, off, hp, hc⟩
  · exact Or.inl h
  · refine Or.inr ⟨g, off, hp, fun i hi => ?_⟩
    obtain ⟨bp, bc, h1, h2⟩ := hc i hi
    exact ⟨bp, bc, (World.cell?_of_block (w := w) (a := ⟨g, off + i, none⟩) (B.block g (cell_lt h1))).trans h1, h2.below B⟩
theorem Bss.at {w : World} {p : Option Addr} {l : List (List UInt8)} (h : Bss w p l) {k : Nat} (hk : k < l.length) : ∃ g off bp bc, p = some ⟨g, off, none⟩ ∧ w.cell? ⟨g, off + k, none⟩ = some (.slice bp l[k].length bc) ∧ Byts w bp l[k] := by
  rcases h with rfl | ⟨g, off, hp, hc⟩
  · simp at hk
  · obtain ⟨bp, bc, h1, h2⟩ := hc k hk
    exact ⟨g, off, bp, bc, hp, h1, h2⟩
theorem open_bss {H : Type} {enc : TypeId × Value → H} {W : World} {r : Reach} {b0 : Nat} {v : Value} {d : DataW H} {p : List MemPlace} (hv : Value.okWide Try.prog W r b0 77 v)
    (h : DataW.Trod enc Try.prog W 0 (fun _ => true) true 77 v d p) : ∃ (pa : Option Addr) (cap : Nat) (l : List (List UInt8)), v = .slice pa l.length cap ∧ Bss W pa l ∧ l.length ≤ maxLen ∧ l.length ≤ cap := by
  obtain ⟨a0, len, cap, rfl⟩ := okWide_slice Try.underlying77 hv
  obtain ⟨fuel, hf⟩ := h
  rcases open_slice1 Try.underlying77 cellsOfBs hf with ⟨hcs, hx⟩ | ⟨a, l, cp, m, n, V, D, Pl, hcs, _, hl, hm, hmm, hx, hel⟩
  · simp [Value.cells] at hcs
    obtain ⟨rfl, rfl, rfl⟩ := hcs
    exact ⟨none, 0, [], rfl, Or.inl rfl, Nat.zero_le _, Nat.zero_le _⟩
  · simp [Value.cells] at hcs
    obtain ⟨rfl, rfl, rfl⟩ := hcs
    have hlm : len ≤ m := by simp at hmm; omega
    obtain ⟨f, hF⟩ := choose_lt' ([] : List UInt8) (n := len) (p := fun i (x : List UInt8) => ∃ bp bc, W.cell? (a.add i) = some (.slice bp x.length bc) ∧ Byts W bp x) (fun i hi => by
      obtain ⟨hc, ht⟩ := hel i (by omega)
      obtain ⟨bp, bc, bs, e, hb, _⟩ := trod_bytes ht
      rw [e] at hc
      exact ⟨bs, bp, bc, hc, hb⟩)
    have hlen : ((List.range len).map f).length = len := by simp
    refine ⟨_, cap, (List.range len).map f, by rw [hlen], ?_, by rw [hlen]; omega, by rw [hlen]; omega⟩
    by_cases h0 : len = 0
    · subst h0; exact Or.inl rfl
    · right
      obtain ⟨b, off, spot⟩ := a
      obtain ⟨_, _, hc, _⟩ := hF 0 (by omega)
      have hspot : spot = none := by simpa [Addr.add] using World.cell?_spot hc
      subst hspot
      refine ⟨b, off, rfl, fun i hi => ?_⟩
      rw [hlen] at hi
      have g0 := hF i hi
      simp only [add_plain', List.getElem_map, List.getElem_range] at *
      exact g0
theorem cellsOfOp6 : Try.prog.cellsOf 46 = 6 := by kernel_rfl
/-- An act of the pager's laws. -/
structure Opy where
  kind : Int
  n : Int
  b : List UInt8
  keep : List Bool
  torn : Int
  cut : Int
/-- An act in memory. -/
def OpAt6 (w : World) (g o : Nat) (x : Opy) : Prop :=
  ∃ bp bc kp kc, w.cell? ⟨g, o, none⟩ = some (.int .i64 x.kind) ∧ w.cell? ⟨g, o + 1, none⟩ = some (.int .i64 x.n) ∧ w.cell? ⟨g, o + 2, none⟩ = some (.slice bp x.b.length bc) ∧
    w.cell? ⟨g, o + 3, none⟩ = some (.slice kp x.keep.length kc) ∧ w.cell? ⟨g, o + 4, none⟩ = some (.int .i64 x.torn) ∧ w.cell? ⟨g, o + 5, none⟩ = some (.int .i64 x.cut) ∧
    Byts w bp x.b ∧ Bits w kp x.keep ∧ (-9223372036854775808 ≤ x.n ∧ x.n ≤ 9223372036854775807) ∧ (-9223372036854775808 ≤ x.kind ∧ x.kind ≤ 9223372036854775807) ∧ x.b.length ≤ bc ∧ x.keep.length ≤ kc
/-- A slice of acts in memory. -/
def Ops6 (w : World) (p : Option Addr) (l : List Opy) : Prop := l = [] ∨ ∃ g off, p = some ⟨g, off, none⟩ ∧ ∀ i (h : i < l.length), OpAt6 w g (off + i * 6) l[i]
theorem OpAt6.kept {w w' : World} {g o : Nat} {x : Opy} (h : OpAt6 w g o x) (e : ∀ k, k < w.heap.size → w'.heap[k]? = w.heap[k]?) : OpAt6 w' g o x := by
  obtain ⟨bp, bc, kp, kc, c0, c1, c2, c3, c4, c5, hb, hk, r⟩ := h
  have f : ∀ {j v}, w.cell? ⟨g, j, none⟩ = some v → w'.cell? ⟨g, j, none⟩ = some v := fun {j v} hc => (World.cell?_of_block (w := w) (a := ⟨g, j, none⟩) (e g (cell_lt hc))).trans hc
  exact ⟨bp, bc, kp, kc, f c0, f c1, f c2, f c3, f c4, f c5, hb.kept e, hk.kept e, r⟩
theorem Ops6.below {w w' : World} {p : Option Addr} {l : List Opy} (h : Ops6 w p l) (B : Below w.heap.size w w') : Ops6 w' p l := by
  rcases h with h | ⟨g, off, hp, hc⟩
  · exact Or.inl h
  · exact Or.inr ⟨g, off, hp, fun i hi => (hc i hi).kept (fun k hk => B.block k hk)⟩
theorem Ops6.at {w : World} {p : Option Addr} {l : List Opy} (h : Ops6 w p l) {k : Nat} (hk : k < l.length) : ∃ g off, p = some ⟨g, off, none⟩ ∧ OpAt6 w g (off + k * 6) l[k] := by
  rcases h with rfl | ⟨g, off, hp, hc⟩
  · simp at hk
  · exact ⟨g, off, hp, hc k hk⟩
theorem bytesOfBool6 : Try.prog.bytesOf 4 = 1 := by kernel_rfl
theorem weights_all6 {H : Type} (e : TypeId) (d : DataW H) (n : Nat) (hn : n ∈ DataW.weights Try.prog e d) : ∀ l : List (DataW H), d ∈ l → n ∈ DataW.weightsAll Try.prog e l
  | [], h => by simp at h
  | x :: l, h => by
    simp only [DataW.weightsAll, List.mem_append]
    rcases List.mem_cons.1 h with rfl | h
    · exact Or.inl hn
    · exact Or.inr (weights_all6 e d n hn l h)
/-- An act, read; its bools are weighed with it. -/
theorem trod_op6 {H : Type} {enc : TypeId × Value → H} {W : World} {fuel : Nat} {cs : List Value} {x : DataW H × List MemPlace} (h : DataW.trod enc Try.prog W 0 (fun _ => true) true fuel 46 cs = some x) :
    ∃ (o : Opy) (bp kp : Option Addr) (bc kc : Nat), cs = [.int .i64 o.kind, .int .i64 o.n, .slice bp o.b.length bc, .slice kp o.keep.length kc, .int .i64 o.torn, .int .i64 o.cut] ∧
      Byts W bp o.b ∧ Bits W kp o.keep ∧ ((-9223372036854775808 ≤ o.n ∧ o.n ≤ 9223372036854775807) ∧ (-9223372036854775808 ≤ o.kind ∧ o.kind ≤ 9223372036854775807) ∧ o.b.length ≤ bc ∧ o.keep.length ≤ kc) ∧ (o.keep.length = 0 ∨ ∃ q ∈ DataW.weights Try.prog 46 x.1, o.keep.length ≤ q) := by
  obtain ⟨xs, n, _, hx, hl, hlen, hf⟩ := DataW.trod_struct Try.underlying46 h
  rw [cellsOfOp6] at hl
  match cs, hl with
  | [c0, c1, c3, c5, c6, c7], _ =>
    match xs, hlen with
    | [y0, y1, y3, y5, y6, y7], _ =>
      have h0 : DataW.trod enc Try.prog W 0 (fun _ => true) true n 3 [c0] = some y0 := by simpa [cellsOfInt] using hf 0 _ rfl
      have h1 : DataW.trod enc Try.prog W 0 (fun _ => true) true n 3 [c1] = some y1 := by simpa [cellsOfInt] using hf 1 _ rfl
      have h3 : DataW.trod enc Try.prog W 0 (fun _ => true) true n 22 [c3] = some y3 := by simpa [cellsOfBs] using hf 2 _ rfl
      have h5 : DataW.trod enc Try.prog W 0 (fun _ => true) true n 44 [c5] = some y5 := by simpa [cellsOfKs] using hf 3 _ rfl
      have h6 : DataW.trod enc Try.prog W 0 (fun _ => true) true n 3 [c6] = some y6 := by simpa [cellsOfInt] using hf 4 _ rfl
      have h7 : DataW.trod enc Try.prog W 0 (fun _ => true) true n 3 [c7] = some y7 := by simpa [cellsOfInt] using hf 5 _ rfl
      obtain ⟨k0, e0, _, w0⟩ := DataW.trod_int Try.underlying3 h0
      obtain ⟨k1, e1, _, w1⟩ := DataW.trod_int Try.underlying3 h1
      obtain ⟨bp, bc, bs, e3, hb, _, _, hbc, _⟩ := trod_bytes h3
      obtain ⟨kp, kc, ks, e5, hk, _, _, hkc, hd⟩ := trod_bits h5
      obtain ⟨k6, e6, _, w6⟩ := DataW.trod_int Try.underlying3 h6
      obtain ⟨k7, e7, _, w7⟩ := DataW.trod_int Try.underlying3 h7
      simp only [List.cons.injEq, and_true] at e0 e1 e6 e7
      refine ⟨⟨k0, k1, bs, ks, k6, k7⟩, bp, kp, bc, kc, ?_, hb, hk, ⟨bounds_i64 w1, bounds_i64 w0, hbc, hkc⟩, ?_⟩
      · rw [e0, e1, e3, e5, e6, e7]
      · rcases hd with ⟨_, h0⟩ | ⟨el, sp, hy, he⟩
        · exact Or.inl h0
        · right
          refine ⟨(el.length + sp.length) * Try.prog.bytesOf 4, ?_, by rw [bytesOfBool6]; show ks.length ≤ _; omega⟩
          rw [hx]
          simp only [DataW.weights, Try.underlying46]
          refine DataW.weights_mem_each (P := Try.prog) (j := 3) (t := 44) (d := .slice el sp) rfl ?_ _ ?_
          · simp [hy]
          · simp [DataW.weights, Try.underlying44]
theorem open_ops6 {H : Type} {enc : TypeId × Value → H} {W : World} {r : Reach} {b0 : Nat} {v : Value} {d : DataW H} {p : List MemPlace} {ts : List TypeId} {ds : List (DataW H)} {j0 : Nat} (hv : Value.okWide Try.prog W r b0 26 v)
    (h : DataW.Trod enc Try.prog W 0 (fun _ => true) true 26 v d p) (hsz : (DataW.weightsEach Try.prog ts ds).all (· ≤ reachBytes) = true) (ht : ts[j0]? = some 26) (hd : ds[j0]? = some d) :
    ∃ (pa : Option Addr) (cap : Nat) (l : List Opy), v = .slice pa l.length cap ∧ Ops6 W pa l ∧ l.length ≤ maxLen ∧ l.length ≤ cap ∧ ∀ x ∈ l, x.keep.length ≤ 140737488351232 := by
  obtain ⟨a0, len, cap, rfl⟩ := okWide_slice Try.underlying26 hv
  obtain ⟨fuel, hf⟩ := h
  rcases open_slice Try.underlying26 hf with ⟨hcs, hx⟩ | ⟨a, l, c, m, n, D, Pl, hcs, _, hl, hm, hmm, hx, hel⟩
  · simp [Value.cells] at hcs
    obtain ⟨rfl, rfl, rfl⟩ := hcs
    exact ⟨none, 0, [], rfl, Or.inl rfl, Nat.zero_le _, Nat.zero_le _, by simp⟩
  · simp [Value.cells] at hcs
    obtain ⟨rfl, rfl, rfl⟩ := hcs
    have hlm : len ≤ m := by simp at hmm; omega
    have hdd : d = .slice ((List.range len).map D) ((List.range (m - len)).map fun j => D (len + j)) := (Prod.mk.inj hx).1
    have hall : ∀ i, i < len → ∀ q ∈ DataW.weights Try.prog 46 (D i), q ≤ reachBytes := by
      intro i hi q hq
      have h1 := weights_all6 _ _ _ hq ((List.range len).map D) (List.mem_map.2 ⟨i, List.mem_range.2 hi, rfl⟩)
      have hw := DataW.weights_mem_each (P := Try.prog) ht hd q (by
        rw [hdd]
        simp only [DataW.weights, Try.underlying26]
        simp only [List.mem_cons, List.mem_append]
        exact Or.inr (Or.inl h1))
      simpa using List.all_eq_true.1 hsz _ hw
    by_cases h0 : len = 0
    · subst h0
      exact ⟨some a, cap, [], rfl, Or.inl rfl, Nat.zero_le _, Nat.zero_le _, by simp⟩
    obtain ⟨b, off, spot⟩ := a
    have hspot : spot = none := by
      obtain ⟨cs', hc, ht⟩ := hel 0 (by omega)
      rw [cellsOfOp6] at hc
      obtain ⟨o, bp, kp, bc, kc, rfl, _⟩ := trod_op6 ht
      obtain ⟨_, _, hcell⟩ := World.cells?_some hc
      have := hcell 0 (by omega)
      simpa [Addr.add] using World.cell?_spot this
    subst hspot
    obtain ⟨f, hF⟩ := choose_lt' (⟨0, 0, [], [], 0, 0⟩ : Opy) (n := len) (p := fun i (x : Opy) => OpAt6 W b (off + i * 6) x ∧ x.keep.length ≤ 140737488351232) (fun i hi => by
      obtain ⟨cs', hc, ht⟩ := hel i (by omega)
      rw [cellsOfOp6] at hc
      obtain ⟨o, bp, kp, bc, kc, rfl, hb, hk, r, hq⟩ := trod_op6 ht
      have hkeep : o.keep.length ≤ 140737488351232 := by
        rcases hq with h0 | ⟨q, hq, hle⟩
        · omega
        · have := hall i hi q hq
          simp only [reachBytes] at this
          omega
      obtain ⟨_, _, hcell⟩ := World.cells?_some hc
      have g0 := hcell 0 (by omega)
      have g1 := hcell 1 (by omega)
      have g2 := hcell 2 (by omega)
      have g3 := hcell 3 (by omega)
      have g4 := hcell 4 (by omega)
      have g5 := hcell 5 (by omega)
      simp only [add_plain', Nat.add_zero] at g0 g1 g2 g3 g4 g5
      exact ⟨o, ⟨bp, bc, kp, kc, g0, g1, g2, g3, g4, g5, hb, hk, r⟩, hkeep⟩)
    have hlen : ((List.range len).map f).length = len := by simp
    refine ⟨_, cap, (List.range len).map f, by rw [hlen], Or.inr ⟨b, off, rfl, fun i hi => ?_⟩, by rw [hlen]; omega, by rw [hlen]; omega, fun x hx => ?_⟩
    · rw [hlen] at hi
      simp only [List.getElem_map, List.getElem_range]
      exact (hF i hi).1
    · obtain ⟨i, hi, rfl⟩ := List.mem_map.1 hx
      exact (hF i (List.mem_range.1 hi)).2
end Go.Proofs.Ytnecigbncggogaa
