/- How the arguments of the laws on values read: a value, a slice of values, a slice of bools. No conditions. How a slice of values reads, with its numbers' bounds and its texts' lengths. No conditions. -/
import Derived.Test.YtblkhlhhlalbkaaGreatDoorVA
import Derived.Test.YtblkhlhhlalbkaaGreatDoorChecked
import Derived.ProofKit
import Derived.OpenShut
import Derived.Lib.SmallJoins
import Derived.Deep.Slices
import Derived.SizedLaws
namespace Go.Proofs.YtblkhlhhlalbkaaGreatDoor
open Go.ChangeShapes Go.WideShapes Go.ChangeAt Go.RowKit Go.Deep
set_option linter.unusedVariables false
set_option maxRecDepth 20000

theorem cellsOfV : Tryz.prog.cellsOf 23 = 3 := by kernel_rfl
theorem cellsOfB : Tryz.prog.cellsOf 4 = 1 := by kernel_rfl
theorem bytesOfV : Tryz.prog.bytesOf 23 = 32 := by kernel_rfl
theorem bytesOfB : Tryz.prog.bytesOf 4 = 1 := by kernel_rfl
theorem cellsOfInt : Tryz.prog.cellsOf 3 = 1 := by kernel_rfl
theorem cellsOfInt64 : Tryz.prog.cellsOf 2 = 1 := by kernel_rfl
theorem cellsOfStr : Tryz.prog.cellsOf 9 = 1 := by kernel_rfl

def Val0 : Val := ⟨0, 0, ByteArray.empty⟩
theorem choose_val {n : Nat} {p : Nat → Val → Prop} (h : ∀ i, i < n → ∃ x, p i x) : ∃ f : Nat → Val, ∀ i, i < n → p i (f i) := by
  have : Nonempty (Inhabited Val) := ⟨⟨Val0⟩⟩
  obtain ⟨_⟩ := this
  exact choose_lt h

/-- The cells of a value, read. -/
theorem trod_val {H : Type} {enc : TypeId × Value → H} {W : World} {fuel : Nat} {cs : List Value} {x : DataW H × List MemPlace}
    (h : DataW.trod enc Tryz.prog W 0 (fun _ => true) true fuel 23 cs = some x) : ∃ a : Val, cs = [.int .i64 a.k, .int .i64 a.n, .string a.s] ∧ a.s.size ≤ maxLen := by
  obtain ⟨y0, y1, y2, n, _, hl, h0, h1, h2⟩ := trod_struct3 Tryz.underlying23 h
  rw [cellsOfV] at hl
  match cs, hl with
  | [c0, c1, c2], _ =>
    simp only [cellsOfInt, cellsOfInt64, cellsOfStr, List.drop_zero, List.take_succ_cons, List.take_zero, List.drop_succ_cons] at h0 h1 h2
    obtain ⟨k, e0, _, _⟩ := DataW.trod_int Tryz.underlying3 h0
    obtain ⟨m, e1, _, _⟩ := DataW.trod_int Tryz.underlying2 h1
    obtain ⟨s, e2, _, hs⟩ := DataW.trod_string Tryz.underlying9 h2
    simp only [List.cons.injEq, and_true] at e0 e1 e2
    subst e0 e1 e2
    exact ⟨⟨k, m, s⟩, rfl, hs⟩

theorem open_val {H : Type} {enc : TypeId × Value → H} {W : World} {r : Reach} {b0 : Nat} {v : Value} {d : DataW H} {p : List MemPlace} (hv : Value.okWide Tryz.prog W r b0 23 v)
    (h : DataW.Trod enc Tryz.prog W 0 (fun _ => true) true 23 v d p) : ∃ a : Val, v = a.v ∧ a.s.size ≤ maxLen := by
  obtain ⟨cs, rfl, hsz⟩ := okWide_struct Tryz.underlying23 hv
  obtain ⟨fuel, hf⟩ := h
  obtain ⟨a, ha, hs⟩ := trod_val hf
  refine ⟨a, ?_, hs⟩
  have e : cs.toList = [.int .i64 a.k, .int .i64 a.n, .string a.s] := by simpa [Value.cells] using ha
  unfold Val.v
  congr 1
  exact Array.toList_inj.1 e

/-- A value, with its datum and its number's bounds. -/
theorem open_val_all {H : Type} {enc : TypeId × Value → H} {W : World} {r : Reach} {b0 : Nat} {v : Value} {d : DataW H} {p : List MemPlace} (hv : Value.okWide Tryz.prog W r b0 23 v)
    (h : DataW.Trod enc Tryz.prog W 0 (fun _ => true) true 23 v d p) :
    ∃ a : Val, v = a.v ∧ d = .agg [.lit (.int .i64 a.k), .lit (.int .i64 a.n), .lit (.string a.s.data.toList)] ∧ a.s.size ≤ maxLen ∧ -9223372036854775808 ≤ a.n ∧ a.n ≤ 9223372036854775807 := by
  obtain ⟨cs, rfl, hsz⟩ := okWide_struct Tryz.underlying23 hv
  obtain ⟨fuel, hf⟩ := h
  obtain ⟨y0, y1, y2, n, hx, hl, h0, h1, h2⟩ := trod_struct3 Tryz.underlying23 hf
  rw [cellsOfV] at hl
  obtain ⟨cl⟩ := cs
  simp only [Value.cells] at hl h0 h1 h2
  match cl, hl with
  | [c0, c1, c2], _ =>
    simp only [cellsOfInt, cellsOfInt64, cellsOfStr, List.drop_zero, List.take_succ_cons, List.take_zero, List.drop_succ_cons] at h0 h1 h2
    obtain ⟨k, e0, g0, _⟩ := DataW.trod_int Tryz.underlying3 h0
    obtain ⟨m, e1, g1, wm⟩ := DataW.trod_int Tryz.underlying2 h1
    obtain ⟨s, e2, g2, hs⟩ := DataW.trod_string Tryz.underlying9 h2
    simp only [List.cons.injEq, and_true] at e0 e1 e2
    subst e0 e1 e2 g0 g1 g2
    exact ⟨⟨k, m, s⟩, rfl, (Prod.mk.inj hx).1, hs, bounds_i64 wm⟩

/-- A value's text lies within the reach. -/
theorem sized_val {H : Type} {ts : List TypeId} {ds : List (DataW H)} (h : (DataW.weightsEach Tryz.prog ts ds).all (· ≤ reachBytes) = true) {j : Nat} {k n : Int} {s : ByteArray}
    (ht : ts[j]? = some 23) (hd : ds[j]? = some (.agg [.lit (.int .i64 k), .lit (.int .i64 n), .lit (.string s.data.toList)])) : s.size ≤ reachBytes := by
  have hm := DataW.weights_mem_each (P := Tryz.prog) ht hd s.size (by
    simp only [DataW.weights, Tryz.underlying23]
    simp [DataW.weightsEach, DataW.weights])
  have := List.all_eq_true.1 h _ hm
  simpa using this

theorem open_vals {H : Type} {enc : TypeId × Value → H} {W : World} {r : Reach} {b0 : Nat} {v : Value} {d : DataW H} {p : List MemPlace} (hv : Value.okWide Tryz.prog W r b0 27 v)
    (h : DataW.Trod enc Tryz.prog W 0 (fun _ => true) true 27 v d p) :
    ∃ (pa : Option Addr) (cap : Nat) (vs : List Val), v = .slice pa vs.length cap ∧ Row W pa vs ∧ (pa = none → vs.length = 0 ∧ cap = 0) ∧ (∀ x ∈ vs, x.s.size ≤ maxLen) ∧ vs.length ≤ maxLen ∧
      ((d = .nil ∧ vs.length = 0) ∨ ∃ el sp, d = .slice el sp ∧ el.length = vs.length) := by
  obtain ⟨a0, len, cap, rfl⟩ := okWide_slice Tryz.underlying27 hv
  obtain ⟨fuel, hf⟩ := h
  rcases open_slice Tryz.underlying27 hf with ⟨hcs, hx⟩ | ⟨a, l, c, m, n, D, Pl, hcs, _, hl, hm, hmm, hx, hel⟩
  · simp [Value.cells] at hcs
    obtain ⟨rfl, rfl, rfl⟩ := hcs
    exact ⟨none, 0, [], rfl, Or.inl rfl, fun _ => ⟨rfl, rfl⟩, by simp, Nat.zero_le _, Or.inl ⟨(Prod.mk.inj hx).1, rfl⟩⟩
  · simp [Value.cells] at hcs
    obtain ⟨rfl, rfl, rfl⟩ := hcs
    have hlm : len ≤ m := by simp at hmm; omega
    obtain ⟨f, hF⟩ := choose_val (n := len) (p := fun i x => W.cell? (a.add (i * 3)) = some (.int .i64 x.k) ∧ W.cell? ((a.add (i * 3)).add 1) = some (.int .i64 x.n) ∧ W.cell? ((a.add (i * 3)).add 2) = some (.string x.s) ∧ x.s.size ≤ maxLen) (fun i hi => by
      obtain ⟨cs', hc, ht⟩ := hel i (by omega)
      rw [cellsOfV] at hc
      obtain ⟨x, rfl, hs⟩ := trod_val ht
      obtain ⟨_, _, hcell⟩ := World.cells?_some hc
      exact ⟨x, by simpa [Addr.add] using hcell 0 (by omega), hcell 1 (by omega), hcell 2 (by omega), hs⟩)
    have hlen : ((List.range len).map f).length = len := by simp
    refine ⟨some a, cap, (List.range len).map f, by rw [hlen], ?_, by simp, ?_, by rw [hlen]; omega, Or.inr ⟨_, _, (Prod.mk.inj hx).1, by simp⟩⟩
    · by_cases h0 : len = 0
      · subst h0; exact Or.inl rfl
      · right
        obtain ⟨b, off, spot⟩ := a
        have hc := (hF 0 (by omega)).1
        have hspot : spot = none := by simpa [Addr.add] using World.cell?_spot hc
        subst hspot
        refine ⟨b, off, rfl, fun i hi => ?_⟩
        rw [hlen] at hi
        obtain ⟨g0, g1, g2, _⟩ := hF i hi
        simp only [add_plain, List.getElem_map, List.getElem_range] at *
        exact ⟨g0, g1, g2⟩
    · intro x hx'
      obtain ⟨i, hi, rfl⟩ := List.mem_map.1 hx'
      exact (hF i (List.mem_range.1 hi)).2.2.2

end Go.Proofs.YtblkhlhhlalbkaaGreatDoor
namespace Go.Proofs.YtblkhlhhlalbkaaGreatDoor
open Go.ChangeShapes Go.WideShapes Go.ChangeAt Go.RowKit Go.Deep
set_option linter.unusedVariables false
set_option maxRecDepth 20000

def datV {H : Type} (a : Val) : DataW H := .agg [.lit (.int .i64 a.k), .lit (.int .i64 a.n), .lit (.string a.s.data.toList)]

/-- The cells of a value, read: its datum and its number's bounds. -/
theorem trod_val_all {H : Type} {enc : TypeId × Value → H} {W : World} {fuel : Nat} {cs : List Value} {x : DataW H × List MemPlace}
    (h : DataW.trod enc Tryz.prog W 0 (fun _ => true) true fuel 23 cs = some x) : ∃ a : Val, cs = [.int .i64 a.k, .int .i64 a.n, .string a.s] ∧ x.1 = datV a ∧ -9223372036854775808 ≤ a.n ∧ a.n ≤ 9223372036854775807 := by
  obtain ⟨y0, y1, y2, n, hx, hl, h0, h1, h2⟩ := trod_struct3 Tryz.underlying23 h
  rw [cellsOfV] at hl
  match cs, hl with
  | [c0, c1, c2], _ =>
    simp only [cellsOfInt, cellsOfInt64, cellsOfStr, List.drop_zero, List.take_succ_cons, List.take_zero, List.drop_succ_cons] at h0 h1 h2
    obtain ⟨k, e0, g0, _⟩ := DataW.trod_int Tryz.underlying3 h0
    obtain ⟨m, e1, g1, wm⟩ := DataW.trod_int Tryz.underlying2 h1
    obtain ⟨s, e2, g2, hs⟩ := DataW.trod_string Tryz.underlying9 h2
    simp only [List.cons.injEq, and_true] at e0 e1 e2
    subst e0 e1 e2 g0 g1 g2
    exact ⟨⟨k, m, s⟩, rfl, by rw [hx]; rfl, bounds_i64 wm⟩

theorem open_vals_all {H : Type} {enc : TypeId × Value → H} {W : World} {r : Reach} {b0 : Nat} {v : Value} {d : DataW H} {p : List MemPlace} (hv : Value.okWide Tryz.prog W r b0 27 v)
    (h : DataW.Trod enc Tryz.prog W 0 (fun _ => true) true 27 v d p) :
    ∃ (pa : Option Addr) (cap : Nat) (vs : List Val), v = .slice pa vs.length cap ∧ Row W pa vs ∧ (pa = none → vs.length = 0 ∧ cap = 0) ∧ (∀ x ∈ vs, -9223372036854775808 ≤ x.n ∧ x.n ≤ 9223372036854775807) ∧ vs.length ≤ maxLen ∧
      ((d = .nil ∧ vs = []) ∨ ∃ el sp, d = .slice el sp ∧ el.length = vs.length ∧ ∀ x ∈ vs, datV x ∈ el) := by
  obtain ⟨a0, len, cap, rfl⟩ := okWide_slice Tryz.underlying27 hv
  obtain ⟨fuel, hf⟩ := h
  rcases open_slice Tryz.underlying27 hf with ⟨hcs, hx⟩ | ⟨a, l, c, m, n, D, Pl, hcs, _, hl, hm, hmm, hx, hel⟩
  · simp [Value.cells] at hcs
    obtain ⟨rfl, rfl, rfl⟩ := hcs
    exact ⟨none, 0, [], rfl, Or.inl rfl, fun _ => ⟨rfl, rfl⟩, by simp, Nat.zero_le _, Or.inl ⟨(Prod.mk.inj hx).1, rfl⟩⟩
  · simp [Value.cells] at hcs
    obtain ⟨rfl, rfl, rfl⟩ := hcs
    have hlm : len ≤ m := by simp at hmm; omega
    obtain ⟨f, hF⟩ := choose_val (n := len) (p := fun i x => W.cell? (a.add (i * 3)) = some (.int .i64 x.k) ∧ W.cell? ((a.add (i * 3)).add 1) = some (.int .i64 x.n) ∧ W.cell? ((a.add (i * 3)).add 2) = some (.string x.s) ∧ D i = datV x ∧ -9223372036854775808 ≤ x.n ∧ x.n ≤ 9223372036854775807) (fun i hi => by
      obtain ⟨cs', hc, ht⟩ := hel i (by omega)
      rw [cellsOfV] at hc
      obtain ⟨x, rfl, hd, hn⟩ := trod_val_all ht
      obtain ⟨_, _, hcell⟩ := World.cells?_some hc
      exact ⟨x, by simpa [Addr.add] using hcell 0 (by omega), hcell 1 (by omega), hcell 2 (by omega), hd, hn⟩)
    have hlen : ((List.range len).map f).length = len := by simp
    refine ⟨some a, cap, (List.range len).map f, by rw [hlen], ?_, by simp, ?_, by rw [hlen]; omega, Or.inr ⟨_, _, (Prod.mk.inj hx).1, by simp, ?_⟩⟩
    · by_cases h0 : len = 0
      · subst h0; exact Or.inl rfl
      · right
        obtain ⟨b, off, spot⟩ := a
        have hc := (hF 0 (by omega)).1
        have hspot : spot = none := by simpa [Addr.add] using World.cell?_spot hc
        subst hspot
        refine ⟨b, off, rfl, fun i hi => ?_⟩
        rw [hlen] at hi
        obtain ⟨g0, g1, g2, _⟩ := hF i hi
        simp only [add_plain, List.getElem_map, List.getElem_range] at *
        exact ⟨g0, g1, g2⟩
    · intro x hx'
      obtain ⟨i, hi, rfl⟩ := List.mem_map.1 hx'
      exact (hF i (List.mem_range.1 hi)).2.2.2.2
    · intro x hx'
      obtain ⟨i, hi, rfl⟩ := List.mem_map.1 hx'
      exact List.mem_map.2 ⟨i, hi, (hF i (List.mem_range.1 hi)).2.2.2.1⟩

theorem weights_all {H : Type} (e : TypeId) (d : DataW H) (n : Nat) (hn : n ∈ DataW.weights Tryz.prog e d) : ∀ l : List (DataW H), d ∈ l → n ∈ DataW.weightsAll Tryz.prog e l
  | [], h => by simp at h
  | x :: l, h => by
    simp only [DataW.weightsAll, List.mem_append]
    rcases List.mem_cons.1 h with rfl | h
    · exact Or.inl hn
    · exact Or.inr (weights_all e d n hn l h)

/-- The texts of a slice of values lie within the reach. -/
theorem sized_vals {H : Type} {ts : List TypeId} {ds : List (DataW H)} (h : (DataW.weightsEach Tryz.prog ts ds).all (· ≤ reachBytes) = true) {j : Nat} {el sp : List (DataW H)} {a : Val}
    (ht : ts[j]? = some 27) (hd : ds[j]? = some (.slice el sp)) (hm : datV a ∈ el) : a.s.size ≤ reachBytes := by
  have h1 : a.s.size ∈ DataW.weights Tryz.prog 23 (datV a : DataW H) := by
    unfold datV
    simp only [DataW.weights, Tryz.underlying23]
    simp [DataW.weightsEach, DataW.weights]
  have hw := DataW.weights_mem_each (P := Tryz.prog) ht hd a.s.size (by
    simp only [DataW.weights, Tryz.underlying27]
    simp only [List.mem_cons, List.mem_append]
    have := weights_all _ _ _ h1 el hm
    simp [this])
  have := List.all_eq_true.1 h _ hw
  simpa using this
end Go.Proofs.YtblkhlhhlalbkaaGreatDoor
