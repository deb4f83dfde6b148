/- How nodes of the document, bytes and numbers read that come in, with their reach. No conditions. -/
import Derived.Test.YtilmlegkkgiahaaNdMem
import Derived.Deep.Slices
import Derived.Deep.Strs
import Derived.ChangeOld
import Derived.SizedLaws
namespace Go.Proofs.Ytilmlegkkgiahaa
open Go.ChangeShapes Go.WideShapes Go.ChangeAt Go.RowKit Go.Deep
set_option linter.unusedVariables false
set_option maxRecDepth 20000

theorem cellsOfByte : Try.prog.cellsOf 5 = 1 := by kernel_rfl
theorem bytesOfByte : Try.prog.bytesOf 5 = 1 := by kernel_rfl
theorem cellsOfInt : Try.prog.cellsOf 3 = 1 := by kernel_rfl
theorem bytesOfInt : Try.prog.bytesOf 3 = 8 := by kernel_rfl
theorem cellsOfBool : Try.prog.cellsOf 4 = 1 := by kernel_rfl
theorem cellsOfBs : Try.prog.cellsOf 31 = 1 := by kernel_rfl
theorem bytesOfBs : Try.prog.bytesOf 31 = 24 := by kernel_rfl
theorem cellsOfIs : Try.prog.cellsOf 24 = 1 := by kernel_rfl
theorem cellsOfKs : Try.prog.cellsOf 23 = 1 := by kernel_rfl
theorem cellsOfCs : Try.prog.cellsOf 22 = 1 := by kernel_rfl
theorem cellsOfCell : Try.prog.cellsOf 59 = 4 := by kernel_rfl
theorem bytesOfCell : Try.prog.bytesOf 59 = 64 := by kernel_rfl
theorem cellsOfNode : Try.prog.cellsOf 26 = 4 := by kernel_rfl
theorem bounds_i64 {n : Int} (h : (Lit.int .i64 n).wf = true) : -9223372036854775808 ≤ n ∧ n ≤ 9223372036854775807 := by
  simpa [Lit.wf, IntKind.min, IntKind.max, IntKind.signed, IntKind.bits] using h
theorem choose_lt' {α : Type} (d0 : α) {n : Nat} {p : Nat → α → Prop} (h : ∀ i, i < n → ∃ x, p i x) : ∃ f : Nat → α, ∀ i, i < n → p i (f i) := by
  classical
  refine ⟨fun i => if hi : i < n then Classical.choose (h i hi) else d0, fun i hi => ?_⟩
  simp only [hi, dif_pos]
  exact Classical.choose_spec (h i hi)
theorem add_plain' (b off n : Nat) : (⟨b, off, none⟩ : Addr).add n = ⟨b, off + n, none⟩ := Addr.add_mid b off n
theorem u8_of {x : Int} (hw : (Lit.int .u8 x).wf = true) : x = (((UInt8.ofNat x.toNat).toNat : Nat) : Int) := by
  have hb : 0 ≤ x ∧ x ≤ 255 := by simpa [Lit.wf, IntKind.min, IntKind.max, IntKind.signed, IntKind.bits] using hw
  have : (UInt8.ofNat x.toNat).toNat = x.toNat % 256 := by simp
  rw [this]
  omega
/-- All that is weighed lies within the reach. -/
def Wt {H : Type} (t : TypeId) (d : DataW H) : Prop := ∀ q ∈ DataW.weights Try.prog t d, q ≤ 140737488351232
theorem weights_in {H : Type} (e : TypeId) (d : DataW H) (n : Nat) (hn : n ∈ DataW.weights Try.prog e d) : ∀ l : List (DataW H), d ∈ l → n ∈ DataW.weightsAll Try.prog e l
  | [], h => by simp at h
  | x :: l, h => by
    simp only [DataW.weightsAll, List.mem_append]
    rcases List.mem_cons.1 h with rfl | h
    · exact Or.inl hn
    · exact Or.inr (weights_in e d n hn l h)
theorem Wt.slice {H : Type} {t e : TypeId} {el sp : List (DataW H)} (ht : Try.prog.underlying t = some (.slice e)) (h : Wt t (.slice el sp)) : (el.length + sp.length) * Try.prog.bytesOf e ≤ 140737488351232 ∧ ∀ d ∈ el, Wt e d := by
  refine ⟨h _ (by simp [DataW.weights, ht]), fun d hd q hq => h q ?_⟩
  have h1 := weights_in e d q hq el hd
  simp only [DataW.weights, ht, List.mem_cons, List.mem_append]
  exact Or.inr (Or.inl h1)
theorem Wt.field {H : Type} {t : TypeId} {fs : Array Field} {ds : List (DataW H)} {j : Nat} {f : TypeId} {d : DataW H} (ht : Try.prog.underlying t = some (.struct fs)) (h : Wt t (.agg ds)) (hf : (fs.toList.map (·.type))[j]? = some f) (hd : ds[j]? = some d) : Wt f d := by
  intro q hq
  refine h q ?_
  simp only [DataW.weights, ht]
  exact DataW.weights_mem_each (P := Try.prog) hf hd q hq
/-- Bytes. -/
theorem trod_bytes {H : Type} {enc : TypeId × Value → H} {W : World} {fuel : Nat} {c : Value} {x : DataW H × List MemPlace} (h : DataW.trod enc Try.prog W 0 (fun _ => true) true fuel 31 [c] = some x) (hw : Wt 31 x.1) : ∃ bs, BV W (fun _ => True) c bs := by
  rcases open_slice1 Try.underlying31 cellsOfByte h with ⟨hcs, hx⟩ | ⟨a, l, cp, m, n, V, D, Pl, hcs, _, hl, hm, hmm, hx, hel⟩
  · simp only [List.cons.injEq, and_true] at hcs
    exact ⟨[], by rw [hcs]; exact BV.nil _ _⟩
  · simp only [List.cons.injEq, and_true] at hcs
    have hlm : l ≤ m := by simp at hmm; omega
    rw [hx] at hw
    have hwt := (Wt.slice Try.underlying31 hw).1
    rw [bytesOfByte] at hwt
    simp only [List.length_map, List.length_range] at hwt
    obtain ⟨f, hF⟩ := choose_lt' (0 : UInt8) (n := l) (p := fun i (x : UInt8) => W.cell? (a.add i) = some (.int .u8 (x.toNat : Int))) (fun i hi => by
      obtain ⟨hc, ht⟩ := hel i (by omega)
      obtain ⟨x, e, _, hw⟩ := DataW.trod_int Try.underlying5 ht
      simp only [List.cons.injEq, and_true] at e
      rw [e] at hc
      exact ⟨UInt8.ofNat x.toNat, by rw [hc, ← u8_of hw]⟩)
    have hlen : ((List.range l).map f).length = l := by simp
    refine ⟨(List.range l).map f, some a, cp, by rw [hlen]; exact hcs, ?_, by rw [hlen]; omega, by simp, by rw [hlen]; omega⟩
    by_cases h0 : l = 0
    · subst h0; exact Or.inl rfl
    · right
      obtain ⟨b, off, spot⟩ := a
      have hc := hF 0 (by omega)
      have hspot : spot = none := by simpa [Addr.add] using World.cell?_spot hc
      subst hspot
      refine ⟨b, off, rfl, trivial, fun i hi => ?_⟩
      rw [hlen] at hi
      have g0 := hF i hi
      simp only [add_plain', List.getElem_map, List.getElem_range] at *
      exact g0
/-- Numbers. -/
theorem trod_kids {H : Type} {enc : TypeId × Value → H} {W : World} {fuel : Nat} {c : Value} {x : DataW H × List MemPlace} (h : DataW.trod enc Try.prog W 0 (fun _ => true) true fuel 24 [c] = some x) (hw : Wt 24 x.1) : ∃ l, DsV W (fun _ => True) c l := by
  rcases open_slice1 Try.underlying24 cellsOfInt h with ⟨hcs, hx⟩ | ⟨a, l, cp, m, n, V, D, Pl, hcs, _, hl, hm, hmm, hx, hel⟩
  · simp only [List.cons.injEq, and_true] at hcs
    exact ⟨[], by rw [hcs]; exact DsV.nil _ _⟩
  · simp only [List.cons.injEq, and_true] at hcs
    have hlm : l ≤ m := by simp at hmm; omega
    rw [hx] at hw
    have hwt := (Wt.slice Try.underlying24 hw).1
    rw [bytesOfInt] at hwt
    simp only [List.length_map, List.length_range] at hwt
    obtain ⟨f, hF⟩ := choose_lt' (0 : Int) (n := l) (p := fun i (x : Int) => W.cell? (a.add i) = some (.int .i64 x) ∧ i64b x) (fun i hi => by
      obtain ⟨hc, ht⟩ := hel i (by omega)
      obtain ⟨x, e, _, hw⟩ := DataW.trod_int Try.underlying3 ht
      simp only [List.cons.injEq, and_true] at e
      rw [e] at hc
      exact ⟨x, hc, bounds_i64 hw⟩)
    have hlen : ((List.range l).map f).length = l := by simp
    refine ⟨(List.range l).map f, some a, cp, by rw [hlen]; exact hcs, ?_, by rw [hlen]; omega, by simp, by rw [hlen]; omega, ?_⟩
    · by_cases h0 : l = 0
      · subst h0; exact Or.inl rfl
      · right
        obtain ⟨b, off, spot⟩ := a
        have hc := (hF 0 (by omega)).1
        have hspot : spot = none := by simpa [Addr.add] using World.cell?_spot hc
        subst hspot
        refine ⟨b, off, rfl, trivial, fun i hi => ?_⟩
        rw [hlen] at hi
        have g0 := (hF i hi).1
        simp only [add_plain', List.getElem_map, List.getElem_range] at *
        exact g0
    · intro x hx
      obtain ⟨i, hi, rfl⟩ := List.mem_map.1 hx
      exact (hF i (List.mem_range.1 hi)).2
/-- Rows of bytes. -/
theorem trod_keys {H : Type} {enc : TypeId × Value → H} {W : World} {fuel : Nat} {c : Value} {x : DataW H × List MemPlace} (h : DataW.trod enc Try.prog W 0 (fun _ => true) true fuel 23 [c] = some x) (hw : Wt 23 x.1) : ∃ l, KsV W (fun _ => True) c l := by
  rcases open_slice1 Try.underlying23 cellsOfBs h with ⟨hcs, hx⟩ | ⟨a, l, cp, m, n, V, D, Pl, hcs, _, hl, hm, hmm, hx, hel⟩
  · simp only [List.cons.injEq, and_true] at hcs
    exact ⟨[], by rw [hcs]; exact KsV.nil _ _⟩
  · simp only [List.cons.injEq, and_true] at hcs
    have hlm : l ≤ m := by simp at hmm; omega
    rw [hx] at hw
    obtain ⟨hwt, hwe⟩ := Wt.slice Try.underlying23 hw
    rw [bytesOfBs] at hwt
    simp only [List.length_map, List.length_range] at hwt
    obtain ⟨f, hF⟩ := choose_lt' ([] : List UInt8) (n := l) (p := fun i (x : List UInt8) => ∃ v, W.cell? (a.add i) = some v ∧ BV W (fun _ => True) v x) (fun i hi => by
      obtain ⟨hc, ht⟩ := hel i (by omega)
      obtain ⟨bs, hb⟩ := trod_bytes ht (hwe _ (List.mem_map.2 ⟨i, List.mem_range.2 hi, rfl⟩))
      exact ⟨bs, _, hc, hb⟩)
    have hlen : ((List.range l).map f).length = l := by simp
    refine ⟨(List.range l).map f, some a, cp, by rw [hlen]; exact hcs, ?_, by rw [hlen]; omega, by simp, by rw [hlen]; omega⟩
    by_cases h0 : l = 0
    · subst h0; exact Or.inl rfl
    · right
      obtain ⟨b, off, spot⟩ := a
      obtain ⟨_, hc, _⟩ := hF 0 (by omega)
      have hspot : spot = none := by simpa [Addr.add] using World.cell?_spot hc
      subst hspot
      refine ⟨b, off, rfl, trivial, fun i hi => ?_⟩
      rw [hlen] at hi
      have g0 := hF i hi
      simp only [add_plain', List.getElem_map, List.getElem_range] at *
      exact g0
/-- A cell. -/
theorem trod_cell {H : Type} {enc : TypeId × Value → H} {W : World} {fuel : Nat} {cs : List Value} {x : DataW H × List MemPlace} (h : DataW.trod enc Try.prog W 0 (fun _ => true) true fuel 59 cs = some x) (hw : Wt 59 x.1) :
    ∃ (c : Cl) (a b : Value), cs = [a, b, .int .i64 c.over, .int .i64 c.size] ∧ CR W (fun _ => True) c a b (.int .i64 c.over) (.int .i64 c.size) := by
  obtain ⟨xs, n, _, hx, hl, hlen, hf⟩ := DataW.trod_struct Try.underlying59 h
  rw [cellsOfCell] at hl
  match cs, hl with
  | [c0, c1, c2, c3], _ =>
    match xs, hlen with
    | [y0, y1, y2, y3], _ =>
      have h0 : DataW.trod enc Try.prog W 0 (fun _ => true) true n 31 [c0] = some y0 := by simpa [cellsOfBs] using hf 0 _ rfl
      have h1 : DataW.trod enc Try.prog W 0 (fun _ => true) true n 31 [c1] = some y1 := by simpa [cellsOfBs] using hf 1 _ rfl
      have h2 : DataW.trod enc Try.prog W 0 (fun _ => true) true n 3 [c2] = some y2 := by simpa [cellsOfBs, cellsOfInt] using hf 2 _ rfl
      have h3 : DataW.trod enc Try.prog W 0 (fun _ => true) true n 3 [c3] = some y3 := by simpa [cellsOfBs, cellsOfInt] using hf 3 _ rfl
      rw [hx] at hw
      obtain ⟨k, hk⟩ := trod_bytes h0 (Wt.field Try.underlying59 hw (j := 0) rfl rfl)
      obtain ⟨v, hv⟩ := trod_bytes h1 (Wt.field Try.underlying59 hw (j := 1) rfl rfl)
      obtain ⟨o, e2, _, w2⟩ := DataW.trod_int Try.underlying3 h2
      obtain ⟨s, e3, _, w3⟩ := DataW.trod_int Try.underlying3 h3
      simp only [List.cons.injEq, and_true] at e2 e3
      exact ⟨⟨k, v, o, s⟩, c0, c1, by rw [e2, e3], hk, hv, rfl, rfl, bounds_i64 w2, bounds_i64 w3⟩
/-- Cells. -/
theorem trod_cells {H : Type} {enc : TypeId × Value → H} {W : World} {fuel : Nat} {v : Value} {x : DataW H × List MemPlace} (h : DataW.trod enc Try.prog W 0 (fun _ => true) true fuel 22 [v] = some x) (hw : Wt 22 x.1) : ∃ l, CsV W (fun _ => True) v l := by
  rcases open_slice Try.underlying22 h with ⟨hcs, hx⟩ | ⟨a, l, cp, m, n, D, Pl, hcs, _, hl, hm, hmm, hx, hel⟩
  · simp only [List.cons.injEq, and_true] at hcs
    exact ⟨[], by rw [hcs]; exact CsV.nil _ _⟩
  · simp only [List.cons.injEq, and_true] at hcs
    have hlm : l ≤ m := by simp at hmm; omega
    rw [hx] at hw
    obtain ⟨hwt, hwe⟩ := Wt.slice Try.underlying22 hw
    rw [bytesOfCell] at hwt
    simp only [List.length_map, List.length_range] at hwt
    by_cases h0 : l = 0
    · subst h0
      exact ⟨[], some a, cp, hcs, Or.inl rfl, Nat.zero_le _, (fun h => by cases h), Nat.zero_le _⟩
    obtain ⟨b, off, spot⟩ := a
    have hspot : spot = none := by
      obtain ⟨cs', hc, ht⟩ := hel 0 (by omega)
      rw [cellsOfCell] at hc
      obtain ⟨c, _, _, rfl, _⟩ := trod_cell ht (hwe _ (List.mem_map.2 ⟨0, List.mem_range.2 (by omega), rfl⟩))
      obtain ⟨_, _, hcell⟩ := World.cells?_some hc
      have := hcell 0 (by omega)
      simpa [Addr.add] using World.cell?_spot this
    subst hspot
    obtain ⟨f, hF⟩ := choose_lt' (⟨[], [], 0, 0⟩ : Cl) (n := l) (p := fun i (x : Cl) => CAt W (fun _ => True) b (off + i * 4) x) (fun i hi => by
      obtain ⟨cs', hc, ht⟩ := hel i (by omega)
      rw [cellsOfCell] at hc
      obtain ⟨c, va, vb, rfl, hr⟩ := trod_cell ht (hwe _ (List.mem_map.2 ⟨i, List.mem_range.2 hi, rfl⟩))
      obtain ⟨_, _, hcell⟩ := World.cells?_some hc
      have g0 := hcell 0 (by omega)
      have g1 := hcell 1 (by omega)
      have g2 := hcell 2 (by omega)
      have g3 := hcell 3 (by omega)
      simp only [add_plain', Nat.add_zero] at g0 g1 g2 g3
      exact ⟨c, va, vb, g0, g1, g2, g3, hr⟩)
    have hlen : ((List.range l).map f).length = l := by simp
    refine ⟨(List.range l).map f, some ⟨b, off, none⟩, cp, by rw [hlen]; exact hcs, Or.inr ⟨b, off, rfl, trivial, fun i hi => ?_⟩, by rw [hlen]; omega, (fun h => by cases h), by rw [hlen]; omega⟩
    rw [hlen] at hi
    simp only [List.getElem_map, List.getElem_range]
    exact hF i hi
/-- A node that comes in. -/
theorem open_node {H : Type} {enc : TypeId × Value → H} {W : World} {r : Reach} {b0 : Nat} {v : Value} {d : DataW H} {p : List MemPlace} {ts : List TypeId} {ds : List (DataW H)} {j0 : Nat} (hv : Value.okWide Try.prog W r b0 26 v)
    (h : DataW.Trod enc Try.prog W 0 (fun _ => true) true 26 v d p) (hsz : (DataW.weightsEach Try.prog ts ds).all (· ≤ reachBytes) = true) (ht : ts[j0]? = some 26) (hd : ds[j0]? = some d) :
    ∃ (n : Nd) (cv kv dv : Value), v = .agg #[.bool n.leaf, cv, kv, dv] ∧ NV W (fun _ => True) cv kv dv n := by
  have hw : Wt 26 d := fun q hq => by
    have := List.all_eq_true.1 hsz _ (DataW.weights_mem_each (P := Try.prog) ht hd q hq)
    exact of_decide_eq_true this
  obtain ⟨cs, rfl, hcs⟩ := okWide_struct Try.underlying26 hv
  obtain ⟨fuel, hf0⟩ := h
  obtain ⟨xs, n, _, hx, hl, hlen, hf⟩ := DataW.trod_struct Try.underlying26 hf0
  obtain ⟨cl⟩ := cs
  rw [cellsOfNode] at hl
  simp only [Value.cells] at hl hf
  match cl, hl with
  | [c0, c1, c2, c3], _ =>
    match xs, hlen with
    | [y0, y1, y2, y3], _ =>
      have h0 : DataW.trod enc Try.prog W 0 (fun _ => true) true n 4 [c0] = some y0 := by simpa [cellsOfBool] using hf 0 _ rfl
      have h1 : DataW.trod enc Try.prog W 0 (fun _ => true) true n 22 [c1] = some y1 := by simpa [cellsOfBool, cellsOfCs] using hf 1 _ rfl
      have h2 : DataW.trod enc Try.prog W 0 (fun _ => true) true n 23 [c2] = some y2 := by simpa [cellsOfBool, cellsOfCs, cellsOfKs] using hf 2 _ rfl
      have h3 : DataW.trod enc Try.prog W 0 (fun _ => true) true n 24 [c3] = some y3 := by simpa [cellsOfBool, cellsOfCs, cellsOfKs, cellsOfIs] using hf 3 _ rfl
      have hd' : d = .agg [y0.1, y1.1, y2.1, y3.1] := (Prod.mk.inj hx).1
      rw [hd'] at hw
      obtain ⟨l1, q1⟩ := trod_cells h1 (Wt.field Try.underlying26 hw (j := 1) rfl rfl)
      obtain ⟨l2, q2⟩ := trod_keys h2 (Wt.field Try.underlying26 hw (j := 2) rfl rfl)
      obtain ⟨l3, q3⟩ := trod_kids h3 (Wt.field Try.underlying26 hw (j := 3) rfl rfl)
      obtain ⟨b, e0, _⟩ := DataW.trod_bool Try.underlying4 h0
      simp only [List.cons.injEq, and_true] at e0
      subst e0
      exact ⟨⟨b, l1, l2, l3⟩, c1, c2, c3, rfl, q1, q2, q3⟩
/-- Bytes that come in. -/
theorem open_bytesW {H : Type} {enc : TypeId × Value → H} {W : World} {r : Reach} {b0 : Nat} {v : Value} {d : DataW H} {p : List MemPlace} {ts : List TypeId} {ds : List (DataW H)} {j0 : Nat} (hv : Value.okWide Try.prog W r b0 31 v)
    (h : DataW.Trod enc Try.prog W 0 (fun _ => true) true 31 v d p) (hsz : (DataW.weightsEach Try.prog ts ds).all (· ≤ reachBytes) = true) (ht : ts[j0]? = some 31) (hd : ds[j0]? = some d) : ∃ l, BV W (fun _ => True) v l := by
  have hw : Wt 31 d := fun q hq => by
    have := List.all_eq_true.1 hsz _ (DataW.weights_mem_each (P := Try.prog) ht hd q hq)
    exact of_decide_eq_true this
  obtain ⟨a0, len, cap, rfl⟩ := okWide_slice Try.underlying31 hv
  obtain ⟨fuel, hf⟩ := h
  exact trod_bytes hf hw
end Go.Proofs.Ytilmlegkkgiahaa
