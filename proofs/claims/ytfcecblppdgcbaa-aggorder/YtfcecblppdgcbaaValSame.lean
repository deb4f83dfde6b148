/- The document's SameRow answers true at two slices that hold the same values; and a copy made by append holds what was copied. Condition: the slices' lengths are Go's. -/
import Derived.Test.YtfcecblppdgcbaaValRef
import Derived.Lib.QuietBelow
import Derived.Laws.AppendOwnNone
namespace Go.Proofs.Ytfcecblppdgcbaa
open Go.RowKit Go.Lib Go.Sort
set_option linter.unusedVariables false
set_option maxRecDepth 20000

theorem wpList_append_copy {P : Program} {w : World} {ops : Array Oper} {rest : List Oper} {o : Oper} {a : Act} {Q : Exit → Act → World → Prop} (hgd : o.guard = none) (s x : Operand) (t : TypeId)
    (ho : o.op = .call { callee := .builtin .append, args := #[s, x], argTypes := #[t, t] })
    (base : Nat) (e : TypeId) (i : TypeInfo) (z : Value) (size bytes : Nat) (ht : P.underlying t = some (.slice e)) (hi : P.info? e = some i) (hz : i.zero = some z)
    (hsize : i.size = size) (hby : i.bytes = bytes) (hzs : z.cells.size = size) (hsz : 0 < size)
    (v : Value) (hs : a.eval s = v) (hown : w.ownsRow base e size v 0 [])
    (p : Option Addr) (m c : Nat) (news : List Value) (hx : a.eval x = .slice p m c) (hl : news.length = m * size) (hp : p = none → m = 0 ∧ c = 0) (hnews : ∀ ad, p = some ad → ∀ j u, news[j]? = some u → w.cell? (ad.add j) = some u) (h1 : ∀ u ∈ news, u.oneCell' = true)
    (h63 : m ≤ maxLen) (hbytes : m * bytes ≤ 140737488355328) (hbase : base ≤ w.heap.size)
    (h : ∀ v' w', w'.ownsRow base e size v' m news → w.grownBy w' v.ownBlock → wpList P ops Q rest (a.put o.dst v') w') : wpList P ops Q (o :: rest) a w := by
  cases p with
  | none =>
    obtain ⟨rfl, rfl⟩ := hp rfl
    have hn : news = [] := List.length_eq_zero_iff.1 (by simpa using hl)
    subst hn
    exact wpList_append_own_none hgd s x t ho base e i size ht hi v 0 [] hs hown hx (h v w hown ⟨rfl, rfl, rfl, Nat.le_refl _, fun _ _ _ => rfl⟩)
  | some ad =>
    refine wpList_append_own w hgd s x t ho base e i z size bytes ht hi hz hsize hby hzs hsz v 0 [] hs hown ad m c news hx hl (hnews ad rfl) h1 (by omega) (by rw [Nat.zero_add]; exact hbytes) hbase ?_
    intro v' w' h2 h3 _
    exact h v' w' (by simpa using h2) h3

/-- The cells of a row of values. -/
def cellsV : List Val → List Value
  | [] => []
  | a :: l => .int .i64 a.k :: .int .i64 a.n :: .string a.s :: cellsV l
theorem cellsV_length : ∀ l : List Val, (cellsV l).length = l.length * 3
  | [] => rfl
  | a :: l => by simp [cellsV, cellsV_length l]; omega
theorem cellsV_one : ∀ (l : List Val), ∀ u ∈ cellsV l, u.oneCell' = true
  | [], u, h => by simp [cellsV] at h
  | a :: l, u, h => by
    simp only [cellsV, List.mem_cons] at h
    rcases h with rfl | rfl | rfl | h
    · rfl
    · rfl
    · rfl
    · exact cellsV_one l u h
theorem cellsV_at : ∀ (l : List Val) (i : Nat) (h : i < l.length), (cellsV l)[i * 3]? = some (.int .i64 l[i].k) ∧ (cellsV l)[i * 3 + 1]? = some (.int .i64 l[i].n) ∧ (cellsV l)[i * 3 + 2]? = some (.string l[i].s)
  | a :: l, 0, _ => ⟨rfl, rfl, rfl⟩
  | a :: l, i + 1, h => by
    have ih := cellsV_at l i (by simpa using h)
    rw [show (i + 1) * 3 = i * 3 + 1 + 1 + 1 by omega]
    simpa [cellsV] using ih

theorem add_cell (b off j : Nat) : (⟨b, off, none⟩ : Addr).add j = ⟨b, off + j, none⟩ := by
  unfold Addr.add
  split
  · subst_vars; rfl
  · rfl

/-- What is read at each place, as the law on append wants it. -/
theorem Row.cells {w : World} {p : Option Addr} {vs : List Val} (h : Row w p vs) : ∀ ad, p = some ad → ∀ j u, (cellsV vs)[j]? = some u → w.cell? (ad.add j) = some u := by
  intro ad hp j u hu
  rcases h with h | ⟨b, off, hp', hc⟩
  · subst h; simp [cellsV] at hu
  · rw [hp'] at hp
    obtain rfl := Option.some.inj hp
    rw [add_cell]
    have hj : j < vs.length * 3 := by
      rw [← cellsV_length]
      exact (List.getElem?_eq_some_iff.1 hu).1
    obtain ⟨i, r, hr, rfl⟩ : ∃ i r, r < 3 ∧ j = i * 3 + r := ⟨j / 3, j % 3, by omega, by omega⟩
    have hi : i < vs.length := by omega
    have e := cellsV_at vs i hi
    have c := hc i hi
    match r, hr with
    | 0, _ => rw [Nat.add_zero] at hu ⊢; rw [e.1] at hu; rw [← hu]; exact c.1
    | 1, _ => rw [e.2.1] at hu; rw [← hu]; exact c.2.1
    | 2, _ => rw [e.2.2] at hu; rw [← hu]; exact c.2.2

/-- A row that the call owns, as a slice of values. -/
theorem Row.of_owns {w : World} {base e : Nat} {v : Value} {n : Nat} {vs : List Val} (h : w.ownsRow base e 3 v n (cellsV vs)) : n = vs.length ∧ ∃ p cap, v = .slice p vs.length cap ∧ vs.length ≤ maxLen ∧ Row w p vs := by
  obtain ⟨h1, h2⟩ := h
  rw [cellsV_length] at h1
  obtain rfl : n = vs.length := by omega
  refine ⟨rfl, ?_⟩
  rcases h2 with ⟨rfl, h0⟩ | ⟨g, cap, cur, rfl, hg, hh, hle, hm, hs, ht⟩
  · have : vs = [] := List.length_eq_zero_iff.1 h0
    subst this
    exact ⟨none, 0, rfl, Nat.zero_le _, Or.inl rfl⟩
  · refine ⟨_, cap, rfl, by omega, Or.inr ⟨g, 0, rfl, fun i hi => ?_⟩⟩
    have e := cellsV_at vs i hi
    have key : ∀ j u, j < vs.length * 3 → (cellsV vs)[j]? = some u → w.cell? ⟨g, 0 + j, none⟩ = some u := by
      intro j u hj hu
      rw [← ht, List.getElem?_take, if_pos hj, Array.getElem?_toList] at hu
      simp [World.cell?, hh, hu]
    exact ⟨key _ _ (by omega) e.1, key _ _ (by omega) e.2.1, key _ _ (by omega) e.2.2⟩

/-- A row of bools that the call owns. -/
theorem Bits.of_owns {w : World} {base e : Nat} {v : Value} {n : Nat} {ds : List Bool} (h : w.ownsRow base e 1 v n (ds.map .bool)) : n = ds.length ∧ ∃ p cap, v = .slice p ds.length cap ∧ ds.length ≤ maxLen ∧ Bits w p ds := by
  obtain ⟨h1, h2⟩ := h
  rw [List.length_map] at h1
  obtain rfl : n = ds.length := by omega
  refine ⟨rfl, ?_⟩
  rcases h2 with ⟨rfl, h0⟩ | ⟨g, cap, cur, rfl, hg, hh, hle, hm, hs, ht⟩
  · have : ds = [] := List.length_eq_zero_iff.1 h0
    subst this
    exact ⟨none, 0, rfl, Nat.zero_le _, Or.inl rfl⟩
  · refine ⟨_, cap, rfl, by omega, Or.inr ⟨g, 0, rfl, fun i hi => ?_⟩⟩
    have hu : (ds.map Value.bool)[i]? = some (.bool ds[i]) := by simp [hi]
    rw [← ht, List.getElem?_take, if_pos (by omega), Array.getElem?_toList] at hu
    simp [World.cell?, hh, hu]
theorem Bits.cells {w : World} {p : Option Addr} {ds : List Bool} (h : Bits w p ds) : ∀ ad, p = some ad → ∀ j u, (ds.map Value.bool)[j]? = some u → w.cell? (ad.add j) = some u := by
  intro ad hp j u hu
  rcases h with h | ⟨b, off, hp', hc⟩
  · subst h; simp at hu
  · rw [hp'] at hp
    obtain rfl := Option.some.inj hp
    rw [add_cell]
    have hj : j < ds.length := by
      have := (List.getElem?_eq_some_iff.1 hu).1
      simpa using this
    rw [List.getElem?_map, List.getElem?_eq_getElem hj] at hu
    simp only [Option.map_some, Option.some.injEq] at hu
    rw [← hu]
    exact hc j hj
end Go.Proofs.Ytfcecblppdgcbaa
