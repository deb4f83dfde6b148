/- Expressions of any kind in memory. Conditions: none. -/
import Derived.Test.YtblkhlhhlalbkaaGreatDoorEP
import Derived.Test.YtblkhlhhlalbkaaGreatDoorEB
namespace Go.Proofs.YtblkhlhhlalbkaaGreatDoor
open Go.RowKit Go.Lib Go.Sort
set_option linter.unusedVariables false
set_option maxRecDepth 20000

/-- An expression as a value. -/
abbrev gV (e : Gx) (p : Option Addr) (c : Nat) : Value := .agg #[.int .i64 e.k, .int .i64 e.op, .int .i64 e.v.k, .int .i64 e.v.n, .string e.v.s, .string ⟨e.t.toArray⟩, .string ⟨e.n.toArray⟩, .int .i64 e.c, .int .i64 e.y, .slice p e.xs.length c]
/-- An expression in ten cells. -/
def GC (w : World) (b o : Nat) (e : Gx) (p : Option Addr) (c : Nat) : Prop :=
  w.cell? ⟨b, o, none⟩ = some (.int .i64 e.k) ∧ w.cell? ⟨b, o + 1, none⟩ = some (.int .i64 e.op) ∧ w.cell? ⟨b, o + 2, none⟩ = some (.int .i64 e.v.k) ∧ w.cell? ⟨b, o + 3, none⟩ = some (.int .i64 e.v.n) ∧ w.cell? ⟨b, o + 4, none⟩ = some (.string e.v.s) ∧ w.cell? ⟨b, o + 5, none⟩ = some (.string ⟨e.t.toArray⟩) ∧ w.cell? ⟨b, o + 6, none⟩ = some (.string ⟨e.n.toArray⟩) ∧ w.cell? ⟨b, o + 7, none⟩ = some (.int .i64 e.c) ∧ w.cell? ⟨b, o + 8, none⟩ = some (.int .i64 e.y) ∧ w.cell? ⟨b, o + 9, none⟩ = some (.slice p e.xs.length c)
theorem GC.chg {F : Nat → Prop} {w w' : World} {b o : Nat} {e : Gx} {p : Option Addr} {c : Nat} (h : GC w b o e p c) (C : Chg F w w') (hn : ¬ F b) : GC w' b o e p c := by
  obtain ⟨h0, h1, h2, h3, h4, h5, h6, h7, h8, h9⟩ := h
  exact ⟨C.cell h0 hn, C.cell h1 hn, C.cell h2 hn, C.cell h3 hn, C.cell h4 hn, C.cell h5 hn, C.cell h6 hn, C.cell h7 hn, C.cell h8 hn, C.cell h9 hn⟩
theorem GC.below {w w' : World} {b o : Nat} {e : Gx} {p : Option Addr} {c : Nat} (h : GC w b o e p c) (B : Below w.heap.size w w') : GC w' b o e p c := h.chg (F := fun _ => False) (Chg.of_below B) id
theorem GC.lt {w : World} {b o : Nat} {e : Gx} {p : Option Addr} {c : Nat} (h : GC w b o e p c) : b < w.heap.size := cell_lt h.1
theorem GC.get {w : World} {b o : Nat} {e : Gx} {p : Option Addr} {c : Nat} (h : GC w b o e p c) :
  w.cell? ⟨b, o, none⟩ = some (.int .i64 e.k) ∧ w.cell? ⟨b, o + 1, none⟩ = some (.int .i64 e.op) ∧ w.cell? ⟨b, o + 2, none⟩ = some (.int .i64 e.v.k) ∧ w.cell? ⟨b, o + 3, none⟩ = some (.int .i64 e.v.n) ∧ w.cell? ⟨b, o + 4, none⟩ = some (.string e.v.s) ∧ w.cell? ⟨b, o + 5, none⟩ = some (.string ⟨e.t.toArray⟩) ∧ w.cell? ⟨b, o + 6, none⟩ = some (.string ⟨e.n.toArray⟩) ∧ w.cell? ⟨b, o + 7, none⟩ = some (.int .i64 e.c) ∧ w.cell? ⟨b, o + 8, none⟩ = some (.int .i64 e.y) ∧ w.cell? ⟨b, o + 9, none⟩ = some (.slice p e.xs.length c) := h
/-- A row of expressions, each with its operands, so many levels deep. -/
def GAt (w : World) : Nat → Gx → Option Addr → Prop
  | 0, e, _ => e.xs = []
  | n + 1, e, p => e.xs.length ≤ 1048576 ∧ (e.xs = [] ∨ ∃ b off, p = some ⟨b, off, none⟩ ∧ ∀ i (h : i < e.xs.length), ∃ q c, GC w b (off + i * 10) e.xs[i] q c ∧ GAt w n e.xs[i] q ∧ e.xs[i].xs.length ≤ c)
def RowG (w : World) (m : Nat) (p : Option Addr) (xs : List Gx) : Prop := xs.length ≤ 1048576 ∧ (xs = [] ∨ ∃ b off, p = some ⟨b, off, none⟩ ∧ ∀ i (h : i < xs.length), ∃ q c, GC w b (off + i * 10) xs[i] q c ∧ GAt w m xs[i] q ∧ xs[i].xs.length ≤ c)
theorem GAt.below : ∀ {n : Nat} {w w' : World} {e : Gx} {p : Option Addr}, GAt w n e p → Below w.heap.size w w' → GAt w' n e p
  | 0, _, _, e, p, h, _ => h
  | n + 1, w, w', e, p, h, B => by
    refine ⟨h.1, ?_⟩
    rcases h.2 with h | ⟨b, off, hp, hc⟩
    · exact Or.inl h
    · refine Or.inr ⟨b, off, hp, fun i hi => ?_⟩
      obtain ⟨q, c, h1, h2, h3⟩ := hc i hi
      exact ⟨q, c, h1.below B, GAt.below h2 B, h3⟩
theorem gat_row {w : World} {m : Nat} {e : Gx} {p : Option Addr} (h : GAt w (m + 1) e p) : RowG w m p e.xs := h
theorem gat_nil {w : World} {e : Gx} {p : Option Addr} (m : Nat) (h : GAt w 0 e p) : RowG w m p e.xs := by
  have h0 : e.xs = [] := h
  exact ⟨by rw [h0]; simp, Or.inl h0⟩
theorem RowG.below {w w' : World} {m : Nat} {p : Option Addr} {xs : List Gx} (h : RowG w m p xs) (B : Below w.heap.size w w') : RowG w' m p xs := by
  refine ⟨h.1, ?_⟩
  rcases h.2 with h | ⟨b, off, hp, hc⟩
  · exact Or.inl h
  · refine Or.inr ⟨b, off, hp, fun i hi => ?_⟩
    obtain ⟨q, c, h1, h2, h3⟩ := hc i hi
    exact ⟨q, c, h1.below B, h2.below B, h3⟩
theorem RowG.cap {w : World} {m : Nat} {p : Option Addr} {xs : List Gx} (h : RowG w m p xs) {i : Nat} (hi : i < xs.length) : ∃ b off q c, p = some ⟨b, off, none⟩ ∧ GC w b (off + i * 10) xs[i] q c ∧ GAt w m xs[i] q ∧ xs[i].xs.length ≤ c := by
  rcases h.2 with h | ⟨b, off, hp, hc⟩
  · subst h; simp at hi
  · obtain ⟨q, c, h1, h2, h3⟩ := hc i hi
    exact ⟨b, off, q, c, hp, h1, h2, h3⟩
theorem RowG.at {w : World} {m : Nat} {p : Option Addr} {xs : List Gx} (h : RowG w m p xs) {i : Nat} (hi : i < xs.length) : ∃ b off q c, p = some ⟨b, off, none⟩ ∧ GC w b (off + i * 10) xs[i] q c ∧ GAt w m xs[i] q := by
  rcases h.2 with h | ⟨b, off, hp, hc⟩
  · subst h; simp at hi
  · obtain ⟨q, c, h1, h2, _⟩ := hc i hi
    exact ⟨b, off, q, c, hp, h1, h2⟩
theorem RowG.len {w : World} {m : Nat} {p : Option Addr} {xs : List Gx} (h : RowG w m p xs) : xs.length ≤ 1048576 := h.1
theorem GAt.up {w : World} : ∀ {n : Nat} {e : Gx} {p : Option Addr}, GAt w n e p → GAt w (n + 1) e p
  | 0, e, p, h => ⟨by rw [show e.xs = [] from h]; simp, Or.inl h⟩
  | n + 1, e, p, h => by
    refine ⟨h.1, ?_⟩
    rcases h.2 with h | ⟨b, off, hp, hc⟩
    · exact Or.inl h
    · refine Or.inr ⟨b, off, hp, fun i hi => ?_⟩
      obtain ⟨q, c, h1, h2, h3⟩ := hc i hi
      exact ⟨q, c, h1, h2.up, h3⟩
theorem GAt.le {w : World} {n m : Nat} (h : n ≤ m) {e : Gx} {p : Option Addr} (q : GAt w n e p) : GAt w m e p := by
  induction h with
  | refl => exact q
  | step _ ih => exact ih.up
theorem RowG.up {w : World} {n m : Nat} (h : n ≤ m) {p : Option Addr} {xs : List Gx} (q : RowG w n p xs) : RowG w m p xs := by
  refine ⟨q.1, ?_⟩
  rcases q.2 with q | ⟨b, off, hp, hc⟩
  · exact Or.inl q
  · refine Or.inr ⟨b, off, hp, fun i hi => ?_⟩
    obtain ⟨r, c, h1, h2, h3⟩ := hc i hi
    exact ⟨r, c, h1, h2.le h, h3⟩
theorem RowG.gat {w : World} {m : Nat} {p : Option Addr} {e : Gx} (h : RowG w m p e.xs) : GAt w (m + 1) e p := h
theorem GAt.row {w : World} {m : Nat} {p : Option Addr} {e : Gx} (h : GAt w m e p) : RowG w m p e.xs := h.up
/-- A variable that holds an expression. -/
def BGx (w : World) (b : Nat) (e : Gx) (p : Option Addr) (c : Nat) : Prop := w.heap[b]? = some (.cells #[.int .i64 e.k, .int .i64 e.op, .int .i64 e.v.k, .int .i64 e.v.n, .string e.v.s, .string ⟨e.t.toArray⟩, .string ⟨e.n.toArray⟩, .int .i64 e.c, .int .i64 e.y, .slice p e.xs.length c] 26 (0, 0))
theorem BGx.new (w : World) (e : Gx) (p : Option Addr) (c : Nat) : BGx (w.alloc (.cells #[.int .i64 e.k, .int .i64 e.op, .int .i64 e.v.k, .int .i64 e.v.n, .string e.v.s, .string ⟨e.t.toArray⟩, .string ⟨e.n.toArray⟩, .int .i64 e.c, .int .i64 e.y, .slice p e.xs.length c] 26)) w.heap.size e p c := heap_alloc_new w _
theorem BGx.lt {w : World} {b : Nat} {e : Gx} {p : Option Addr} {c : Nat} (h : BGx w b e p c) : b < w.heap.size := (Array.getElem?_eq_some_iff.1 h).1
theorem BGx.below {w w' : World} {b : Nat} {e : Gx} {p : Option Addr} {c : Nat} (h : BGx w b e p c) (B : Below w.heap.size w w') : BGx w' b e p c := (B.block b h.lt).trans h
theorem BGx.chg {F : Nat → Prop} {w w' : World} {b : Nat} {e : Gx} {p : Option Addr} {c : Nat} (h : BGx w b e p c) (C : Chg F w w') (hn : ¬ F b) : BGx w' b e p c := (C.block b h.lt hn).trans h
theorem BGx.gc {w : World} {b : Nat} {e : Gx} {p : Option Addr} {c : Nat} (h : BGx w b e p c) : GC w b 0 e p c := by
  refine ⟨?_, ?_, ?_, ?_, ?_, ?_, ?_, ?_, ?_, ?_⟩ <;> (rw [Lib.cell_of_heap h]; rfl)
theorem BGx.cells {w : World} {b : Nat} {e : Gx} {p : Option Addr} {c : Nat} (h : BGx w b e p c) :
    w.cell? ⟨b, 0, none⟩ = some (.int .i64 e.k) ∧ w.cell? ⟨b, 1, none⟩ = some (.int .i64 e.op) ∧ w.cell? ⟨b, 2, none⟩ = some (.int .i64 e.v.k) ∧ w.cell? ⟨b, 3, none⟩ = some (.int .i64 e.v.n) ∧ w.cell? ⟨b, 4, none⟩ = some (.string e.v.s) ∧ w.cell? ⟨b, 5, none⟩ = some (.string ⟨e.t.toArray⟩) ∧ w.cell? ⟨b, 6, none⟩ = some (.string ⟨e.n.toArray⟩) ∧ w.cell? ⟨b, 7, none⟩ = some (.int .i64 e.c) ∧ w.cell? ⟨b, 8, none⟩ = some (.int .i64 e.y) ∧ w.cell? ⟨b, 9, none⟩ = some (.slice p e.xs.length c) := by
  refine ⟨?_, ?_, ?_, ?_, ?_, ?_, ?_, ?_, ?_, ?_⟩ <;> (rw [Lib.cell_of_heap h]; rfl)
theorem BGx.frozen {w : World} {b : Nat} {e : Gx} {p : Option Addr} {c : Nat} (h : BGx w b e p c) (i : Nat) : w.frozen? ⟨b, i, none⟩ = false := Lib.frozen_of_heap h i
theorem albl' (w : World) (o : Obj) : Below w.heap.size w (w.alloc o) := (Below.refl _ _).alloc (Nat.le_refl _) _
theorem albl2 (w : World) (o1 o2 : Obj) : Below w.heap.size w ((w.alloc o1).alloc o2) := ((Below.refl _ _).alloc (Nat.le_refl _) _).alloc (by simp) _
/-- A value of three cells. -/
def VC (w : World) (b o : Nat) (v : Val) : Prop := w.cell? ⟨b, o, none⟩ = some (.int .i64 v.k) ∧ w.cell? ⟨b, o + 1, none⟩ = some (.int .i64 v.n) ∧ w.cell? ⟨b, o + 2, none⟩ = some (.string v.s)
theorem VC.below {w w' : World} {b o : Nat} {v : Val} (h : VC w b o v) (B : Below w.heap.size w w') : VC w' b o v := ⟨below_cell B h.1, below_cell B h.2.1, below_cell B h.2.2⟩
theorem VC.get {w : World} {b o : Nat} {v : Val} (h : VC w b o v) : w.cell? ⟨b, o, none⟩ = some (.int .i64 v.k) ∧ w.cell? ⟨b, o + 1, none⟩ = some (.int .i64 v.n) ∧ w.cell? ⟨b, o + 2, none⟩ = some (.string v.s) := h
/-- Expressions whose values are known, in memory. -/
def KnR (w : World) (m : Nat) (p : Option Addr) (kn : List (Gx × Val)) : Prop := kn.length ≤ 1048576 ∧ (kn = [] ∨ ∃ b off, p = some ⟨b, off, none⟩ ∧ ∀ i (h : i < kn.length), ∃ q c, GC w b (off + i * 13) kn[i].1 q c ∧ VC w b (off + i * 13 + 10) kn[i].2 ∧ GAt w m kn[i].1 q)
theorem KnR.below {w w' : World} {m : Nat} {p : Option Addr} {kn : List (Gx × Val)} (h : KnR w m p kn) (B : Below w.heap.size w w') : KnR w' m p kn := by
  refine ⟨h.1, ?_⟩
  rcases h.2 with h | ⟨b, off, hp, hc⟩
  · exact Or.inl h
  · refine Or.inr ⟨b, off, hp, fun i hi => ?_⟩
    obtain ⟨q, c, h1, h3, h2⟩ := hc i hi
    exact ⟨q, c, h1.below B, h3.below B, h2.below B⟩
theorem KnR.at {w : World} {m : Nat} {p : Option Addr} {kn : List (Gx × Val)} (h : KnR w m p kn) {i : Nat} (hi : i < kn.length) : ∃ b off q c, p = some ⟨b, off, none⟩ ∧ GC w b (off + i * 13) kn[i].1 q c ∧ VC w b (off + i * 13 + 10) kn[i].2 ∧ GAt w m kn[i].1 q := by
  rcases h.2 with h | ⟨b, off, hp, hc⟩
  · subst h; simp at hi
  · obtain ⟨q, c, h1, h3, h2⟩ := hc i hi
    exact ⟨b, off, q, c, hp, h1, h3, h2⟩
theorem KnR.len {w : World} {m : Nat} {p : Option Addr} {kn : List (Gx × Val)} (h : KnR w m p kn) : kn.length ≤ 1048576 := h.1
end Go.Proofs.YtblkhlhhlalbkaaGreatDoor
