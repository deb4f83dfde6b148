/- Expressions of any kind in memory. Conditions: none. What was read, as an expression of any kind in memory; a place that is stored in it. Conditions: none. -/
import Derived.Test.YthnmicadlcmecaaGreatDoorEP
import Derived.Test.YthnmicadlcmecaaGreatDoorEB
import Derived.Test.YthnmicadlcmecaaGreatDoorLD
namespace Go.Proofs.YthnmicadlcmecaaGreatDoor
open Go.RowKit Go.Lib Go.Sort
set_option linter.unusedVariables false
set_option maxRecDepth 20000

/-- An expression as a value. -/
abbrev gV (e : Gx) (p : Option Addr) (c : Nat) : Value := .agg #[.int .i64 e.k, .int .i64 e.op, .int .i64 e.v.k, .int .i64 e.v.n, .string e.v.s, .string ⟨e.t.toArray⟩, .string ⟨e.n.toArray⟩, .int .i64 e.c, .int .i64 e.y, .slice p e.xs.length c]
/-- An expression in ten cells. -/
def GC (w : World) (b o : Nat) (e : Gx) (p : Option Addr) (c : Nat) : Prop :=
  w.cell? ⟨b, o, none⟩ = some (.int .i64 e.k) ∧ w.cell? ⟨b, o + 1, none⟩ = some (.int .i64 e.op) ∧ w.cell? ⟨b, o + 2, none⟩ = some (.int .i64 e.v.k) ∧ w.cell? ⟨b, o + 3, none⟩ = some (.int .i64 e.v.n) ∧ w.cell? ⟨b, o + 4, none⟩ = some (.string e.v.s) ∧ w.cell? ⟨b, o + 5, none⟩ = some (.string ⟨e.t.toArray⟩) ∧ w.cell? ⟨b, o + 6, none⟩ = some (.string ⟨e.n.toArray⟩) ∧ w.cell? ⟨b, o + 7, none⟩ = some (.int .i64 e.c) ∧ w.cell? ⟨b, o + 8, none⟩ = some (.int .i64 e.y) ∧ w.cell? ⟨b, o + 9, none⟩ = some (.slice p e.xs.length c)
theorem GC.chg {F : Nat → Prop} {w w' : World} {b o : Nat} {e : Gx} {p : Option Addr} {c : Nat} (h : GC w b o e p c) (C : Chg F w w') (hn : ¬ F b) : GC w' b o e p c := by
  obtain ⟨h0, h1, h2, h3, h4, h5, h6, h7, h8, h9⟩ := h
  exact ⟨C.cell h0 hn, C.cell h1 hn, C.cell h2 hn, C.cell h3 hn, C.cell h4 hn, C.cell h5 hn, C.cell h6 hn, C.cell h7 hn, C.cell h8 hn, C.cell h9 hn⟩
theorem GC.below {w w' : World} {b o : Nat} {e : Gx} {p : Option Addr} {c : Nat} (h : GC w b o e p c) (B : Below w.heap.size w w') : GC w' b o e p c := h.chg (F := fun _ => False) (Chg.of_below B) id
theorem GC.lt {w : World} {b o : Nat} {e : Gx} {p : Option Addr} {c : Nat} (h : GC w b o e p c) : b < w.heap.size := cell_lt h.1
theorem GC.get {w : World} {b o : Nat} {e : Gx} {p : Option Addr} {c : Nat} (h : GC w b o e p c) :
  w.cell? ⟨b, o, none⟩ = some (.int .i64 e.k) ∧ w.cell? ⟨b, o + 1, none⟩ = some (.int .i64 e.op) ∧ w.cell? ⟨b, o + 2, none⟩ = some (.int .i64 e.v.k) ∧ w.cell? ⟨b, o + 3, none⟩ = some (.int .i64 e.v.n) ∧ w.cell? ⟨b, o + 4, none⟩ = some (.string e.v.s) ∧ w.cell? ⟨b, o + 5, none⟩ = some (.string ⟨e.t.toArray⟩) ∧ w.cell? ⟨b, o + 6, none⟩ = some (.string ⟨e.n.toArray⟩) ∧ w.cell? ⟨b, o + 7, none⟩ = some (.int .i64 e.c) ∧ w.cell? ⟨b, o + 8, none⟩ = some (.int .i64 e.y) ∧ w.cell? ⟨b, o + 9, none⟩ = some (.slice p e.xs.length c) := h
/-- A row of expressions, each with its operands, so many levels deep. -/
def GAt (w : World) : Nat → Gx → Option Addr → Prop
  | 0, e, _ => e.xs = []
  | n + 1, e, p => e.xs.length ≤ 1048576 ∧ (e.xs = [] ∨ ∃ b off, p = some ⟨b, off, none⟩ ∧ ∀ i (h : i < e.xs.length), ∃ q c, GC w b (off + i * 10) e.xs[i] q c ∧ GAt w n e.xs[i] q ∧ e.xs[i].xs.length ≤ c)
def RowG (w : World) (m : Nat) (p : Option Addr) (xs : List Gx) : Prop := xs.length ≤ 1048576 ∧ (xs = [] ∨ ∃ b off, p = some ⟨b, off, none⟩ ∧ ∀ i (h : i < xs.length), ∃ q c, GC w b (off + i * 10) xs[i] q c ∧ GAt w m xs[i] q ∧ xs[i].xs.length ≤ c)
theorem GAt.below : ∀ {n : Nat} {w w' : World} {e : Gx} {p : Option Addr}, GAt w n e p → Below w.heap.size w w' → GAt w' n e p
  | 0, _, _, e, p, h, _ => h
  | n + 1, w, w', e, p, h, B => by
    refine ⟨h.1, ?_⟩
    rcases h.2 with h | ⟨b, off, hp, hc⟩
    · exact Or.inl h
    · refine Or.inr ⟨b, off, hp, fun i hi => ?_⟩
      obtain ⟨q, c, h1, h2, h3⟩ := hc i hi
      exact ⟨q, c, h1.below B, GAt.below h2 B, h3⟩
theorem gat_row {w : World} {m : Nat} {e : Gx} {p : Option Addr} (h : GAt w (m + 1) e p) : RowG w m p e.xs := h
theorem gat_nil {w : World} {e : Gx} {p : Option Addr} (m : Nat) (h : GAt w 0 e p) : RowG w m p e.xs := by
  have h0 : e.xs = [] := h
  exact ⟨by rw [h0]; simp, Or.inl h0⟩
theorem RowG.below {w w' : World} {m : Nat} {p : Option Addr} {xs : List Gx} (h : RowG w m p xs) (B : Below w.heap.size w w') : RowG w' m p xs := by
  refine ⟨h.1, ?_⟩
  rcases h.2 with h | ⟨b, off, hp, hc⟩
  · exact Or.inl h
  · refine Or.inr ⟨b, off, hp, fun i hi => ?_⟩
    obtain ⟨q, c, h1, h2, h3⟩ := hc i hi
    exact ⟨q, c, h1.below B, h2.below B, h3⟩
theorem RowG.cap {w : World} {m : Nat} {p : Option Addr} {xs : List Gx} (h : RowG w m p xs) {i : Nat} (hi : i < xs.length) : ∃ b off q c, p = some ⟨b, off, none⟩ ∧ GC w b (off + i * 10) xs[i] q c ∧ GAt w m xs[i] q ∧ xs[i].xs.length ≤ c := by
  rcases h.2 with h | ⟨b, off, hp, hc⟩
  · subst h; simp at hi
  · obtain ⟨q, c, h1, h2, h3⟩ := hc i hi
    exact ⟨b, off, q, c, hp, h1, h2, h3⟩
theorem RowG.at {w : World} {m : Nat} {p : Option Addr} {xs : List Gx} (h : RowG w m p xs) {i : Nat} (hi : i < xs.length) : ∃ b off q c, p = some ⟨b, off, none⟩ ∧ GC w b (off + i * 10) xs[i] q c ∧ GAt w m xs[i] q := by
  rcases h.2 with h | ⟨b, off, hp, hc⟩
  · subst h; simp at hi
  · obtain ⟨q, c, h1, h2, _⟩ := hc i hi
    exact ⟨b, off, q, c, hp, h1, h2⟩
theorem RowG.len {w : World} {m : Nat} {p : Option Addr} {xs : List Gx} (h : RowG w m p xs) : xs.length ≤ 1048576 := h.1
theorem GAt.up {w : World} : ∀ {n : Nat} {e : Gx} {p : Option Addr}, GAt w n e p → GAt w (n + 1) e p
  | 0, e, p, h => ⟨by rw [show e.xs = [] from h]; simp, Or.inl h⟩
  | n + 1, e, p, h => by
    refine ⟨h.1, ?_⟩
    rcases h.2 with h | ⟨b, off, hp, hc⟩
    · exact Or.inl h
    · refine Or.inr ⟨b, off, hp, fun i hi => ?_⟩
      obtain ⟨q, c, h1, h2, h3⟩ := hc i hi
      exact ⟨q, c, h1, h2.up, h3⟩
theorem GAt.le {w : World} {n m : Nat} (h : n ≤ m) {e : Gx} {p : Option Addr} (q : GAt w n e p) : GAt w m e p := by
  induction h with
  | refl => exact q
  | step _ ih => exact ih.up
theorem RowG.up {w : World} {n m : Nat} (h : n ≤ m) {p : Option Addr} {xs : List Gx} (q : RowG w n p xs) : RowG w m p xs := by
  refine ⟨q.1, ?_⟩
  rcases q.2 with q | ⟨b, off, hp, hc⟩
  · exact Or.inl q
  · refine Or.inr ⟨b, off, hp, fun i hi => ?_⟩
    obtain ⟨r, c, h1, h2, h3⟩ := hc i hi
    exact ⟨r, c, h1, h2.le h, h3⟩
theorem RowG.gat {w : World} {m : Nat} {p : Option Addr} {e : Gx} (h : RowG w m p e.xs) : GAt w (m + 1) e p := h
theorem GAt.row {w : World} {m : Nat} {p : Option Addr} {e : Gx} (h : GAt w m e p) : RowG w m p e.xs := h.up
/-- A variable that holds an expression. -/
def BGx (w : World) (b : Nat) (e : Gx) (p : Option Addr) (c : Nat) : Prop := w.heap[b]? = some (.cells #[.int .i64 e.k, .int .i64 e.op, .int .i64 e.v.k, .int .i64 e.v.n, .string e.v.s, .string ⟨e.t.toArray⟩, .string ⟨e.n.toArray⟩, .int .i64 e.c, .int .i64 e.y, .slice p e.xs.length c] 26 (0, 0))
theorem BGx.new (w : World) (e : Gx) (p : Option Addr) (c : Nat) : BGx (w.alloc (.cells #[.int .i64 e.k, .int .i64 e.op, .int .i64 e.v.k, .int .i64 e.v.n, .string e.v.s, .string ⟨e.t.toArray⟩, .string ⟨e.n.toArray⟩, .int .i64 e.c, .int .i64 e.y, .slice p e.xs.length c] 26)) w.heap.size e p c := heap_alloc_new w _
theorem BGx.lt {w : World} {b : Nat} {e : Gx} {p : Option Addr} {c : Nat} (h : BGx w b e p c) : b < w.heap.size := (Array.getElem?_eq_some_iff.1 h).1
theorem BGx.below {w w' : World} {b : Nat} {e : Gx} {p : Option Addr} {c : Nat} (h : BGx w b e p c) (B : Below w.heap.size w w') : BGx w' b e p c := (B.block b h.lt).trans h
theorem BGx.chg {F : Nat → Prop} {w w' : World} {b : Nat} {e : Gx} {p : Option Addr} {c : Nat} (h : BGx w b e p c) (C : Chg F w w') (hn : ¬ F b) : BGx w' b e p c := (C.block b h.lt hn).trans h
theorem BGx.gc {w : World} {b : Nat} {e : Gx} {p : Option Addr} {c : Nat} (h : BGx w b e p c) : GC w b 0 e p c := by
  refine ⟨?_, ?_, ?_, ?_, ?_, ?_, ?_, ?_, ?_, ?_⟩ <;> (rw [Lib.cell_of_heap h]; rfl)
theorem BGx.cells {w : World} {b : Nat} {e : Gx} {p : Option Addr} {c : Nat} (h : BGx w b e p c) :
    w.cell? ⟨b, 0, none⟩ = some (.int .i64 e.k) ∧ w.cell? ⟨b, 1, none⟩ = some (.int .i64 e.op) ∧ w.cell? ⟨b, 2, none⟩ = some (.int .i64 e.v.k) ∧ w.cell? ⟨b, 3, none⟩ = some (.int .i64 e.v.n) ∧ w.cell? ⟨b, 4, none⟩ = some (.string e.v.s) ∧ w.cell? ⟨b, 5, none⟩ = some (.string ⟨e.t.toArray⟩) ∧ w.cell? ⟨b, 6, none⟩ = some (.string ⟨e.n.toArray⟩) ∧ w.cell? ⟨b, 7, none⟩ = some (.int .i64 e.c) ∧ w.cell? ⟨b, 8, none⟩ = some (.int .i64 e.y) ∧ w.cell? ⟨b, 9, none⟩ = some (.slice p e.xs.length c) := by
  refine ⟨?_, ?_, ?_, ?_, ?_, ?_, ?_, ?_, ?_, ?_⟩ <;> (rw [Lib.cell_of_heap h]; rfl)
theorem BGx.frozen {w : World} {b : Nat} {e : Gx} {p : Option Addr} {c : Nat} (h : BGx w b e p c) (i : Nat) : w.frozen? ⟨b, i, none⟩ = false := Lib.frozen_of_heap h i
theorem albl' (w : World) (o : Obj) : Below w.heap.size w (w.alloc o) := (Below.refl _ _).alloc (Nat.le_refl _) _
theorem albl2 (w : World) (o1 o2 : Obj) : Below w.heap.size w ((w.alloc o1).alloc o2) := ((Below.refl _ _).alloc (Nat.le_refl _) _).alloc (by simp) _
/-- A value of three cells. -/
def VC (w : World) (b o : Nat) (v : Val) : Prop := w.cell? ⟨b, o, none⟩ = some (.int .i64 v.k) ∧ w.cell? ⟨b, o + 1, none⟩ = some (.int .i64 v.n) ∧ w.cell? ⟨b, o + 2, none⟩ = some (.string v.s)
theorem VC.below {w w' : World} {b o : Nat} {v : Val} (h : VC w b o v) (B : Below w.heap.size w w') : VC w' b o v := ⟨below_cell B h.1, below_cell B h.2.1, below_cell B h.2.2⟩
theorem VC.get {w : World} {b o : Nat} {v : Val} (h : VC w b o v) : w.cell? ⟨b, o, none⟩ = some (.int .i64 v.k) ∧ w.cell? ⟨b, o + 1, none⟩ = some (.int .i64 v.n) ∧ w.cell? ⟨b, o + 2, none⟩ = some (.string v.s) := h
/-- Expressions whose values are known, in memory. -/
def KnR (w : World) (m : Nat) (p : Option Addr) (kn : List (Gx × Val)) : Prop := kn.length ≤ 1048576 ∧ (kn = [] ∨ ∃ b off, p = some ⟨b, off, none⟩ ∧ ∀ i (h : i < kn.length), ∃ q c, GC w b (off + i * 13) kn[i].1 q c ∧ VC w b (off + i * 13 + 10) kn[i].2 ∧ GAt w m kn[i].1 q)
theorem KnR.below {w w' : World} {m : Nat} {p : Option Addr} {kn : List (Gx × Val)} (h : KnR w m p kn) (B : Below w.heap.size w w') : KnR w' m p kn := by
  refine ⟨h.1, ?_⟩
  rcases h.2 with h | ⟨b, off, hp, hc⟩
  · exact Or.inl h
  · refine Or.inr ⟨b, off, hp, fun i hi => ?_⟩
    obtain ⟨q, c, h1, h3, h2⟩ := hc i hi
    exact ⟨q, c, h1.below B, h3.below B, h2.below B⟩
theorem KnR.at {w : World} {m : Nat} {p : Option Addr} {kn : List (Gx × Val)} (h : KnR w m p kn) {i : Nat} (hi : i < kn.length) : ∃ b off q c, p = some ⟨b, off, none⟩ ∧ GC w b (off + i * 13) kn[i].1 q c ∧ VC w b (off + i * 13 + 10) kn[i].2 ∧ GAt w m kn[i].1 q := by
  rcases h.2 with h | ⟨b, off, hp, hc⟩
  · subst h; simp at hi
  · obtain ⟨q, c, h1, h3, h2⟩ := hc i hi
    exact ⟨b, off, q, c, hp, h1, h3, h2⟩
theorem KnR.len {w : World} {m : Nat} {p : Option Addr} {kn : List (Gx × Val)} (h : KnR w m p kn) : kn.length ≤ 1048576 := h.1
end Go.Proofs.YthnmicadlcmecaaGreatDoor
namespace Go.Proofs.YthnmicadlcmecaaGreatDoor
open Go.RowKit Go.Lib Go.Sort
set_option linter.unusedVariables false
set_option maxRecDepth 20000

theorem lex_txA : lexR txA = .ok txAT := by
  unfold lexR
  rw [if_neg (by decide), toks_txA]
  rfl
theorem lex_txB : lexR txB = .ok txBT := by
  unfold lexR
  rw [if_neg (by decide), toks_txB]
  rfl
theorem lex_txC : lexR txC = .ok txCT := by
  unfold lexR
  rw [if_neg (by decide), toks_txC]
  rfl
theorem lex_txD : lexR txD = .ok txDT := by
  unfold lexR
  rw [if_neg (by decide), toks_txD]
  rfl
theorem gc_up {w : World} {b o : Nat} {p : Option Addr} {c : Nat} : ∀ {m : Nat} {e : Ex}, XC w b o e p c → DpE m e → GC w b o (upN m e) p c
  | 0, e, h, d => by
    have d0 : e.xs = [] := d
    obtain ⟨h0, h1, h2, h3, h4, h5, h6, h7, h8, h9⟩ := h
    rw [d0] at h9
    exact ⟨h0, h1, h2, h3, h4, h5, h6, h7, h8, h9⟩
  | m + 1, e, h, d => by
    obtain ⟨h0, h1, h2, h3, h4, h5, h6, h7, h8, h9⟩ := h
    refine ⟨h0, h1, h2, h3, h4, h5, h6, h7, h8, ?_⟩
    show _ = some (Value.slice p (e.xs.map (upN m)).length c)
    rw [List.length_map]
    exact h9
theorem up_len {m : Nat} {e : Ex} (d : DpE m e) : (upN m e).xs.length = e.xs.length := by
  cases m with
  | zero => rw [show e.xs = [] from d]; rfl
  | succ m => show (e.xs.map (upN m)).length = _; rw [List.length_map]
theorem eat_gat {w : World} {F : Nat → Prop} : ∀ (m k : Nat) (e : Ex) (p : Option Addr), EAt w F k e p → DpE m e → GAt w m (upN m e) p
  | 0, _, e, p, _, _ => rfl
  | m + 1, k, e, p, h, d => by
    refine ⟨by rw [up_len d]; exact d.1, ?_⟩
    match k, h with
    | 0, h => exact Or.inl (by show e.xs.map (upN m) = []; rw [show e.xs = [] from h]; rfl)
    | k + 1, h =>
      rcases h with h | ⟨b, off, hp, hF, hc⟩
      · exact Or.inl (by show e.xs.map (upN m) = []; rw [h]; rfl)
      · refine Or.inr ⟨b, off, hp, fun i hi => ?_⟩
        have hi' : i < e.xs.length := by rw [up_len d] at hi; exact hi
        have hx : (upN (m + 1) e).xs[i] = upN m e.xs[i] := List.getElem_map (upN m)
        have dx := d.2 _ (List.getElem_mem hi')
        obtain ⟨q, c, h1, h2, h3⟩ := hc i hi'
        rw [hx]
        exact ⟨q, c, gc_up h1 dx, eat_gat m k _ q h2 dx, by rw [up_len dx]; exact h3.1⟩
theorem clash {w : World} {b o1 o2 : Nat} {u v : Value} (h1 : w.cell? ⟨b, o1, none⟩ = some u) (h2 : w.cell? ⟨b, o2, none⟩ = some v) (e : o1 = o2) : u = v := by
  subst e
  exact Option.some.inj (h1.symm.trans h2)
/-- Expressions in cells lie apart, or are one. -/
theorem gc_apart {w : World} {b o o2 : Nat} {x e : Gx} {q p : Option Addr} {c c2 : Nat} (hx : GC w b o x q c) (he : GC w b o2 e p c2) (hn : o2 ≠ o) (j : Nat) (hj : j < 10) : o2 + j ≠ o + 7 := by
  intro h
  obtain ⟨x0, x1, x2, x3, x4, x5, x6, x7, x8, x9⟩ := hx
  obtain ⟨y0, y1, y2, y3, y4, y5, y6, y7, y8, y9⟩ := he
  match j, hj with
  | 0, _ => cases clash x9 y2 (by omega)
  | 1, _ => cases clash x9 y3 (by omega)
  | 2, _ => cases clash x9 y4 (by omega)
  | 3, _ => cases clash x9 y5 (by omega)
  | 4, _ => cases clash x7 y4 (by omega)
  | 5, _ => cases clash x7 y5 (by omega)
  | 6, _ => cases clash x7 y6 (by omega)
  | 7, _ => exact hn (by omega)
  | 8, _ => cases clash x8 y9 (by omega)
  | 9, _ => cases clash x7 y9 (by omega)
def setC (e : Gx) (c : Int) : Gx := ⟨e.k, e.op, e.v, e.t, e.n, c, e.y, e.xs⟩
/-- A place of a column was stored; all else is as it was. -/
structure Stored (w w' : World) (b o : Nat) : Prop where
  ne : ∀ b2 o2, ¬ (b2 = b ∧ o2 = o + 7) → w'.cell? ⟨b2, o2, none⟩ = w.cell? ⟨b2, o2, none⟩
  eq : w'.cell? ⟨b, o + 7, none⟩ = some (.int .i64 1)
theorem gc_stored {w w' : World} {b o b2 o2 : Nat} {x e : Gx} {q p : Option Addr} {c c2 : Nat} (S : Stored w w' b o) (hx : GC w b o x q c) (he : GC w b2 o2 e p c2) : ∃ n, GC w' b2 o2 (setC e n) p c2 := by
  by_cases hb : b2 = b
  · subst hb
    by_cases ho : o2 = o
    · subst ho
      obtain ⟨y0, y1, y2, y3, y4, y5, y6, y7, y8, y9⟩ := he
      exact ⟨1, (S.ne _ _ (by omega)).trans y0, (S.ne _ _ (by omega)).trans y1, (S.ne _ _ (by omega)).trans y2, (S.ne _ _ (by omega)).trans y3, (S.ne _ _ (by omega)).trans y4, (S.ne _ _ (by omega)).trans y5, (S.ne _ _ (by omega)).trans y6, S.eq, (S.ne _ _ (by omega)).trans y8, (S.ne _ _ (by omega)).trans y9⟩
    · have A := fun j hj => gc_apart hx he ho j hj
      obtain ⟨y0, y1, y2, y3, y4, y5, y6, y7, y8, y9⟩ := he
      have k : ∀ j, j < 10 → w'.cell? ⟨b2, o2 + j, none⟩ = w.cell? ⟨b2, o2 + j, none⟩ := fun j hj => S.ne _ _ (fun h => A j hj h.2)
      exact ⟨e.c, (k 0 (by omega)).trans y0, (k 1 (by omega)).trans y1, (k 2 (by omega)).trans y2, (k 3 (by omega)).trans y3, (k 4 (by omega)).trans y4, (k 5 (by omega)).trans y5, (k 6 (by omega)).trans y6, (k 7 (by omega)).trans y7, (k 8 (by omega)).trans y8, (k 9 (by omega)).trans y9⟩
  · obtain ⟨y0, y1, y2, y3, y4, y5, y6, y7, y8, y9⟩ := he
    have k : ∀ j, w'.cell? ⟨b2, o2 + j, none⟩ = w.cell? ⟨b2, o2 + j, none⟩ := fun j => S.ne _ _ (fun h => hb h.1)
    exact ⟨e.c, (k 0).trans y0, (k 1).trans y1, (k 2).trans y2, (k 3).trans y3, (k 4).trans y4, (k 5).trans y5, (k 6).trans y6, (k 7).trans y7, (k 8).trans y8, (k 9).trans y9⟩
theorem pick_list {P : Nat → Gx → Prop} : ∀ n, (∀ i, i < n → ∃ z, P i z) → ∃ l : List Gx, l.length = n ∧ ∀ i (h : i < l.length), P i l[i]
  | 0, _ => ⟨[], rfl, fun i h => absurd h (Nat.not_lt_zero _)⟩
  | n + 1, h => by
    obtain ⟨l, hl, hp⟩ := pick_list n (fun i hi => h i (by omega))
    obtain ⟨z, hz⟩ := h n (by omega)
    refine ⟨l ++ [z], by simp [hl], fun i hi => ?_⟩
    by_cases q : i < l.length
    · rw [List.getElem_append_left q]; exact hp i q
    · have : i = n := by simp at hi; omega
      subst this
      rw [List.getElem_append_right (by omega)]
      simpa [hl] using hz
theorem gat_xs {w : World} {n : Nat} {a b : Gx} {p : Option Addr} (h : GAt w n a p) (e : b.xs = a.xs) : GAt w n b p := by
  obtain ⟨k, op, v, t, nn, c, y, xs⟩ := a
  obtain ⟨k', op', v', t', nn', c', y', xs'⟩ := b
  obtain rfl : xs' = xs := e
  cases n <;> exact h
theorem vr_set {m : Nat} {a b : Gx} (h : Vr m a b) (k : Int) : Vr m a (setC b k) := by
  cases m <;> exact h
theorem vr_xs {m : Nat} {a b : Gx} (h : Vr m a b) : Vr m a ⟨a.k, a.op, a.v, a.t, a.n, b.c, a.y, b.xs⟩ := by
  cases m with
  | zero => exact ⟨rfl, rfl, rfl, rfl, rfl, h.2.2.2.2.2⟩
  | succ m => exact ⟨⟨rfl, rfl, rfl, rfl, rfl⟩, h.2⟩
theorem vr_len0 {m : Nat} {a b : Gx} (h : Vr m a b) (ha : m = 0 → a.xs = []) : b.xs.length = a.xs.length := by
  cases m with
  | zero => rw [ha rfl, h.2.2.2.2.2]
  | succ m => exact h.2.1
theorem gat_stored {w w' : World} {b o : Nat} {x : Gx} {q : Option Addr} {c : Nat} (S : Stored w w' b o) (hx : GC w b o x q c) : ∀ (n : Nat) (e : Gx) (p : Option Addr), GAt w n e p → ∃ e', Vr n e e' ∧ GAt w' n e' p
  | 0, e, p, h => ⟨e, ⟨rfl, rfl, rfl, rfl, rfl, h⟩, h⟩
  | n + 1, e, p, h => by
    rcases h.2 with h0 | ⟨bb, off, hp, hc⟩
    · exact ⟨e, ⟨⟨rfl, rfl, rfl, rfl, rfl⟩, rfl, fun i hi => by rw [h0] at hi; simp at hi⟩, h.1, Or.inl h0⟩
    · obtain ⟨l, hl, hP⟩ := pick_list (P := fun i z => ∀ hi : i < e.xs.length, Vr n e.xs[i] z ∧ ∃ q c, GC w' bb (off + i * 10) z q c ∧ GAt w' n z q ∧ z.xs.length ≤ c) e.xs.length (fun i hi => by
        obtain ⟨q, c, h1, h2, h3⟩ := hc i hi
        obtain ⟨e1, v1, g1⟩ := gat_stored S hx n e.xs[i] q h2
        obtain ⟨m, hm⟩ := gc_stored S hx h1
        have hl1 := vr_len0 v1 (fun q => by subst q; exact h2)
        refine ⟨⟨e.xs[i].k, e.xs[i].op, e.xs[i].v, e.xs[i].t, e.xs[i].n, m, e.xs[i].y, e1.xs⟩, fun _ => ⟨?_, q, c, ?_, gat_xs g1 rfl, ?_⟩⟩
        · exact vr_set (vr_xs v1) m
        · obtain ⟨y0, y1, y2, y3, y4, y5, y6, y7, y8, y9⟩ := hm
          refine ⟨y0, y1, y2, y3, y4, y5, y6, y7, y8, ?_⟩
          show _ = some (Value.slice q e1.xs.length c)
          rw [hl1]
          exact y9
        · show e1.xs.length ≤ c
          rw [hl1]; exact h3)
      refine ⟨⟨e.k, e.op, e.v, e.t, e.n, e.c, e.y, l⟩, ⟨⟨rfl, rfl, rfl, rfl, rfl⟩, hl, fun i hi hi' => (hP i hi' hi).1⟩, ?_, Or.inr ⟨bb, off, hp, fun i hi => ?_⟩⟩
      · show l.length ≤ _
        rw [hl]; exact h.1
      · exact (hP i hi (by rw [← hl]; exact hi)).2
theorem vr_rt : ∀ (m : Nat) {a b : Gx}, Vr m a b → RtN m a → RtN m b
  | 0, a, b, ⟨_, _, h2, h3, h4, _⟩, r => by
    obtain ⟨r0, r1, r2⟩ : RtB a := r
    exact ⟨h2 ▸ r0, h3 ▸ r1, h4 ▸ r2⟩
  | m + 1, a, b, ⟨⟨_, _, h2, h3, h4⟩, hl, hv⟩, r => by
    obtain ⟨⟨r0, r1, r2⟩, rx⟩ := r
    refine ⟨⟨h2 ▸ r0, h3 ▸ r1, h4 ▸ r2⟩, fun x hx => ?_⟩
    obtain ⟨i, hi, rfl⟩ := List.getElem_of_mem hx
    exact vr_rt m (hv i (by omega) hi) (rx _ (List.getElem_mem _))
/-- The pair that is decided: after the store. -/
def andA (xs : List Gx) : Gx := ⟨4, 4, v0, [], [], 0, 0, xs⟩
theorem ev_and {e0 e1 y0 y1 : Gx} (h0 : Vr 2 (upN 2 (mkE 4 6 [colE [] [98], numE 0])) e0) (hx : e0.xs = [y0, y1]) (v0' : Vr 1 (upN 1 (colE [] [98])) y0) (v1' : Vr 1 (upN 1 (numE 0)) y1) (hc : y0.c = 1) : evN 3 rowA [] 3 (andA [e0, e1]) = ⟨truthV false, 0⟩ := by
  obtain ⟨k, op, v, t, n, c, y, xs⟩ := e0
  obtain ⟨⟨rfl, rfl, rfl, rfl, rfl⟩, _⟩ := h0
  obtain rfl : xs = [y0, y1] := hx
  obtain ⟨k0, op0, v0, t0, n0, c0, z0, xs0⟩ := y0
  obtain ⟨⟨rfl, rfl, rfl, rfl, rfl⟩, l0, _⟩ := v0'
  obtain rfl : xs0 = [] := List.length_eq_zero_iff.1 l0
  obtain ⟨k1, op1, v1, t1, n1, c1, z1, xs1⟩ := y1
  obtain ⟨⟨rfl, rfl, rfl, rfl, rfl⟩, l1, _⟩ := v1'
  obtain rfl : xs1 = [] := List.length_eq_zero_iff.1 l1
  obtain rfl : c0 = 1 := hc
  kernel_rfl
theorem bs0 : (⟨#[]⟩ : ByteArray).size = 0 := rfl
theorem rt_txA : RtN 3 (upN 3 txAE) := by
  simp [RtN, RtB, RtV, upN, txAE, mkE, colE, numE, litE, v0, Val.right, inR, bs0]
theorem rt_txB : RtN 1 (upN 1 txBE) := by
  simp [RtN, RtB, RtV, upN, txBE, mkE, numE, litE, v0, Val.right, inR, bs0]
theorem rt_txC : RtN 2 (upN 2 txCE) := by
  simp [RtN, RtB, RtV, upN, txCE, mkE, colE, numE, litE, v0, Val.right, inR, bs0]
/-- Two operands that lie in memory. -/
theorem two_at {w : World} {m : Nat} {e : Gx} {q : Option Addr} {p : Addr} (h : GAt w (m + 1) e q) (hq : q = some p) (hl : e.xs.length = 2) : ∃ b o a0 a1 q0 q1 c0 c1, p = ⟨b, o, none⟩ ∧ e.xs = [a0, a1] ∧ GC w b o a0 q0 c0 ∧ GAt w m a0 q0 ∧ GC w b (o + 10) a1 q1 c1 ∧ GAt w m a1 q1 := by
  obtain ⟨_, h | ⟨b, o, hp, hc⟩⟩ := h
  · rw [h] at hl; simp at hl
  · subst hq
    obtain ⟨q0, c0, g0, a0, _⟩ := hc 0 (by omega)
    obtain ⟨q1, c1, g1, a1, _⟩ := hc 1 (by omega)
    match hx : e.xs, hl with
    | [x, y], _ =>
      simp only [hx, List.getElem_cons_zero, List.getElem_cons_succ, Nat.zero_mul, Nat.add_zero, Nat.one_mul] at g0 a0 g1 a1
      exact ⟨b, o, x, y, q0, q1, c0, c1, Option.some.inj hp, rfl, g0, a0, g1, a1⟩
end Go.Proofs.YthnmicadlcmecaaGreatDoor
