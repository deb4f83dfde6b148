/- Expressions, and the reader of package expr, in memory. Conditions: none. What catalog.Name answers. Condition: the text lies within the reach. -/
import Derived.Test.YtblkhlhhlalbkaaGreatDoorLB
import Derived.Test.YtblkhlhhlalbkaaGreatDoorEA
import Derived.Defers
import Derived.Recover
import Derived.Laws.Pointers
import Derived.Laws.NewBlocks
namespace Go.Proofs.YtblkhlhhlalbkaaGreatDoor
open Go.RowKit Go.Lib Go.Sort
set_option linter.unusedVariables false
set_option maxRecDepth 20000


/-- The end of a function without results. -/
theorem end0 {P : Program} {fn : Func} {R : Ending → World → Prop} {a : Act} {w : World} (hr : fn.results = #[]) (hd : a.defers = []) (hR : R (.returned (.tuple #[])) w) : bodyPost P fn R .normal a w :=
  ⟨hd, .tuple #[], by simp [results, hr, go_sem], hR⟩
theorem ret0 {P : Program} {fn : Func} {R : Ending → World → Prop} {a : Act} {w : World} (hr : fn.results = #[]) (hd : a.defers = []) (hR : R (.returned (.tuple #[])) w) : bodyPost P fn R .ret a w :=
  ⟨hd, .tuple #[], by simp [results, hr, go_sem], hR⟩
/-- But for the blocks of a set, and new ones, nothing has turned. -/
structure Chg (F : Nat → Prop) (w w' : World) : Prop where
  os : w'.os = w.os
  tape : w'.tape = w.tape
  output : w'.output = w.output
  size : w.heap.size ≤ w'.heap.size
  block : ∀ k, k < w.heap.size → ¬ F k → w'.heap[k]? = w.heap[k]?
theorem Chg.refl (F : Nat → Prop) (w : World) : Chg F w w := ⟨rfl, rfl, rfl, Nat.le_refl _, fun _ _ _ => rfl⟩
theorem Chg.trans {F G : Nat → Prop} {a b c : World} (h : Chg F a b) (k : Chg G b c) (hG : ∀ j, j < a.heap.size → G j → F j) : Chg F a c :=
  ⟨k.os.trans h.os, k.tape.trans h.tape, k.output.trans h.output, Nat.le_trans h.size k.size,
   fun j hj hn => (k.block j (Nat.lt_of_lt_of_le hj h.size) (fun g => hn (hG j hj g))).trans (h.block j hj hn)⟩
theorem Chg.mono {F G : Nat → Prop} {a b : World} (h : Chg F a b) (hG : ∀ j, j < a.heap.size → F j → G j) : Chg G a b :=
  ⟨h.os, h.tape, h.output, h.size, fun j hj hn => h.block j hj (fun f => hn (hG j hj f))⟩
theorem Chg.of_below {F : Nat → Prop} {a b : World} (h : Below a.heap.size a b) : Chg F a b := ⟨h.os, h.tape, h.output, h.size, fun j hj _ => h.block j hj⟩
theorem Chg.below {F : Nat → Prop} {a b : World} {B : Nat} (h : Chg F a b) (hF : ∀ k, F k → B ≤ k) (hB : B ≤ a.heap.size) : Below B a b :=
  ⟨h.os, h.tape, h.output, h.size, fun j hj => h.block j (by omega) (fun f => by have := hF j f; omega)⟩
theorem Chg.alloc {F : Nat → Prop} {a w : World} (h : Chg F a w) (o : Obj) : Chg F a (w.alloc o) :=
  ⟨h.os, h.tape, h.output, by simp; have := h.size; omega, fun j hj hn => (Below.heap_alloc _ _ _ (Nat.lt_of_lt_of_le hj h.size)).trans (h.block j hj hn)⟩
theorem Chg.drew {F : Nat → Prop} {a w : World} (h : Chg F a w) : Chg F a w.drew := ⟨h.os, h.tape, h.output, h.size, h.block⟩
theorem Chg.setCell {F : Nat → Prop} {a w : World} (h : Chg F a w) {p : Addr} (hp : F p.block ∨ a.heap.size ≤ p.block) (u : Value) : Chg F a (w.setCell p u) :=
  ⟨h.os, h.tape, h.output, by simpa [World.setCell] using h.size, fun j hj hn => (Below.heap_setCell _ _ _ _ (by rintro rfl; rcases hp with hp | hp; exact hn hp; omega)).trans (h.block j hj hn)⟩
theorem Chg.setRow {F : Nat → Prop} {a w : World} (h : Chg F a w) {g : Nat} (hp : F g ∨ a.heap.size ≤ g) (cs : Array Value) : Chg F a (w.setRow g cs) :=
  ⟨h.os, h.tape, h.output, by simpa using h.size, fun j hj hn => (setRow_other _ _ _ _ (by rintro rfl; rcases hp with hp | hp; exact hn hp; omega)).trans (h.block j hj hn)⟩
theorem Chg.grown {F : Nat → Prop} {a w w' : World} {row : Option Nat} (h : Chg F a w) (hg : w.grownBy w' row) (hr : ∀ k, row = some k → F k ∨ a.heap.size ≤ k) : Chg F a w' :=
  ⟨hg.os.trans h.os, hg.tape.trans h.tape, hg.output.trans h.output, Nat.le_trans h.size hg.size,
   fun j hj hn => (hg.block j (Nat.lt_of_lt_of_le hj h.size) (fun e => by rcases hr j e.symm with hr | hr; exact hn hr; omega)).trans (h.block j hj hn)⟩
theorem Chg.cell {F : Nat → Prop} {w w' : World} (h : Chg F w w') {p : Addr} {v : Value} (hc : w.cell? p = some v) (hn : ¬ F p.block) : w'.cell? p = some v :=
  (World.cell?_of_block (w := w) (h.block p.block (cell_lt hc) hn)).trans hc
theorem Chg.frozen {F : Nat → Prop} {w w' : World} (h : Chg F w w') {p : Addr} (hl : p.block < w.heap.size) (hn : ¬ F p.block) : w'.frozen? p = w.frozen? p :=
  World.frozen?_of_block (w := w) (h.block p.block hl hn)
/-- An expression as a value. -/
def exV (e : Ex) (p : Option Addr) (c : Nat) : Value := .agg #[.int .i64 e.k, .int .i64 e.op, .int .i64 e.v.k, .int .i64 e.v.n, .string e.v.s, .string ⟨e.t.toArray⟩, .string ⟨e.n.toArray⟩, .int .i64 0, .int .i64 0, .slice p e.xs.length c]
/-- An expression in ten cells. -/
def XC (w : World) (b o : Nat) (e : Ex) (p : Option Addr) (c : Nat) : Prop :=
  w.cell? ⟨b, o, none⟩ = some (.int .i64 e.k) ∧ w.cell? ⟨b, o + 1, none⟩ = some (.int .i64 e.op) ∧ w.cell? ⟨b, o + 2, none⟩ = some (.int .i64 e.v.k) ∧ w.cell? ⟨b, o + 3, none⟩ = some (.int .i64 e.v.n) ∧ w.cell? ⟨b, o + 4, none⟩ = some (.string e.v.s) ∧ w.cell? ⟨b, o + 5, none⟩ = some (.string ⟨e.t.toArray⟩) ∧ w.cell? ⟨b, o + 6, none⟩ = some (.string ⟨e.n.toArray⟩) ∧ w.cell? ⟨b, o + 7, none⟩ = some (.int .i64 0) ∧ w.cell? ⟨b, o + 8, none⟩ = some (.int .i64 0) ∧ w.cell? ⟨b, o + 9, none⟩ = some (.slice p e.xs.length c)
theorem XC.chg {F : Nat → Prop} {w w' : World} {b o : Nat} {e : Ex} {p : Option Addr} {c : Nat} (h : XC w b o e p c) (C : Chg F w w') (hn : ¬ F b) : XC w' b o e p c := by
  obtain ⟨h0, h1, h2, h3, h4, h5, h6, h7, h8, h9⟩ := h
  exact ⟨C.cell h0 hn, C.cell h1 hn, C.cell h2 hn, C.cell h3 hn, C.cell h4 hn, C.cell h5 hn, C.cell h6 hn, C.cell h7 hn, C.cell h8 hn, C.cell h9 hn⟩
/-- The operands lie within their capacity, and the expression's place may be stored. -/
def EC (w : World) (b o : Nat) (e : Ex) (c : Nat) : Prop := e.xs.length ≤ c ∧ w.frozen? ⟨b, o + 7, none⟩ = false
theorem EC.chg {F : Nat → Prop} {w w' : World} {b o : Nat} {e : Ex} {c : Nat} (h : EC w b o e c) (C : Chg F w w') (hl : b < w.heap.size) (hn : ¬ F b) : EC w' b o e c := by
  refine ⟨h.1, ?_⟩
  have := C.block b hl hn
  have h2 := h.2
  unfold World.frozen? at h2 ⊢
  rw [this]
  exact h2
/-- The operands of an expression, so many levels deep, in blocks of a set; where they lie. -/
def EAt (w : World) (F : Nat → Prop) : Nat → Ex → Option Addr → Prop
  | 0, e, _ => e.xs = []
  | n + 1, e, p => e.xs = [] ∨ ∃ b off, p = some ⟨b, off, none⟩ ∧ F b ∧ ∀ i (h : i < e.xs.length), ∃ q c, XC w b (off + i * 10) e.xs[i] q c ∧ EAt w F n e.xs[i] q ∧ EC w b (off + i * 10) e.xs[i] c
theorem EAt.chg {F G : Nat → Prop} {w w' : World} (C : Chg G w w') (hG : ∀ b, F b → ¬ G b) : ∀ {n : Nat} {e : Ex} {p : Option Addr}, EAt w F n e p → EAt w' F n e p
  | 0, e, p, h => h
  | n + 1, e, p, h => by
    rcases h with h | ⟨b, off, hp, hF, hc⟩
    · exact Or.inl h
    · refine Or.inr ⟨b, off, hp, hF, fun i hi => ?_⟩
      obtain ⟨q, c, h1, h2, h3⟩ := hc i hi
      exact ⟨q, c, h1.chg C (hG b hF), EAt.chg C hG h2, h3.chg C (cell_lt h1.1) (hG b hF)⟩
theorem EAt.mono {F G : Nat → Prop} {w : World} (h : ∀ b, b < w.heap.size → F b → G b) : ∀ {n : Nat} {e : Ex} {p : Option Addr}, EAt w F n e p → EAt w G n e p
  | 0, e, p, q => q
  | n + 1, e, p, q => by
    rcases q with q | ⟨b, off, hp, hF, hc⟩
    · exact Or.inl q
    · by_cases h0 : e.xs = []
      · exact Or.inl h0
      refine Or.inr ⟨b, off, hp, h b ?_ hF, fun i hi => ?_⟩
      · obtain ⟨q, c, h1, h2, _⟩ := hc 0 (List.length_pos_iff.2 h0)
        exact cell_lt h1.1
      · obtain ⟨q, c, h1, h2, h3⟩ := hc i hi
        exact ⟨q, c, h1, EAt.mono h h2, h3⟩
theorem EAt.up {F : Nat → Prop} {w : World} : ∀ {n : Nat} {e : Ex} {p : Option Addr}, EAt w F n e p → EAt w F (n + 1) e p
  | 0, e, p, h => Or.inl h
  | n + 1, e, p, h => by
    rcases h with h | ⟨b, off, hp, hF, hc⟩
    · exact Or.inl h
    · refine Or.inr ⟨b, off, hp, hF, fun i hi => ?_⟩
      obtain ⟨q, c, h1, h2, h3⟩ := hc i hi
      exact ⟨q, c, h1, h2.up, h3⟩
theorem EAt.le {F : Nat → Prop} {w : World} {n m : Nat} (h : n ≤ m) {e : Ex} {p : Option Addr} (q : EAt w F n e p) : EAt w F m e p := by
  induction h with
  | refl => exact q
  | step _ ih => exact ih.up
/-- An expression, as a value, with its operands in memory. -/
def EX (w : World) (F : Nat → Prop) (e : Ex) (v : Value) : Prop := ∃ p c n, v = exV e p c ∧ EAt w F n e p
theorem EX.chg {F G : Nat → Prop} {w w' : World} {e : Ex} {v : Value} (h : EX w F e v) (C : Chg G w w') (hG : ∀ b, F b → ¬ G b) : EX w' F e v := by
  obtain ⟨p, c, n, hv, q⟩ := h
  exact ⟨p, c, n, hv, q.chg C hG⟩
theorem EX.below {F : Nat → Prop} {w w' : World} {e : Ex} {v : Value} (h : EX w F e v) (B : Below w.heap.size w w') : EX w' F e v :=
  h.chg (G := fun _ => False) (Chg.of_below B) (fun _ _ q => q)
theorem EX.mono {F G : Nat → Prop} {w : World} {e : Ex} {v : Value} (h : EX w F e v) (q : ∀ b, b < w.heap.size → F b → G b) : EX w G e v := by
  obtain ⟨p, c, n, hv, k⟩ := h
  exact ⟨p, c, n, hv, k.mono q⟩
/-- An expression without operands. -/
theorem EX.leaf {w : World} {F : Nat → Prop} {e : Ex} (h : e.xs = []) (p : Option Addr) (c : Nat) : EX w F e (exV e p c) := ⟨p, c, 0, rfl, h⟩

/-! ### The reader -/
def rP (rb k : Nat) : Value := .pointer (some ⟨rb + k, 0, none⟩)
def itemV (rb : Nat) : Value := .func (.func 92) #[.pointer (some ⟨rb, 0, none⟩)] #[]
def aheadV (rb k : Nat) : Value := .func (.func 131) #[] #[rP rb k, rP rb (k + 1), rP rb (k + 2), rP rb (k + 3)]
def rowV (rb k : Nat) : Value := .func (.func 142) #[] #[rP rb (k + 2), rP rb k, rP rb (k + 1)]
def testV (rb k : Nat) : Value := .func (.func 144) #[] #[rP rb (k + 1), rP rb k]
/-- What lies in the blocks behind the reader's, for ever. -/
def statV (rb : Nat) : List Value := [
  .pointer (some ⟨rb, 0, none⟩), .int .i64 8, itemV rb, aheadV rb 1,
  .pointer (some ⟨rb, 0, none⟩), .int .i64 7, aheadV rb 1,
  .pointer (some ⟨rb, 0, none⟩), .int .i64 6, rowV rb 5,
  .pointer (some ⟨rb, 0, none⟩), .int .i64 5, rowV rb 8,
  .pointer (some ⟨rb, 0, none⟩), rowV rb 11,
  .pointer (some ⟨rb, 0, none⟩), .int .i64 3, testV rb 14, aheadV rb 16,
  .pointer (some ⟨rb, 0, none⟩), .int .i64 2, aheadV rb 16,
  .pointer (some ⟨rb, 0, none⟩), .int .i64 1, rowV rb 20]
def Stat (w : World) (rb : Nat) : Prop := ∀ i (h : i < (statV rb).length), w.cell? ⟨rb + (i + 1), 0, none⟩ = some (statV rb)[i]
/-- The tables of operators and calls. -/
def oprV (o : Opr) : List Value := [.int .i64 o.kind, .int .i64 o.op, .int .i64 o.tok, .string ⟨o.txt.toArray⟩, .int .i64 o.line]
def calV (c : Cal) : List Value := [.int .i64 c.kind, .int .i64 c.op, .string ⟨c.name.toArray⟩, .int .i64 (c.cnt : Int)]
def Gl (w : World) : Prop := w.heap[0]? = some (.cells (oprs.flatMap oprV).toArray 172 (0, 0)) ∧ w.heap[1]? = some (.cells (cals.flatMap calV).toArray 185 (0, 0))
theorem Gl.chg {F : Nat → Prop} {w w' : World} (h : Gl w) (C : Chg F w w') (h1 : ¬ F 0) (h2 : ¬ F 1) : Gl w' :=
  ⟨(C.block _ (Array.getElem?_eq_some_iff.1 h.1).1 h1).trans h.1, (C.block _ (Array.getElem?_eq_some_iff.1 h.2).1 h2).trans h.2⟩
/-- A reader at a block, over words; those that are left, and how much deeper it may go. -/
structure RS (w : World) (rb : Nat) (p : Option Addr) (c : Nat) (xs l : Ts) (d : Nat) : Prop where
  c0 : w.cell? ⟨rb, 0, none⟩ = some (.slice p xs.length c)
  c1 : w.cell? ⟨rb, 1, none⟩ = some (.int .i64 ((xs.length : Int) - (l.length : Int)))
  c2 : w.cell? ⟨rb, 2, none⟩ = some (.int .i64 (32 - (d : Int)))
  c3 : w.cell? ⟨rb, 3, none⟩ = some (rowV rb 23)
  f : ∀ i, w.frozen? ⟨rb, i, none⟩ = false
  st : Stat w rb
  gl : Gl w
  gb : 0 < rb ∧ 1 < rb
  tr : TR w p xs
  pn : ∀ b off, p = some ⟨b, off, none⟩ → b ≠ rb
  suf : l <:+ xs
  len : xs.length ≤ 140737488351232
  dle : d ≤ 32
  nn : 0 < xs.length
  pls : ∀ i (h : i < xs.length), xs[i].2 ≤ 140737488351232
  txt : ∀ x, x ∈ xs → x.1.s.length ≤ 140737488351232
theorem TR.chg {F : Nat → Prop} {w w' : World} {p : Option Addr} {xs : Ts} (h : TR w p xs) (C : Chg F w w') (hp : ∀ b off, p = some ⟨b, off, none⟩ → ¬ F b) : TR w' p xs := by
  rcases h with h | ⟨b, off, he, hc⟩
  · exact Or.inl h
  · refine Or.inr ⟨b, off, he, fun i hi => ?_⟩
    obtain ⟨h0, h1, h2, h3⟩ := hc i hi
    have hn := hp b off he
    exact ⟨C.cell h0 hn, C.cell h1 hn, C.cell h2 hn, C.cell h3 hn⟩
theorem RS.lt {w : World} {rb : Nat} {p : Option Addr} {c : Nat} {xs l : Ts} {d : Nat} (h : RS w rb p c xs l d) : rb < w.heap.size := cell_lt h.c0
theorem Stat.chg {F : Nat → Prop} {w w' : World} {rb : Nat} (h : Stat w rb) (C : Chg F w w') (hF : ∀ k, F k → k ≤ rb) : Stat w' rb := fun i hi => C.cell (h i hi) (fun q => by have := hF _ q; simp only at this; omega)
theorem RS.below {w w' : World} {rb : Nat} {p : Option Addr} {c : Nat} {xs l : Ts} {d : Nat} (h : RS w rb p c xs l d) (B : Below w.heap.size w w') : RS w' rb p c xs l d := by
  have C : Chg (fun _ => False) w w' := Chg.of_below B
  have hl := h.lt
  exact ⟨C.cell h.c0 id, C.cell h.c1 id, C.cell h.c2 id, C.cell h.c3 id, fun i => (C.frozen (p := ⟨rb, i, none⟩) hl id).trans (h.f i), h.st.chg C (fun k q => q.elim), h.gl.chg C id id, h.gb, h.tr.chg C (fun _ _ _ => id), h.pn, h.suf, h.len, h.dle, h.nn, h.pls, h.txt⟩
/-- The place is moved. -/
theorem RS.mv {w : World} {rb : Nat} {p : Option Addr} {c : Nat} {xs l l' : Ts} {d : Nat} (h : RS w rb p c xs l d) (hs : l' <:+ xs) (x : Int) (hx : x = (xs.length : Int) - (l'.length : Int)) : RS (w.setCell ⟨rb, 1, none⟩ (.int .i64 x)) rb p c xs l' d := by
  have C : Chg (· = rb) w (w.setCell ⟨rb, 1, none⟩ (.int .i64 x)) := Chg.setCell (F := (· = rb)) (p := ⟨rb, 1, none⟩) (Chg.refl _ _) (Or.inl rfl) _
  have h0 := h.c0
  have h1 := h.c1
  have h2 := h.c2
  have h3 := h.c3
  refine ⟨?_, ?_, ?_, ?_, fun i => ?_, h.st.chg C (fun k q => Nat.le_of_eq q), h.gl.chg C (fun q => by have := h.gb.1; omega) (fun q => by have := h.gb.2; omega), h.gb, h.tr.chg C (fun b off e q => h.pn b off e q), h.pn, hs, h.len, h.dle, h.nn, h.pls, h.txt⟩
  · simp [go_sem, h0]
  · subst hx; simp [go_sem, h1]
  · simp [go_sem, h2]
  · simp [go_sem, h3]
  · have := h.f i; simp [go_sem, this]
/-- The nesting is turned. -/
theorem RS.dp {w : World} {rb : Nat} {p : Option Addr} {c : Nat} {xs l : Ts} {d d' : Nat} (h : RS w rb p c xs l d) (hd : d' ≤ 32) (x : Int) (hx : x = 32 - (d' : Int)) : RS (w.setCell ⟨rb, 2, none⟩ (.int .i64 x)) rb p c xs l d' := by
  have C : Chg (· = rb) w (w.setCell ⟨rb, 2, none⟩ (.int .i64 x)) := Chg.setCell (F := (· = rb)) (p := ⟨rb, 2, none⟩) (Chg.refl _ _) (Or.inl rfl) _
  have h0 := h.c0
  have h1 := h.c1
  have h2 := h.c2
  have h3 := h.c3
  refine ⟨?_, ?_, ?_, ?_, fun i => ?_, h.st.chg C (fun k q => Nat.le_of_eq q), h.gl.chg C (fun q => by have := h.gb.1; omega) (fun q => by have := h.gb.2; omega), h.gb, h.tr.chg C (fun b off e q => h.pn b off e q), h.pn, h.suf, h.len, hd, h.nn, h.pls, h.txt⟩
  · simp [go_sem, h0]
  · simp [go_sem, h1]
  · subst hx; simp [go_sem, h2]
  · simp [go_sem, h3]
  · have := h.f i; simp [go_sem, this]
/-- A word that must stand there. -/
def mustU (k : Int) (s : List UInt8) (l : Ts) : Rd Unit := if stn k s l then .ok ((), l.tail) else .error (l, 20)
/-- What is thrown: a fault at a block. -/
def thrF (b : Nat) : List PanicEntry := [{ v := .iface 100 (.pointer (some ⟨b, 0, none⟩)), recovered := false }]
def Flt (w : World) (b : Nat) (i c : Int) : Prop := w.cell? ⟨b, 0, none⟩ = some (.int .i64 i) ∧ w.cell? ⟨b, 1, none⟩ = some (.iface 35 (.int .i64 c))
/-- How a reading ends. -/
def RdE {α : Type} (Q : World → Value → α → Prop) (rb : Nat) (p : Option Addr) (c : Nat) (xs : Ts) (d : Nat) (x : Rd α) (w : World) (e : Ending) (w' : World) : Prop :=
  Chg (· = rb) w w' ∧ match x with
    | .ok y => ∃ v, e = .returned v ∧ Q w' v y.1 ∧ RS w' rb p c xs y.2 d
    | .error y => ∃ b, e = .panicked (thrF b) ∧ Flt w' b (plc xs y.1) y.2
/-- An expression that was read: its operands lie in blocks of a set. -/
def QF (F : Nat → Prop) (w : World) (v : Value) (e : Ex) : Prop := ∃ p c, v = .agg #[.int .i64 e.k, .int .i64 e.op, .int .i64 e.v.k, .int .i64 e.v.n, .string e.v.s, .string ⟨e.t.toArray⟩, .string ⟨e.n.toArray⟩, .int .i64 0, .int .i64 0, .slice p e.xs.length c] ∧ ∃ k, EAt w F k e p ∧ e.xs.length ≤ c
abbrev QX (n : Nat) : World → Value → Ex → Prop := QF (n ≤ ·)
/-- What a line's function does. -/
def LineOk (rb : Nat) (p : Option Addr) (c : Nat) (xs : Ts) (d : Nat) (G : Nat) (env : Array Value) (P : Ts → Rd Ex) : Prop :=
  ∀ w l, RS w rb p c xs l d → Calls Tryz.prog G env w (RdE (QX w.heap.size) rb p c xs d (P l) w)
/-- Nothing of the reader lies in a block that is new since. -/
theorem RS.fresh {w0 w w' : World} {rb b : Nat} {p : Option Addr} {c : Nat} {xs l0 l : Ts} {d0 d : Nat} (h0 : RS w0 rb p c xs l0 d0) (h : RS w rb p c xs l d) (hb : w0.heap.size ≤ b) (C : Chg (· = b) w w') : RS w' rb p c xs l d := by
  have hl := h0.lt
  have hr : ∀ i : Nat, ¬ ((⟨rb, i, none⟩ : Addr).block = b) := fun i q => by simp only at q; omega
  refine ⟨C.cell h.c0 (hr 0), C.cell h.c1 (hr 1), C.cell h.c2 (hr 2), C.cell h.c3 (hr 3), fun i => (C.frozen (p := ⟨rb, i, none⟩) h.lt (hr i)).trans (h.f i), fun i hi => C.cell (h.st i hi) (fun q => ?_), h.gl.chg C (fun q => ?_) (fun q => ?_), h.gb, h.tr.chg C (fun b' off e q => ?_), h.pn, h.suf, h.len, h.dle, h.nn, h.pls, h.txt⟩
  · have := cell_lt (h0.st i hi)
    simp only at this q
    omega
  · have := h.gb.1; omega
  · have := h.gb.2; omega
  · obtain ⟨b2, off2, e2, q0, _⟩ := h0.tr.at h0.nn
    rw [e] at e2
    cases e2
    have := cell_lt q0
    simp only at this
    omega
/-- The block of a result that is an expression, before it is laid there. -/
def ResX (w : World) (b : Nat) : Prop := w.heap[b]? = some (.cells #[.int .i64 0, .int .i64 0, .int .i64 0, .int .i64 0, .string ⟨#[]⟩, .string ⟨#[]⟩, .string ⟨#[]⟩, .int .i64 0, .int .i64 0, .slice none 0 0] 26 (0, 0))
theorem ResX.chg {F : Nat → Prop} {w w' : World} {b : Nat} (h : ResX w b) (C : Chg F w w') (hn : ¬ F b) : ResX w' b := (C.block b (Array.getElem?_eq_some_iff.1 h).1 hn).trans h
theorem ResX.below {w w' : World} {b B : Nat} (h : ResX w b) (hB : Below B w w') (hb : b < B) : ResX w' b := (hB.block b hb).trans h
theorem ResX.cells {w : World} {b : Nat} (h : ResX w b) : w.cell? ⟨b, 0, none⟩ = some (.int .i64 0) ∧ w.cell? ⟨b, 1, none⟩ = some (.int .i64 0) ∧ w.cell? ⟨b, 2, none⟩ = some (.int .i64 0) ∧ w.cell? ⟨b, 3, none⟩ = some (.int .i64 0) ∧ w.cell? ⟨b, 4, none⟩ = some (.string ⟨#[]⟩) ∧ w.cell? ⟨b, 5, none⟩ = some (.string ⟨#[]⟩) ∧ w.cell? ⟨b, 6, none⟩ = some (.string ⟨#[]⟩) ∧ w.cell? ⟨b, 7, none⟩ = some (.int .i64 0) ∧ w.cell? ⟨b, 8, none⟩ = some (.int .i64 0) ∧ w.cell? ⟨b, 9, none⟩ = some (.slice none 0 0) := by
  refine ⟨?_, ?_, ?_, ?_, ?_, ?_, ?_, ?_, ?_, ?_⟩ <;> (rw [Lib.cell_of_heap h]; rfl)
theorem cell_lt_res {w : World} {b : Nat} (h : ResX w b) : b < w.heap.size := (Array.getElem?_eq_some_iff.1 h).1
theorem ResX.frozen {w : World} {b : Nat} (h : ResX w b) (i : Nat) : w.frozen? ⟨b, i, none⟩ = false := Lib.frozen_of_heap h i
/-- A variable that holds an expression. -/
def BX (w : World) (b : Nat) (e : Ex) (p : Option Addr) (c : Nat) : Prop := w.heap[b]? = some (.cells #[.int .i64 e.k, .int .i64 e.op, .int .i64 e.v.k, .int .i64 e.v.n, .string e.v.s, .string ⟨e.t.toArray⟩, .string ⟨e.n.toArray⟩, .int .i64 0, .int .i64 0, .slice p e.xs.length c] 26 (0, 0))
theorem BX.chg {F : Nat → Prop} {w w' : World} {b : Nat} {e : Ex} {p : Option Addr} {c : Nat} (h : BX w b e p c) (C : Chg F w w') (hn : ¬ F b) : BX w' b e p c := (C.block b (Array.getElem?_eq_some_iff.1 h).1 hn).trans h
theorem BX.below {w w' : World} {b B : Nat} {e : Ex} {p : Option Addr} {c : Nat} (h : BX w b e p c) (hB : Below B w w') (hb : b < B) : BX w' b e p c := (hB.block b hb).trans h
theorem BX.xc {w : World} {b : Nat} {e : Ex} {p : Option Addr} {c : Nat} (h : BX w b e p c) : XC w b 0 e p c := by
  refine ⟨?_, ?_, ?_, ?_, ?_, ?_, ?_, ?_, ?_, ?_⟩ <;> (rw [Lib.cell_of_heap h]; rfl)
theorem BX.frozen {w : World} {b : Nat} {e : Ex} {p : Option Addr} {c : Nat} (h : BX w b e p c) (i : Nat) : w.frozen? ⟨b, i, none⟩ = false := Lib.frozen_of_heap h i
/-- Ten cells of a block are laid. -/
def put10 (w : World) (b : Nat) (v0 v1 v2 v3 v4 v5 v6 v7 v8 v9 : Value) : World := (((((((((w.setCell ⟨b, 0, none⟩ v0).setCell ⟨b, 1, none⟩ v1).setCell ⟨b, 2, none⟩ v2).setCell ⟨b, 3, none⟩ v3).setCell ⟨b, 4, none⟩ v4).setCell ⟨b, 5, none⟩ v5).setCell ⟨b, 6, none⟩ v6).setCell ⟨b, 7, none⟩ v7).setCell ⟨b, 8, none⟩ v8).setCell ⟨b, 9, none⟩ v9
theorem put10_chg (w : World) (b : Nat) (v0 v1 v2 v3 v4 v5 v6 v7 v8 v9 : Value) : Chg (· = b) w (put10 w b v0 v1 v2 v3 v4 v5 v6 v7 v8 v9) := by
  unfold put10
  have st : ∀ {x y : World} (i : Nat) (v : Value), Chg (· = b) x y → Chg (· = b) x (y.setCell ⟨b, i, none⟩ v) := fun i v h => Chg.setCell (F := (· = b)) (p := ⟨b, i, none⟩) h (Or.inl rfl) v
  exact st 9 _ (st 8 _ (st 7 _ (st 6 _ (st 5 _ (st 4 _ (st 3 _ (st 2 _ (st 1 _ (st 0 _ (Chg.refl _ _))))))))))
end Go.Proofs.YtblkhlhhlalbkaaGreatDoor
namespace Go.Proofs.YtblkhlhhlalbkaaGreatDoor
open Go.RowKit Go.Lib
set_option linter.unusedVariables false
set_option maxRecDepth 20000

theorem kw_mem {l x : List UInt8} (h : (l == x) = true) (hx : x ∈ kws) : true = kw l := (List.any_eq_true.2 ⟨x, hx, h⟩).symm
theorem kw_none {l : List UInt8} (h0 : (l == [115, 101, 108, 101, 99, 116]) = false) (h1 : (l == [100, 105, 115, 116, 105, 110, 99, 116]) = false) (h2 : (l == [102, 114, 111, 109]) = false) (h3 : (l == [106, 111, 105, 110]) = false) (h4 : (l == [111, 110]) = false) (h5 : (l == [119, 104, 101, 114, 101]) = false) (h6 : (l == [103, 114, 111, 117, 112]) = false) (h7 : (l == [98, 121]) = false) (h8 : (l == [104, 97, 118, 105, 110, 103]) = false) (h9 : (l == [111, 114, 100, 101, 114]) = false) (h10 : (l == [97, 115, 99]) = false) (h11 : (l == [100, 101, 115, 99]) = false) (h12 : (l == [108, 105, 109, 105, 116]) = false) (h13 : (l == [111, 102, 102, 115, 101, 116]) = false) (h14 : (l == [97, 115]) = false) (h15 : (l == [105, 110, 115, 101, 114, 116]) = false) (h16 : (l == [105, 110, 116, 111]) = false) (h17 : (l == [118, 97, 108, 117, 101, 115]) = false) (h18 : (l == [117, 112, 100, 97, 116, 101]) = false) (h19 : (l == [115, 101, 116]) = false) (h20 : (l == [100, 101, 108, 101, 116, 101]) = false) (h21 : (l == [99, 114, 101, 97, 116, 101]) = false) (h22 : (l == [116, 97, 98, 108, 101]) = false) (h23 : (l == [117, 110, 105, 113, 117, 101]) = false) (h24 : (l == [105, 110, 100, 101, 120]) = false) (h25 : (l == [100, 114, 111, 112]) = false) (h26 : (l == [110, 111, 116]) = false) (h27 : (l == [110, 117, 108, 108]) = false) (h28 : (l == [105, 115]) = false) (h29 : (l == [97, 110, 100]) = false) (h30 : (l == [111, 114]) = false) (h31 : (l == [116, 114, 117, 101]) = false) (h32 : (l == [102, 97, 108, 115, 101]) = false) (h33 : (l == [98, 101, 103, 105, 110]) = false) (h34 : (l == [99, 111, 109, 109, 105, 116]) = false) (h35 : (l == [114, 111, 108, 108, 98, 97, 99, 107]) = false) (h36 : (l == [116, 111]) = false) (h37 : (l == [115, 97, 118, 101, 112, 111, 105, 110, 116]) = false) (h38 : (l == [114, 101, 108, 101, 97, 115, 101]) = false) (h39 : (l == [105, 110, 116]) = false) (h40 : (l == [116, 101, 120, 116]) = false) (h41 : (l == [98, 108, 111, 98]) = false) (h42 : (l == [98, 111, 111, 108]) = false) : false = kw l := by
  simp only [kw, kws, List.any_cons, List.any_nil, h0, h1, h2, h3, h4, h5, h6, h7, h8, h9, h10, h11, h12, h13, h14, h15, h16, h17, h18, h19, h20, h21, h22, h23, h24, h25, h26, h27, h28, h29, h30, h31, h32, h33, h34, h35, h36, h37, h38, h39, h40, h41, h42, Bool.or_false]

set_option maxHeartbeats 1000000 in
theorem cdigit_any (c : Int) (w : World) :
    Calls Tryz.prog 216 #[.int .u8 c] w fun e w' => e = .returned (.bool (dig c)) ∧ w' = w := by
  unfold dig
  go_enter Tryz.func216, Tryz.ntmps216
  go_wp2
  all_goals go_ret
  all_goals refine ⟨?_, rfl⟩
  all_goals (simp_all; try omega)

set_option maxHeartbeats 1000000 in
theorem cnamed_any (c : Int) (w : World) :
    Calls Tryz.prog 218 #[.int .u8 c] w fun e w' => e = .returned (.bool (nam c)) ∧ w' = w := by
  have D := fun w => cdigit_any c w
  unfold nam
  generalize dig c = d at *
  go_enter Tryz.func218, Tryz.ntmps218
  go_wp2_with (go_at_call 216; with_reducible refine (D _).mono ?_; rintro e w2 ⟨rfl, hw⟩; subst hw)
  all_goals go_ret
  all_goals refine ⟨?_, rfl⟩
  all_goals (simp_all; try omega)

set_option maxHeartbeats 4000000 in
theorem keyword_any (s : ByteArray) (w : World) :
    Calls Tryz.prog 217 #[.string s] w fun e w' => e = .returned (.bool (kw s.data.toList)) ∧ w' = w := by
  obtain ⟨⟨l⟩⟩ := s
  show Calls _ _ _ _ fun e w' => e = .returned (.bool (kw l)) ∧ w' = w
  obtain ⟨K, HK⟩ : ∃ K, Hid (kw l = K) := ⟨_, rfl⟩
  rw [HK.out]
  go_enter Tryz.func217, Tryz.ntmps217
  go_wp2
  all_goals go_ret
  all_goals first
    | (exfalso; rename_i a b; exact absurd (a.symm.trans b) (by decide))
    | (exact ⟨congrArg (fun b => Ending.returned (.bool b)) ((kw_mem (by assumption) (by decide +kernel)).trans HK.out), rfl⟩)
    | (exact ⟨congrArg (fun b => Ending.returned (.bool b)) ((kw_none (by assumption) (by assumption) (by assumption) (by assumption) (by assumption) (by assumption) (by assumption) (by assumption) (by assumption) (by assumption) (by assumption) (by assumption) (by assumption) (by assumption) (by assumption) (by assumption) (by assumption) (by assumption) (by assumption) (by assumption) (by assumption) (by assumption) (by assumption) (by assumption) (by assumption) (by assumption) (by assumption) (by assumption) (by assumption) (by assumption) (by assumption) (by assumption) (by assumption) (by assumption) (by assumption) (by assumption) (by assumption) (by assumption) (by assumption) (by assumption) (by assumption) (by assumption) (by assumption)).trans HK.out), rfl⟩)
/-- Is it a right name? -/
def NmOk (s : ByteArray) : Prop := 0 < s.size ∧ s.size ≤ 24 ∧ kw s.data.toList = false ∧ ∀ k (h : k < s.size), nam (s[k]'h).toNat = true ∧ (k = 0 → dig (s[k]'h).toNat = false)

set_option maxHeartbeats 4000000 in
theorem name_any (s : ByteArray) (r : Int) (w : World) (hs : s.size ≤ 140737488351232) (h0 : NmOk s → r = 0) (h3 : ¬ NmOk s → r = 3) :
    Calls Tryz.prog 199 #[.string s] w fun e w' => e = .returned (.int .i64 r) ∧ w' = w := by
  have K := fun w => keyword_any s w
  by_cases hz : s.size = 0
  · obtain rfl := h3 (fun h => by have := h.1; omega)
    clear h0 h3
    have e0 : ((s.size : Int) == 0) = true := by rw [hz]; rfl
    go_enter Tryz.func199, Tryz.ntmps199
    go_wp2_with fail
    go_ret
    exact ⟨rfl, rfl⟩
  by_cases hb : 24 < s.size
  · obtain rfl := h3 (fun h => by have := h.2.1; omega)
    clear h0 h3
    have hb' : (24 : Int) < s.size := by omega
    go_enter Tryz.func199, Tryz.ntmps199
    go_wp2_with fail
    go_ret
    exact ⟨rfl, rfl⟩
  have hp : 0 < s.size := by omega
  have D := fun w => cdigit_any (s[0]'hp).toNat w
  have e0 : ((s.size : Int) == 0) = false := beq_eq_false_iff_ne.2 (by omega)
  have e1 : ¬ (24 : Int) < s.size := by omega
  by_cases hd : dig (s[0]'hp).toNat = true
  · obtain rfl := h3 (fun h => by have := (h.2.2.2 0 hp).2 rfl; rw [hd] at this; cases this)
    clear h0 h3
    rw [hd] at D
    go_enter Tryz.func199, Tryz.ntmps199
    go_wp2_with (go_at_call 216; with_reducible refine (D _).mono ?_; rintro e w2 ⟨rfl, hw⟩; subst hw)
    go_ret
    exact ⟨rfl, rfl⟩
  have hd' : dig (s[0]'hp).toNat = false := by simpa using hd
  rw [hd'] at D
  by_cases hk : kw s.data.toList = true
  · obtain rfl := h3 (fun h => by have := h.2.2.1; rw [hk] at this; cases this)
    clear h0 h3
    rw [hk] at K
    go_enter Tryz.func199, Tryz.ntmps199
    go_wp2_with (first
      | (go_at_call 216; with_reducible refine (D _).mono ?_; rintro e w2 ⟨rfl, hw⟩; subst hw)
      | (go_at_call 217; with_reducible refine (K _).mono ?_; rintro e w2 ⟨rfl, hw⟩; subst hw))
    go_ret
    exact ⟨rfl, rfl⟩
  have hk' : kw s.data.toList = false := by simpa using hk
  rw [hk'] at K
  have H0 : Hid ((∀ k (h : k < s.size), nam (s[k]'h).toNat = true) → r = 0) := fun h => h0 ⟨hp, by omega, hk', fun k hk => ⟨h k hk, fun e => by subst e; exact hd'⟩⟩
  have H3 : Hid (∀ k (h : k < s.size), nam (s[k]'h).toNat = false → r = 3) := fun k h hn => h3 (fun q => by have := (q.2.2.2 k h).1; rw [hn] at this; cases this)
  clear h0 h3 hd hd' hk hk' hz hb
  go_enter Tryz.func199, Tryz.ntmps199
  go_wp2_with (first
    | (go_at_call 216; with_reducible refine (D _).mono ?_; rintro e w2 ⟨rfl, hw⟩; replace hw := hw.symm; subst hw)
    | (go_at_call 217; with_reducible refine (K _).mono ?_; rintro e w2 ⟨rfl, hw⟩; replace hw := hw.symm; subst hw))
  clear D K
  go_loopw [23] (fun i wr => wr = w ∧ ∃ k : Nat, k ≤ s.size ∧ i = .int .i64 k ∧ ∀ j (h : j < s.size), j < k → nam (s[j]'h).toNat = true) (fun i _ => s.size - (RowKit.intOf i).toNat)
  case atStart => exact ⟨rfl, 0, Nat.zero_le _, rfl, fun j h hj => absurd hj (Nat.not_lt_zero _)⟩
  case round =>
    obtain ⟨rfl, k, hks, rfl, hA⟩ := hrel
    have HA := hid hA
    clear hA
    by_cases hx : k < s.size
    · have N := fun w => cnamed_any (s[k]'hx).toNat w
      cases hn : nam (s[k]'hx).toNat
      · rw [hn] at N
        obtain rfl := H3.out k hx hn
        clear H0 H3 HA
        go_wp2_with (go_at_call 218; with_reducible refine (N _).mono ?_; rintro e w2 ⟨rfl, hw⟩; subst hw)
        go_ret
        exact ⟨rfl, rfl⟩
      · rw [hn] at N
        go_wp2_with (go_at_call 218; with_reducible refine (N _).mono ?_; rintro e w2 ⟨rfl, hw⟩; subst hw)
        go_roundw
        case rel => exact ⟨trivial, k + 1, by omega, by go_num, fun j h hj => by
          by_cases e : j = k
          · subst e; exact hn
          · exact HA.out j h (by omega)⟩
        case measure => simp [RowKit.intOf]; omega
    · obtain rfl := H0.out (fun j h => HA.out j h (by omega))
      clear H0 H3 HA
      go_wp2_with fail
      go_ret
      exact ⟨rfl, rfl⟩

theorem nmB_iff (l : List UInt8) : nmB l = true ↔ NmOk ⟨⟨l⟩⟩ := by
  unfold nmB NmOk
  have hsz : (⟨⟨l⟩⟩ : ByteArray).size = l.length := rfl
  have hat : ∀ k (h : k < (⟨⟨l⟩⟩ : ByteArray).size), (⟨⟨l⟩⟩ : ByteArray)[k]'h = l[k]'h := fun k h => rfl
  simp only [Bool.and_eq_true, decide_eq_true_eq, Bool.not_eq_true', List.all_eq_true]
  constructor
  · rintro ⟨h1, h2, h3, h4, h5⟩
    refine ⟨h1, h2, h4, fun k h => ⟨?_, fun e => ?_⟩⟩
    · rw [hat]; exact h5 _ (List.getElem_mem _)
    · subst e
      rw [hat]
      have : l.headD 48 = l[0]'h := by cases l with | nil => simp at h1 | cons a r => rfl
      rw [this] at h3
      exact h3
  · rintro ⟨h1, h2, h4, h5⟩
    refine ⟨h1, h2, ?_, h4, fun c hc => ?_⟩
    · have h := (h5 0 h1).2 rfl
      rw [hat] at h
      have : l.headD 48 = l[0]'h1 := by
        cases l with
        | nil => exact absurd h1 (by decide)
        | cons a r => rfl
      rw [this]
      exact h
    · obtain ⟨k, hk, rfl⟩ := List.getElem_of_mem hc
      exact (h5 k hk).1
/-- Name, over a list of letters. -/
theorem xname_any (l : List UInt8) (w : World) (hs : l.length ≤ 140737488351232) :
    Calls Tryz.prog 199 #[.string ⟨l.toArray⟩] w fun e w' => e = .returned (.int .i64 (if nmB l then 0 else 3)) ∧ w' = w := by
  refine name_any ⟨⟨l⟩⟩ _ w hs (fun h => ?_) (fun h => ?_)
  · rw [if_pos ((nmB_iff l).2 h)]
  · rw [if_neg (fun q => h ((nmB_iff l).1 q))]
end Go.Proofs.YtblkhlhhlalbkaaGreatDoor
