/- An accumulator of package agg in memory: plain mathematics of what is gathered, and where it lies. Conditions: none. -/
import Derived.Test.YtfcecblppdgcbaaCalcBin
import Derived.Test.YtfcecblppdgcbaaRefBinary
import Derived.Test.YtfcecblppdgcbaaEvRow
import Derived.Test.YtfcecblppdgcbaaRefCheck
import Derived.Test.YtfcecblppdgcbaaValOrder
import Derived.Test.YtfcecblppdgcbaaBoxMore
import Derived.BigQuiet
import Derived.StillTailTactics
import Derived.Deep.RegionWith
namespace Go.Proofs.Ytfcecblppdgcbaa
open Go.RowKit Go.Lib Go.Sort
set_option linter.unusedVariables false
set_option maxRecDepth 20000

/-- But for the blocks of a set, and new ones, nothing has turned. -/
structure Chg (F : Nat → Prop) (w w' : World) : Prop where
  os : w'.os = w.os
  tape : w'.tape = w.tape
  output : w'.output = w.output
  size : w.heap.size ≤ w'.heap.size
  block : ∀ k, k < w.heap.size → ¬ F k → w'.heap[k]? = w.heap[k]?
theorem Chg.refl (F : Nat → Prop) (w : World) : Chg F w w := ⟨rfl, rfl, rfl, Nat.le_refl _, fun _ _ _ => rfl⟩
theorem Chg.trans {F G : Nat → Prop} {a b c : World} (h : Chg F a b) (k : Chg G b c) (hG : ∀ j, j < a.heap.size → G j → F j) : Chg F a c :=
  ⟨k.os.trans h.os, k.tape.trans h.tape, k.output.trans h.output, Nat.le_trans h.size k.size,
   fun j hj hn => (k.block j (Nat.lt_of_lt_of_le hj h.size) (fun g => hn (hG j hj g))).trans (h.block j hj hn)⟩
theorem Chg.mono {F G : Nat → Prop} {a b : World} (h : Chg F a b) (hG : ∀ j, j < a.heap.size → F j → G j) : Chg G a b :=
  ⟨h.os, h.tape, h.output, h.size, fun j hj hn => h.block j hj (fun f => hn (hG j hj f))⟩
theorem Chg.of_below {F : Nat → Prop} {a b : World} (h : Below a.heap.size a b) : Chg F a b := ⟨h.os, h.tape, h.output, h.size, fun j hj _ => h.block j hj⟩
theorem Chg.below {F : Nat → Prop} {a b : World} {B : Nat} (h : Chg F a b) (hF : ∀ k, F k → B ≤ k) (hB : B ≤ a.heap.size) : Below B a b :=
  ⟨h.os, h.tape, h.output, h.size, fun j hj => h.block j (by omega) (fun f => by have := hF j f; omega)⟩
theorem Chg.alloc {F : Nat → Prop} {a w : World} (h : Chg F a w) (o : Obj) : Chg F a (w.alloc o) :=
  ⟨h.os, h.tape, h.output, by simp; have := h.size; omega, fun j hj hn => (Below.heap_alloc _ _ _ (Nat.lt_of_lt_of_le hj h.size)).trans (h.block j hj hn)⟩
theorem Chg.drew {F : Nat → Prop} {a w : World} (h : Chg F a w) : Chg F a w.drew := ⟨h.os, h.tape, h.output, h.size, h.block⟩
theorem Chg.setCell {F : Nat → Prop} {a w : World} (h : Chg F a w) {p : Addr} (hp : F p.block ∨ a.heap.size ≤ p.block) (u : Value) : Chg F a (w.setCell p u) :=
  ⟨h.os, h.tape, h.output, by simpa [World.setCell] using h.size, fun j hj hn => (Below.heap_setCell _ _ _ _ (by rintro rfl; rcases hp with hp | hp; exact hn hp; omega)).trans (h.block j hj hn)⟩
theorem Chg.grown {F : Nat → Prop} {a w w' : World} {row : Option Nat} (h : Chg F a w) (hg : w.grownBy w' row) (hr : ∀ k, row = some k → F k ∨ a.heap.size ≤ k) : Chg F a w' :=
  ⟨hg.os.trans h.os, hg.tape.trans h.tape, hg.output.trans h.output, Nat.le_trans h.size hg.size,
   fun j hj hn => (hg.block j (Nat.lt_of_lt_of_le hj h.size) (fun e => by rcases hr j e.symm with hr | hr; exact hn hr; omega)).trans (h.block j hj hn)⟩
theorem Chg.cell {F : Nat → Prop} {w w' : World} (h : Chg F w w') {p : Addr} {v : Value} (hc : w.cell? p = some v) (hn : ¬ F p.block) : w'.cell? p = some v :=
  (World.cell?_of_block (w := w) (h.block p.block (cell_lt hc) hn)).trans hc
theorem Chg.frozen {F : Nat → Prop} {w w' : World} (h : Chg F w w') {p : Addr} (hl : p.block < w.heap.size) (hn : ¬ F p.block) : w'.frozen? p = w.frozen? p :=
  World.frozen?_of_block (w := w) (h.block p.block hl hn)
theorem hid {p : Prop} (h : p) : Hid p := h
/-! ### What is gathered -/
def takV (op : Int) (h v : Val) : Ans :=
  if op = 1 then ⟨numV (h.n + 1), 0⟩ else
  if op = 2 then (if (binV 11 (if h.k = 0 then numV 0 else h) v).e = 0 then binV 11 (if h.k = 0 then numV 0 else h) v else ⟨h, (binV 11 (if h.k = 0 then numV 0 else h) v).e⟩) else
  if op = 3 then ⟨if h.k = 0 ∨ cmpV v h < 0 then v else h, 0⟩ else ⟨if h.k = 0 ∨ 0 < cmpV v h then v else h, 0⟩
def addV (op : Int) (rows : Bool) (h v : Val) : Ans := if v.k = 0 ∧ rows = false then ⟨h, 0⟩ else takV op h v
def zeroV (op : Int) : Val := if op = 1 then numV 0 else nullV

def sumL (L : List Val) : Val := L.foldl (fun s v => (binV 11 s v).v) (numV 0)
def bestV (op : Int) (m v : Val) : Val := if (op = 3 ∧ cmpV v m < 0) ∨ (op = 4 ∧ 0 < cmpV v m) then v else m
def bestL (op : Int) : List Val → Val
  | [] => nullV
  | x :: r => r.foldl (bestV op) x
def gatV (op : Int) (L : List Val) : Val := if op = 1 then numV L.length else if L = [] then nullV else if op = 2 then sumL L else bestL op L

theorem bin11 (a b : Val) : inR (binV 11 a b).v.n ∧ (binV 11 a b).v.s.size = 0 := by
  have hn : inR nullV.n ∧ nullV.s.size = 0 := ⟨by decide, rfl⟩
  unfold binV
  rw [if_neg (by omega)]
  split
  · exact hn
  · rw [if_neg (by omega), if_neg (by omega)]
    split
    · exact hn
    · rw [if_neg (by omega), if_neg (by omega)]
      unfold sumV
      rw [if_pos rfl]
      unfold over
      split
      · rename_i h; exact ⟨h, rfl⟩
      · exact hn
theorem sumL_good (L : List Val) : inR (sumL L).n ∧ (sumL L).s.size = 0 := by
  unfold sumL
  rcases List.eq_nil_or_concat L with rfl | ⟨l, x, rfl⟩
  · exact ⟨by show inR 0; decide, rfl⟩
  · rw [List.concat_eq_append, List.foldl_append]
    exact bin11 _ _

theorem sumL_snoc (L : List Val) (v : Val) : sumL (L ++ [v]) = (binV 11 (sumL L) v).v := by unfold sumL; rw [List.foldl_append]; rfl

/-! ### Where it lies -/
def tyG (op : Int) : TypeId := if op = 1 then 55 else if op = 2 then 58 else if op = 3 then 63 else 65
def GatB (w : World) (op : Int) (g : Nat) (h : Val) : Prop :=
  if op = 1 then w.cell? ⟨g, 0, none⟩ = some (.int .i64 h.n) ∧ w.frozen? ⟨g, 0, none⟩ = false ∧ h = numV h.n else Box w g h
/-- The project's accumulator at b, its gatherer at g. -/
structure PAc (w : World) (b g : Nat) (op : Int) (rows : Bool) (h : Val) : Prop where
  c0 : w.cell? ⟨b, 0, none⟩ = some (.iface (tyG op) (.pointer (some ⟨g, 0, none⟩)))
  c1 : w.cell? ⟨b, 1, none⟩ = some (.bool rows)
  gat : GatB w op g h
  ne : g ≠ b
theorem GatB.chg {F : Nat → Prop} {w w' : World} {op : Int} {g : Nat} {h : Val} (G : GatB w op g h) (C : Chg F w w') (hn : ¬ F g) : GatB w' op g h := by
  unfold GatB at *
  split
  · rename_i h1
    rw [if_pos h1] at G
    exact ⟨C.cell G.1 hn, by rw [C.frozen (cell_lt G.1) hn]; exact G.2.1, G.2.2⟩
  · rename_i h1
    rw [if_neg h1] at G
    obtain ⟨c0, c1, c2, f0, f1, f2⟩ := G
    refine ⟨C.cell c0 hn, C.cell c1 hn, C.cell c2 hn, ?_, ?_, ?_⟩
    · rw [C.frozen (cell_lt c0) hn]; exact f0
    · rw [C.frozen (cell_lt c1) hn]; exact f1
    · rw [C.frozen (cell_lt c2) hn]; exact f2
theorem GatB.lt {w : World} {op : Int} {g : Nat} {h : Val} (G : GatB w op g h) : g < w.heap.size := by
  unfold GatB at G
  split at G
  · exact cell_lt G.1
  · exact cell_lt G.1
theorem PAc.chg {F : Nat → Prop} {w w' : World} {b g : Nat} {op : Int} {rows : Bool} {h : Val} (P : PAc w b g op rows h) (C : Chg F w w') (hb : ¬ F b) (hg : ¬ F g) : PAc w' b g op rows h :=
  ⟨C.cell P.c0 hb, C.cell P.c1 hb, P.gat.chg C hg, P.ne⟩
theorem PAc.below {w w' : World} {b g : Nat} {op : Int} {rows : Bool} {h : Val} (P : PAc w b g op rows h) (B : Below w.heap.size w w') : PAc w' b g op rows h :=
  P.chg (F := fun _ => False) (Chg.of_below B) id id
theorem PAc.blt {w : World} {b g : Nat} {op : Int} {rows : Bool} {h : Val} (P : PAc w b g op rows h) : b < w.heap.size := cell_lt P.c0
theorem chg_box {w : World} {d : Nat} (x y z : Value) : Chg (· = d) w (((w.setCell ⟨d, 0, none⟩ x).setCell ⟨d, 1, none⟩ y).setCell ⟨d, 2, none⟩ z) :=
  have h0 : Chg (· = d) w w := Chg.refl _ _
  have h1 := h0.setCell (p := ⟨d, 0, none⟩) (Or.inl rfl) x
  have h2 := h1.setCell (p := ⟨d, 1, none⟩) (Or.inl rfl) y
  h2.setCell (p := ⟨d, 2, none⟩) (Or.inl rfl) z
/-- One draw more. -/
theorem below_drawn (W : World) : Below W.heap.size W { W with drawn := W.drawn + 1 } := ⟨rfl, rfl, rfl, Nat.le_refl _, fun _ _ => rfl⟩
end Go.Proofs.Ytfcecblppdgcbaa
