/- A row of bytes that grows while a region draws its order: what stays, from step to step. Conditions: the node lies within the reach. -/
import Derived.Test.YtilmlegkkgiahaaNdPiece
import Derived.Test.YtilmlegkkgiahaaNdRCheck
import Derived.Deep.RegionHeldLaw
namespace Go.Proofs.Ytilmlegkkgiahaa
open Go.RowKit Go.Lib
set_option linter.unusedVariables false
set_option maxRecDepth 20000


theorem BV.past {w w' : World} {base : Nat} {v v' x : Value} {m : List UInt8} (h : BV w (own' base v) x m) (P : ∀ wx, Past wx v v' w w') : BV w' (own' base v') x m := by
  have P0 := P w.heap.size
  have h1 : BV w (fun k => own' base v k ∧ own' base v' k) x m := h.mono (fun k hk hF => ⟨hF, hF.1, P0.own k hk hF.2⟩)
  exact (h1.kp (fun k hk hF => P0.block k hk (Nat.ne_of_lt hk) hF.1.2)).mono (fun k _ hF => hF.2)
/-- The row v0 of the world W has become v, in the world w; a key lies elsewhere. -/
structure RS (W : World) (v0 : Value) (base : Nat) (kv : Value) (key : List UInt8) (w : World) (v : Value) (l : List UInt8) : Prop where
  own : OwnB w base v l
  key : BV w (fun k => v.ownBlock ≠ some k) kv key
  pst : Past W.heap.size v0 v W w
  le : base ≤ w.heap.size
theorem Past.bel {wb : Nat} {v v' : Value} {w a b : World} (h : Past wb v v' w a) (B : Below a.heap.size a b) : Past wb v v' w b :=
  ⟨B.os.trans h.os, B.tape.trans h.tape, B.output.trans h.output, Nat.le_trans h.size B.size, fun k hk hn ho => (B.block k (Nat.lt_of_lt_of_le hk h.size)).trans (h.block k hk hn ho), h.own⟩
theorem OwnB.bel {w w' : World} {base : Nat} {v : Value} {l : List UInt8} (o : OwnB w base v l) (B : Below w.heap.size w w') : OwnB w' base v l := rows_same o (fun k hk => B.block k (o.lt k hk).2)
section
variable {W w w' : World} {v0 v kv : Value} {base : Nat} {key l : List UInt8}
theorem RS.start (O : OwnB W base v0 l) (K : BV W (fun k => v0.ownBlock ≠ some k) kv key) (hb : base ≤ W.heap.size) : RS W v0 base kv key W v0 l := ⟨O, K, Past.refl _ _ _, hb⟩
theorem RS.bel (R : RS W v0 base kv key w v l) (B : Below w.heap.size w w') : RS W v0 base kv key w' v l := ⟨R.own.bel B, R.key.below B, R.pst.bel B, Nat.le_trans R.le B.size⟩
theorem RS.alc (R : RS W v0 base kv key w v l) (o : Obj) : RS W v0 base kv key (w.alloc o) v l := R.bel (alloc_below w o)
theorem RS.drw (R : RS W v0 base kv key w v l) : RS W v0 base kv key w.drew v l := R.bel ((Below.refl _ _).drew)
theorem RS.cell (R : RS W v0 base kv key w v l) {b o : Nat} {x : Value} (h : W.cell? ⟨b, o, none⟩ = some x) (hn : v0.ownBlock ≠ some b) : w.cell? ⟨b, o, none⟩ = some x := R.pst.cell h (Nat.ne_of_lt (cell_lt h)) hn
theorem RS.lit (R : RS W v0 base kv key w v l) (m : List UInt8) (cs : Array Value) (hc : cs.toList = bcells m) (hm : m.length ≤ 1000) (n g : Nat) (hn : m.length = n) (hg : g = w.heap.size) : BV (w.alloc (.cells cs 5)) (own' base v) (.slice (some ⟨g, 0, none⟩) n n) m := by
  subst hn hg
  refine ((own_lits w w.heap.size (Nat.le_refl _) m cs hc (by unfold maxLen; omega)).bv (by omega)).mono (fun k hk hF => ⟨by have := R.le; omega, fun e => ?_⟩)
  have := (R.own.lt k e).2
  omega
theorem RS.two (R : RS W v0 base kv key w v l) (N : Nat) (hN : N < 65536) : Calls Try.prog 28 #[.int .i64 (N : Int)] w fun e w' => ∃ vt, e = .returned vt ∧ RS W v0 base kv key w' v l ∧ BV w' (own' base v) vt (le2 N) ∧ Below w.heap.size w w' := by
  refine (two_any N w hN).mono ?_
  rintro e w' ⟨vt, he, ot, bt⟩
  exact ⟨vt, he, R.bel bt, (ot.bv (by simp [le2])).mono (fun k hk hF => ⟨by have := R.le; omega, fun e => by have := (R.own.lt k e).2; omega⟩), bt⟩
theorem RS.twoL (R : RS W v0 base kv key w v l) (N : Nat) (hN : N < 65536) {x : Value} {m : List UInt8} (X : BV w (own' base v) x m) : Calls Try.prog 28 #[.int .i64 (N : Int)] w fun e w' => ∃ vt, e = .returned vt ∧ RS W v0 base kv key w' v l ∧ BV w' (own' base v) vt (le2 N) ∧ BV w' (own' base v) x m := by
  refine (R.two N hN).mono ?_
  rintro e w' ⟨vt, he, R', T, B⟩
  exact ⟨vt, he, R', T, X.below B⟩
theorem RS.run (R : RS W v0 base kv key w v l) (ty : TypeId) {x : Value} {m : List UInt8} {F : Nat → Prop} (X : BV w F x m) (hl : l.length + m.length ≤ 1000000) :
    ∃ v' w', (Builtin.append_ #[31, 31] ty #[v, x]).run Try.prog w = .ok v' w' ∧ RS W v0 base kv key w' v' (l ++ m) ∧ (∀ y k, BV w (own' base v) y k → BV w' (own' base v') y k) := by
  obtain ⟨v', w', hr, O', P', B'⟩ := run_appY ty R.own X (by omega) R.le
  have P0 := P' w.heap.size
  refine ⟨v', w', hr, ⟨O', ?_, ?_, Nat.le_trans R.le P0.size⟩, fun y k h => h.past P'⟩
  · have h1 : BV w (fun k => v.ownBlock ≠ some k ∧ v'.ownBlock ≠ some k) kv key := R.key.mono (fun k hk hF => ⟨hF, P0.own k hk hF⟩)
    exact (h1.kp (fun k hk hF => P0.block k hk (Nat.ne_of_lt hk) hF.1)).mono (fun k _ hF => hF.2)
  · exact R.pst.trans (P' W.heap.size)
/-- At a step of a region. -/
theorem RS.step {ops : Array Oper} {o : Oper} {a : Act} {K : Act → World → Prop} {Q : Exit → Act → World → Prop} {E : Prop} {s y : Operand} (R : RS W v0 base kv key w v l) {x : Value} {m : List UInt8} {F : Nat → Prop} (X : BV w F x m) (hgd : o.guard = none)
    (ho : o.op = .call { callee := .builtin .append, args := #[s, y], argTypes := #[31, 31] }) (hs : a.eval s = v) (hx : a.eval y = x) (hl : l.length + m.length ≤ 1000000)
    (h : ∀ v' w', RS W v0 base kv key w' v' (l ++ m) → (∀ y k, BV w (own' base v) y k → BV w' (own' base v') y k) → K (a.put o.dst v') w') :
    if Region.wanted o (yielded ops a.tmps) = true then Oper.wp Try.prog o a w K Q else E := by
  obtain ⟨v', w', hr, R', P'⟩ := R.run o.type X hl
  exact st_run hgd ho hs hx hr (h v' w' R' P')
/-- In a plain region. -/
theorem RS.plain {ops : Array Oper} {rest : List Oper} {o : Oper} {a : Act} {Q : Exit → Act → World → Prop} {s y : Operand} (R : RS W v0 base kv key w v l) {x : Value} {m : List UInt8} {F : Nat → Prop} (X : BV w F x m) (hgd : o.guard = none)
    (ho : o.op = .call { callee := .builtin .append, args := #[s, y], argTypes := #[31, 31] }) (hs : a.eval s = v) (hx : a.eval y = x) (hl : l.length + m.length ≤ 1000000)
    (h : ∀ v' w', RS W v0 base kv key w' v' (l ++ m) → wpList Try.prog ops Q rest (a.put o.dst v') w') : wpList Try.prog ops Q (o :: rest) a w := by
  obtain ⟨v', w', hr, R', P'⟩ := R.run o.type X hl
  exact wl_run hgd ho hs hx hr (h v' w' R')
end
theorem OwnB.formN {w : World} {base : Nat} {v : Value} {l : List UInt8} (o : OwnB w base v l) (n : Nat) (hn : l.length = n) : ∃ p c, v = .slice p n c := by
  subst hn
  obtain ⟨p, c, h, _⟩ := o.form
  exact ⟨p, c, h⟩
theorem RS.under {W w : World} {v0 v kv : Value} {base : Nat} {key l : List UInt8} (R : RS W v0 base kv key w v l) (hb : base ≤ W.heap.size) (h0 : ∀ k, v0.ownBlock = some k → base ≤ k) : Below base W w :=
  ⟨R.pst.os, R.pst.tape, R.pst.output, R.pst.size, fun k hk => R.pst.block k (by omega) (by omega) (fun e => by have := h0 k e; omega)⟩
end Go.Proofs.Ytilmlegkkgiahaa
