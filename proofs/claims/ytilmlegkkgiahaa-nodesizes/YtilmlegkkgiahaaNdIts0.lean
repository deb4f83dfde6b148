/- Rows of kids, cells and keys that grow while a region draws its order. No conditions. -/
import Derived.Test.YtilmlegkkgiahaaNdGrow
import Derived.Deep.CutRange
import Derived.Deep.RegionHeld3
namespace Go.Proofs.Ytilmlegkkgiahaa
open Go.RowKit Go.Lib
set_option linter.unusedVariables false
set_option maxRecDepth 20000

theorem own_emptyD (w : World) (base : Nat) (hb : base ≤ w.heap.size) (g : Nat) (hg : g = w.heap.size) : OwnD (w.alloc (.cells #[] 3)) base (.slice (some ⟨g, 0, none⟩) 0 0) [] := by
  subst hg
  exact World.ownsRow_made (base := base) (e := 3) (size := 1) w #[] 0 hb (Nat.zero_le _) rfl
theorem OwnD.bel {w w' : World} {base : Nat} {v : Value} {l : List Int} (o : OwnD w base v l) (B : Below w.heap.size w w') : OwnD w' base v l := rows_same o (fun k hk => B.block k (o.lt k hk).2)
theorem OwnD.alc {w : World} {base : Nat} {v : Value} {l : List Int} (o : OwnD w base v l) (x : Obj) : OwnD (w.alloc x) base v l := o.bel (alloc_below w x)
theorem OwnD.drw {w : World} {base : Nat} {v : Value} {l : List Int} (o : OwnD w base v l) : OwnD w.drew base v l := o.bel ((Below.refl _ _).drew)
theorem rows_mono {w : World} {b b' : Nat} {e : TypeId} {size : Nat} {v : Value} {n : Nat} {xs : List Value} (h : w.ownsRow b e size v n xs) (hb : b' ≤ b) : w.ownsRow b' e size v n xs := by
  obtain ⟨h1, h2⟩ := h
  refine ⟨h1, ?_⟩
  rcases h2 with h2 | ⟨g, cap, cur, hv, hg, r⟩
  · exact Or.inl h2
  · exact Or.inr ⟨g, cap, cur, hv, Nat.le_trans hb hg, r⟩
theorem OwnD.mono {w : World} {b b' : Nat} {v : Value} {l : List Int} (h : OwnD w b v l) (hb : b' ≤ b) : OwnD w b' v l := rows_mono h hb
theorem OwnC.bel {e : TypeId} {w w' : World} {base : Nat} {v : Value} {l : List Cl} (o : OwnC e w base v l) (B : Below w.heap.size w w') : OwnC e w' base v l := o.kp (Kp.of_below B)
theorem OwnK.bel {w w' : World} {base : Nat} {v : Value} {l : List (List UInt8)} (o : OwnK w base v l) (B : Below w.heap.size w w') : OwnK w' base v l := o.kp (Kp.of_below B)
section
variable {ops : Array Oper} {o : Oper} {a : Act} {w : World} {K : Act → World → Prop} {Q : Exit → Act → World → Prop} {E : Prop} {s y : Operand} {base : Nat} {v vx : Value}
theorem stDs {F : Nat → Prop} {l m : List Int} (O : OwnD w base v l) (X : DsV w F vx m) (hgd : o.guard = none) (ho : o.op = .call { callee := .builtin .append, args := #[s, y], argTypes := #[24, 24] }) (hs : a.eval s = v) (hx : a.eval y = vx)
    (hl : (l.length + m.length) * 8 ≤ 140737488351232) (hb : base ≤ w.heap.size)
    (h : ∀ v' w', OwnD w' base v' (l ++ m) → (∀ wx, Past wx v v' w w') → Below base w w' → K (a.put o.dst v') w') : if Region.wanted o (yielded ops a.tmps) = true then Oper.wp Try.prog o a w K Q else E := by
  obtain ⟨v', w', hr, h1, h2, h3⟩ := run_appDs o.type O X hl hb
  exact st_run hgd ho hs hx hr (h v' w' h1 h2 h3)
theorem stD {l : List Int} {n : Int} {g c : Nat} (O : OwnD w base v l) (X : w.cell? ⟨g, 0, none⟩ = some (.int .i64 n)) (hgd : o.guard = none) (ho : o.op = .call { callee := .builtin .append, args := #[s, y], argTypes := #[24, 24] }) (hs : a.eval s = v) (hx : a.eval y = .slice (some ⟨g, 0, none⟩) 1 c)
    (hl : (l.length + 1) * 8 ≤ 140737488351232) (hb : base ≤ w.heap.size)
    (h : ∀ v' w', OwnD w' base v' (l ++ [n]) → (∀ wx, Past wx v v' w w') → Below base w w' → K (a.put o.dst v') w') : if Region.wanted o (yielded ops a.tmps) = true then Oper.wp Try.prog o a w K Q else E := by
  obtain ⟨v', w', hr, h1, h2, h3⟩ := run_appD o.type O g c X hl hb
  exact st_run hgd ho hs hx hr (h v' w' h1 h2 h3)
theorem stK {l : List (List UInt8)} {k : List UInt8} {x : Value} {g c : Nat} (O : OwnK w base v l) (X : w.cell? ⟨g, 0, none⟩ = some x) (R : BV w (own' base v) x k) (hgd : o.guard = none) (ho : o.op = .call { callee := .builtin .append, args := #[s, y], argTypes := #[23, 23] }) (hs : a.eval s = v) (hx : a.eval y = .slice (some ⟨g, 0, none⟩) 1 c)
    (hl : (l.length + 1) * 24 ≤ 140737488351232) (hb : base ≤ w.heap.size)
    (h : ∀ v' w', OwnK w' base v' (l ++ [k]) → (∀ wx, Past wx v v' w w') → Below base w w' → K (a.put o.dst v') w') : if Region.wanted o (yielded ops a.tmps) = true then Oper.wp Try.prog o a w K Q else E := by
  obtain ⟨v', w', hr, h1, h2, h3⟩ := run_appK o.type O g c X R hl hb
  exact st_run hgd ho hs hx hr (h v' w' h1 h2 h3)
end
/-- One cell onto owned ones: the literal lies in a block of its own. -/
theorem run_appC {w : World} (t ty e : TypeId) (ht : Try.prog.underlying t = some (.slice e)) (hi : (Try.prog.info? e).map (fun i => (i.zero, i.size, i.bytes)) = some (some (.agg #[.slice none 0 0, .slice none 0 0, .int .i64 0, .int .i64 0]), 4, 64)) {base : Nat} {v : Value} {l : List Cl} {c : Cl} {xa xb : Value} (O : OwnC e w base v l)
    (g cp : Nat) (X : Bx w g xa xb (.int .i64 c.over) (.int .i64 c.size)) (R : CR w (own' base v) c xa xb (.int .i64 c.over) (.int .i64 c.size)) (hl : (l.length + 1) * 64 ≤ 140737488351232) (hb : base ≤ w.heap.size) :
    ∃ v' w', (Builtin.append_ #[t, t] ty #[v, .slice (some ⟨g, 0, none⟩) 1 cp]).run Try.prog w = .ok v' w' ∧ OwnC e w' base v' (l ++ [c]) ∧ (∀ wx, Past wx v v' w w') ∧ Below base w w' := by
  refine run_appCs t ty e ht hi (m := [c]) O (some ⟨g, 0, none⟩) cp [xa, xb, .int .i64 c.over, .int .i64 c.size] (fun h => by cases h) ⟨R, trivial⟩ ?_ hl hb
  intro ad e j u hu
  obtain rfl := Option.some.inj e
  rw [add_cell]
  match j, hu with
  | 0, hu => simp only [List.getElem?_cons_zero, Option.some.injEq] at hu; subst hu; exact X.c0
  | 1, hu => simp only [List.getElem?_cons_succ, List.getElem?_cons_zero, Option.some.injEq] at hu; subst hu; exact X.c1
  | 2, hu => simp only [List.getElem?_cons_succ, List.getElem?_cons_zero, Option.some.injEq] at hu; subst hu; exact X.c2
  | 3, hu => simp only [List.getElem?_cons_succ, List.getElem?_cons_zero, Option.some.injEq] at hu; subst hu; exact X.c3
  | j + 4, hu => simp at hu
section
variable {ops : Array Oper} {o : Oper} {a : Act} {w : World} {K : Act → World → Prop} {Q : Exit → Act → World → Prop} {E : Prop} {s y : Operand} {base : Nat} {v vx : Value}
theorem stC (t e : TypeId) (ht : Try.prog.underlying t = some (.slice e)) (hi : (Try.prog.info? e).map (fun i => (i.zero, i.size, i.bytes)) = some (some (.agg #[.slice none 0 0, .slice none 0 0, .int .i64 0, .int .i64 0]), 4, 64)) {l : List Cl} {c : Cl} {xa xb : Value} {g cp : Nat} (O : OwnC e w base v l)
    (X : Bx w g xa xb (.int .i64 c.over) (.int .i64 c.size)) (R : CR w (own' base v) c xa xb (.int .i64 c.over) (.int .i64 c.size)) (hgd : o.guard = none) (ho : o.op = .call { callee := .builtin .append, args := #[s, y], argTypes := #[t, t] }) (hs : a.eval s = v) (hx : a.eval y = .slice (some ⟨g, 0, none⟩) 1 cp)
    (hl : (l.length + 1) * 64 ≤ 140737488351232) (hb : base ≤ w.heap.size)
    (h : ∀ v' w', OwnC e w' base v' (l ++ [c]) → (∀ wx, Past wx v v' w w') → Below base w w' → K (a.put o.dst v') w') : if Region.wanted o (yielded ops a.tmps) = true then Oper.wp Try.prog o a w K Q else E := by
  obtain ⟨v', w', hr, h1, h2, h3⟩ := run_appC t o.type e ht hi O g cp X R hl hb
  exact st_run hgd ho hs hx hr (h v' w' h1 h2 h3)
end
/-- A struct of four cells that may be written. -/
structure Bw (w : World) (b : Nat) (x0 x1 x2 x3 : Value) : Prop where
  bx : Bx w b x0 x1 x2 x3
  fz : ∀ o, w.frozen? ⟨b, o, none⟩ = false
theorem Bw.lt {w : World} {b : Nat} {x0 x1 x2 x3 : Value} (h : Bw w b x0 x1 x2 x3) : b < w.heap.size := cell_lt h.bx.c0
theorem Bw.same {w w' : World} {b : Nat} {x0 x1 x2 x3 : Value} (h : Bw w b x0 x1 x2 x3) (e : w'.heap[b]? = w.heap[b]?) : Bw w' b x0 x1 x2 x3 :=
  ⟨⟨(World.cell?_of_block (w := w) (a := ⟨b, 0, none⟩) e).trans h.bx.c0, (World.cell?_of_block (w := w) (a := ⟨b, 1, none⟩) e).trans h.bx.c1, (World.cell?_of_block (w := w) (a := ⟨b, 2, none⟩) e).trans h.bx.c2, (World.cell?_of_block (w := w) (a := ⟨b, 3, none⟩) e).trans h.bx.c3⟩,
   fun o => (World.frozen?_of_block (w := w) (a := ⟨b, o, none⟩) e).trans (h.fz o)⟩
theorem Bw.bel {w w' : World} {b : Nat} {x0 x1 x2 x3 : Value} (h : Bw w b x0 x1 x2 x3) (B : Below w.heap.size w w') : Bw w' b x0 x1 x2 x3 := h.same (B.block b h.lt)
theorem Bw.alc {w : World} {b : Nat} {x0 x1 x2 x3 : Value} (h : Bw w b x0 x1 x2 x3) (o : Obj) : Bw (w.alloc o) b x0 x1 x2 x3 := h.bel (alloc_below w o)
theorem Bw.new (w : World) (x0 x1 x2 x3 : Value) (t : TypeId) : Bw (w.alloc (.cells #[x0, x1, x2, x3] t)) w.heap.size x0 x1 x2 x3 := ⟨Bx.new w x0 x1 x2 x3 t, fun o => frozen_of_row _ _ o _ _ (heap_alloc_new w _)⟩
theorem Bw.set1 {w : World} {b : Nat} {x0 x1 x2 x3 : Value} (h : Bw w b x0 x1 x2 x3) (y : Value) : Bw (w.setCell ⟨b, 1, none⟩ y) b x0 y x2 x3 := by
  obtain ⟨⟨c0, c1, c2, c3⟩, f⟩ := h
  refine ⟨⟨?_, ?_, ?_, ?_⟩, fun o => ?_⟩ <;> simp [go_sem, c0, c1, c2, c3, f]
theorem Bw.set2 {w : World} {b : Nat} {x0 x1 x2 x3 : Value} (h : Bw w b x0 x1 x2 x3) (y : Value) : Bw (w.setCell ⟨b, 2, none⟩ y) b x0 x1 y x3 := by
  obtain ⟨⟨c0, c1, c2, c3⟩, f⟩ := h
  refine ⟨⟨?_, ?_, ?_, ?_⟩, fun o => ?_⟩ <;> simp [go_sem, c0, c1, c2, c3, f]
theorem Bw.set3 {w : World} {b : Nat} {x0 x1 x2 x3 : Value} (h : Bw w b x0 x1 x2 x3) (y : Value) : Bw (w.setCell ⟨b, 3, none⟩ y) b x0 x1 x2 y := by
  obtain ⟨⟨c0, c1, c2, c3⟩, f⟩ := h
  refine ⟨⟨?_, ?_, ?_, ?_⟩, fun o => ?_⟩ <;> simp [go_sem, c0, c1, c2, c3, f]
theorem Bw.past {w w' : World} {b : Nat} {x0 x1 x2 x3 v v' : Value} (h : Bw w b x0 x1 x2 x3) (P : ∀ wx, Past wx v v' w w') (hn : v.ownBlock ≠ some b) : Bw w' b x0 x1 x2 x3 := h.same ((P w.heap.size).block b h.lt (Nat.ne_of_lt h.lt) hn)
end Go.Proofs.Ytilmlegkkgiahaa
