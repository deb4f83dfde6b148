/- Cells that are put together. No conditions. -/
import Derived.Test.YtilmlegkkgiahaaNHalvesWalk
namespace Go.Proofs.Ytilmlegkkgiahaa
open Go.RowKit Go.Lib Go.Sort
set_option linter.unusedVariables false
set_option maxRecDepth 20000

theorem Cls.row {w : World} {F : Nat → Prop} {g : Nat} : ∀ {l : List Cl} {off : Nat}, Cls w F (some ⟨g, off, none⟩) l → ∃ xs, CsR w F xs l ∧ ∀ j u, xs[j]? = some u → w.cell? ⟨g, off + j, none⟩ = some u
  | [], off, _ => ⟨[], trivial, fun j u h => by simp at h⟩
  | c :: r, off, h => by
    obtain ⟨g', off', e, hF, a, b, h0, h1, h2, h3, hR⟩ := h.at (i := 0) (by simp)
    simp only [Option.some.injEq, Addr.mk.injEq, and_true] at e
    obtain ⟨rfl, rfl⟩ := e
    have ht : Cls w F (some ⟨g, off + 1 * 4, none⟩) r := by
      cases r with
      | nil => exact Or.inl rfl
      | cons d s => exact Cls.drop (k := 1) h (by simp)
    obtain ⟨xs, hX, hx⟩ := Cls.row ht
    simp only [List.getElem_cons_zero, Nat.zero_mul, Nat.add_zero] at h0 h1 h2 h3 hR
    refine ⟨a :: b :: .int .i64 c.over :: .int .i64 c.size :: xs, ⟨hR, hX⟩, fun j u hu => ?_⟩
    match j, hu with
    | 0, hu => simp only [List.getElem?_cons_zero, Option.some.injEq] at hu; subst hu; exact h0
    | 1, hu => simp only [List.getElem?_cons_succ, List.getElem?_cons_zero, Option.some.injEq] at hu; subst hu; exact h1
    | 2, hu => simp only [List.getElem?_cons_succ, List.getElem?_cons_zero, Option.some.injEq] at hu; subst hu; exact h2
    | 3, hu => simp only [List.getElem?_cons_succ, List.getElem?_cons_zero, Option.some.injEq] at hu; subst hu; exact h3
    | j + 4, hu =>
      have := hx j u (by simpa using hu)
      rw [show off + (j + 4) = off + 1 * 4 + j by omega]
      exact this
/-- Cells that are put together, while all that was there stays. -/
structure Ac (W V : World) (b1 : Nat) (v : Value) (l : List Cl) : Prop where
  own : ∃ xs, V.ownsRow b1 58 4 v l.length xs ∧ CsR V (fun j => b1 ≤ j ∧ j < W.heap.size) xs l
  hi : ∀ j, v.ownBlock = some j → W.heap.size ≤ j ∧ j < V.heap.size
  bel : Below W.heap.size W V
theorem Ac.app {W V : World} {b1 : Nat} {v : Value} {l m : List Cl} (A : Ac W V b1 v l) {p : Option Addr} {q c : Nat} (ty : TypeId) (M : Cls W (b1 ≤ ·) p m) (hq : m.length = q) (hp : p = none → m.length = 0 ∧ c = 0) (hl : (l.length + m.length) * 64 ≤ 140737488351232) (hb : b1 ≤ W.heap.size) :
    ∃ v' w', (Builtin.append_ #[27, 27] ty #[v, .slice p q c]).run Try.prog V = .ok v' w' ∧ Ac W w' b1 v' (l ++ m) ∧ (∀ wx, Past wx v v' V w') := by
  subst hq
  have M1 : Cls W (fun j => b1 ≤ j ∧ j < W.heap.size) p m := M.mono (fun j hj h => ⟨h, hj⟩)
  have M2 : Cls V (fun j => b1 ≤ j ∧ j < W.heap.size) p m := M1.kp (Kp.of_belowN A.bel (fun j h => h.2))
  obtain ⟨xs, hX, hx⟩ : ∃ xs, CsR V (fun j => b1 ≤ j ∧ j < W.heap.size) xs m ∧ ∀ ad, p = some ad → ∀ j u, xs[j]? = some u → V.cell? (ad.add j) = some u := by
    rcases M2 with h | ⟨g, off, h, hh⟩
    · subst h
      exact ⟨[], trivial, fun ad e j u hu => by simp at hu⟩
    · subst h
      obtain ⟨xs, h1, h2⟩ := Cls.row (Or.inr ⟨g, off, rfl, hh⟩ : Cls V (fun j => b1 ≤ j ∧ j < W.heap.size) (some ⟨g, off, none⟩) m)
      refine ⟨xs, h1, fun ad e j u hu => ?_⟩
      simp only [Option.some.injEq] at e
      subst e
      rw [add_cell]
      exact h2 j u hu
  obtain ⟨ys, h1, h2⟩ := A.own
  have hs := A.bel.size
  obtain ⟨v', w', hr, a1, a2, a3⟩ := run_appG 27 ty 58 _ 4 64 Try.underlying27 infoCl rfl (by decide) b1 v _ _ h1 p m.length c xs hX.len hp hx hX.one (by unfold maxLen; omega) (by omega) (Nat.le_trans hb hs)
  have P := past_of a2 a3
  have P0 := P V.heap.size
  refine ⟨v', w', hr, ⟨⟨ys ++ xs, by rw [List.length_append]; exact a1, ?_⟩, fun j e => ⟨?_, (a1.lt j e).2⟩, ?_⟩, P⟩
  · exact (h2.append hX).kp (Kp.of_grown a2 (fun j hj e => by have := (A.hi j e).1; omega))
  · by_cases h : W.heap.size ≤ j
    · exact h
    · exact absurd e (P0.own j (by omega) (fun e' => h (A.hi j e').1))
  · exact A.bel.trans ⟨P0.os, P0.tape, P0.output, P0.size, fun j hj => P0.block j (by omega) (by omega) (fun e => by have := (A.hi j e).1; omega)⟩
theorem Ac.put4 {W V : World} {b1 bb : Nat} {v : Value} {l : List Cl} (A : Ac W V b1 v l) (hne : v.ownBlock ≠ some bb) (hb : W.heap.size ≤ bb) (y0 y1 y2 y3 : Value) : Ac W ((((V.setCell ⟨bb, 0, none⟩ y0).setCell ⟨bb, 1, none⟩ y1).setCell ⟨bb, 2, none⟩ y2).setCell ⟨bb, 3, none⟩ y3) b1 v l := by
  have C := chg4 V bb y0 y1 y2 y3
  obtain ⟨xs, h1, h2⟩ := A.own
  exact ⟨⟨xs, rows_same h1 (fun j hj => C.block j (h1.lt j hj).2 (fun e => hne (by rw [← show j = bb from e]; exact hj))), h2.kp (Kp.of_chg C (fun j hj e => by have := hj.2; have e' : j = bb := e; omega))⟩, fun j e => ⟨(A.hi j e).1, Nat.lt_of_lt_of_le (A.hi j e).2 C.size⟩, bel_put4 A.bel hb y0 y1 y2 y3⟩
theorem Ac.csv {W V : World} {b1 : Nat} {v : Value} {l : List Cl} (A : Ac W V b1 v l) (hl : l.length * 64 ≤ 140737488351232) : CsV V (b1 ≤ ·) v l := by
  obtain ⟨xs, h1, h2⟩ := A.own
  exact OwnC.csv (e := 58) (w := V) (base := b1) ⟨xs, h1, h2.mono (fun j _ h => ⟨h.1, fun e => by have := (A.hi j e).1; have := h.2; omega⟩)⟩ hl
section
variable {ops : Array Oper} {o : Oper} {a : Act} {K : Act → World → Prop} {Q : Exit → Act → World → Prop} {E : Prop} {s y : Operand}
theorem stAc {W V : World} {b1 : Nat} {v : Value} {l m : List Cl} {p : Option Addr} {q c : Nat} (A : Ac W V b1 v l) (M : Cls W (b1 ≤ ·) p m) (hq : m.length = q) (hp : p = none → m.length = 0 ∧ c = 0) (hl : (l.length + m.length) * 64 ≤ 140737488351232) (hb : b1 ≤ W.heap.size)
    (hgd : o.guard = none) (ho : o.op = .call { callee := .builtin .append, args := #[s, y], argTypes := #[27, 27] }) (hs : a.eval s = v) (hx : a.eval y = .slice p q c)
    (h : ∀ v' w', Ac W w' b1 v' (l ++ m) → (∀ wx, Past wx v v' V w') → K (a.put o.dst v') w') : if Region.wanted o (yielded ops a.tmps) = true then Oper.wp Try.prog o a V K Q else E := by
  obtain ⟨v', w', hr, h1, h2⟩ := A.app o.type M hq hp hl hb
  exact st_run hgd ho hs hx hr (h v' w' h1 h2)
end
theorem Ac.start {W V : World} {b1 : Nat} (hb : b1 ≤ W.heap.size) (B : Below W.heap.size W V) : Ac W (V.alloc (.cells #[] 58)) b1 (.slice (some ⟨V.heap.size, 0, none⟩) 0 0) [] :=
  ⟨⟨[], World.ownsRow_made (base := b1) (e := 58) (size := 4) V #[] 0 (Nat.le_trans hb B.size) (Nat.zero_le _) rfl, trivial⟩, fun j e => by simp only [Value.ownBlock, Option.some.injEq] at e; have := B.size; exact ⟨by omega, by simp; omega⟩, B.alloc B.size _⟩
theorem Ac.to {W V V' : World} {b1 : Nat} {v : Value} {l : List Cl} (A : Ac W V b1 v l) (B : Below V.heap.size V V') : Ac W V' b1 v l := by
  obtain ⟨xs, h1, h2⟩ := A.own
  exact ⟨⟨xs, rows_same h1 (fun j hj => B.block j (h1.lt j hj).2), h2.kp (Kp.of_below B)⟩, fun j e => ⟨(A.hi j e).1, Nat.lt_of_lt_of_le (A.hi j e).2 B.size⟩, A.bel.trans (B.mono A.bel.size)⟩
theorem Ac.form {W V : World} {b1 : Nat} {v : Value} {l : List Cl} (A : Ac W V b1 v l) (n : Nat) (hn : l.length = n) : ∃ p c, v = .slice p n c := by
  subst hn
  obtain ⟨xs, h1, _⟩ := A.own
  obtain ⟨p, c, h, _⟩ := row_form h1
  exact ⟨p, c, h⟩
theorem Ac.out {W V : World} {b1 : Nat} {v : Value} {l : List Cl} (A : Ac W V b1 v l) (b : Nat) (hb : ¬ b < V.heap.size) : v.ownBlock ≠ some b := fun e => hb (A.hi b e).2
theorem own_ne {V : World} {bb : Nat} (h : bb < V.heap.size) : (Value.slice (some ⟨V.heap.size, 0, none⟩) 0 0).ownBlock ≠ some bb := fun e => by simp only [Value.ownBlock, Option.some.injEq] at e; omega
end Go.Proofs.Ytilmlegkkgiahaa
