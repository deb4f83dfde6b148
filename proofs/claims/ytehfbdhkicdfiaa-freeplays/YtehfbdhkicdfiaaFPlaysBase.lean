/- Copies of numbers; rows of numbers that are turned: what the walk of FreePlays uses. Condition: the numbers that are copied lie within the reach. -/
import Derived.Test.YtehfbdhkicdfiaaFrTwo
import Derived.Test.YtehfbdhkicdfiaaFrOpen
import Derived.Laws.AppendOwnNone
namespace Go.Proofs.Ytehfbdhkicdfiaa
open Go.RowKit
set_option linter.unusedVariables false
set_option maxRecDepth 20000

theorem Ints.cells {w : World} {p : Option Addr} {l : List Int} (h : Ints w p l) : ∀ ad, p = some ad → ∀ j u, (icells l)[j]? = some u → w.cell? (ad.add j) = some u := by
  intro ad hp j u hu
  rcases h with h | ⟨b, off, hp', hc⟩
  · subst h; simp [icells] at hu
  · rw [hp'] at hp
    obtain rfl := Option.some.inj hp
    rw [Addr.add_mid]
    have hj : j < l.length := by
      have := (List.getElem?_eq_some_iff.1 hu).1
      simpa [icells] using this
    rw [icells_at hj] at hu
    simp only [Option.some.injEq] at hu
    rw [← hu]
    exact hc j hj
/-- append([]int{}, l...): a copy of numbers. -/
theorem copyI {ops : Array Oper} {rest : List Oper} {o : Oper} {a : Act} {Q : Exit → Act → World → Prop} (w0 : World) (g : Nat) (s x : Operand) (p : Option Addr) (l : List Int) (c : Nat) (hgd : o.guard = none)
    (ho : o.op = .call { callee := .builtin .append, args := #[s, x], argTypes := #[27, 27] })
    (hg : g = w0.heap.size) (hs : a.eval s = .slice (some ⟨g, 0, none⟩) 0 0) (hx : a.eval x = .slice p l.length c)
    (hp : p = none → l.length = 0 ∧ c = 0) (rX : Ints w0 p l) (hb : l.length * 8 ≤ 140737488351232)
    (h : ∀ v' w', OwnI w' w0.heap.size v' l → Below w0.heap.size w0 w' → wpList Try.prog ops Q rest (a.put o.dst v') w') :
    wpList Try.prog ops Q (o :: rest) a (w0.alloc (.cells #[] 3)) := by
  obtain ⟨i0, hi, hz0, hz1, hz2⟩ := info_parts infoInt
  subst hg
  have own : OwnI (w0.alloc (.cells #[] 3)) w0.heap.size (.slice (some ⟨w0.heap.size, 0, none⟩) 0 0) [] := World.ownsRow_made w0 #[] 0 (Nat.le_refl _) (Nat.zero_le _) rfl
  have hbl : Below w0.heap.size w0 (w0.alloc (.cells #[] 3)) := (Below.refl _ _).alloc (Nat.le_refl _) _
  cases p with
  | none =>
    obtain ⟨h0, rfl⟩ := hp rfl
    obtain rfl : l = [] := List.length_eq_zero_iff.1 h0
    exact wpList_append_own_none hgd s x 27 ho w0.heap.size 3 i0 1 Try.underlying27 hi _ _ _ hs own hx (h _ _ own hbl)
  | some ad =>
    refine wpList_append_own _ hgd s x 27 ho w0.heap.size 3 i0 _ 1 8 Try.underlying27 hi hz0 hz1 hz2 rfl (by decide) _ _ _ hs own ad l.length c (icells l) hx (by simp [icells]) ((rX.below hbl).cells ad rfl) (icells_one l) (by unfold maxLen; simp only [List.length_nil]; omega) (by simp only [List.length_nil]; omega) (by simp) ?_
    intro v' w' h2 h3 _
    refine h v' w' ?_ (hbl.grown h3 (by simp) (fun k hk => (own.lt k hk).1))
    have e : icells [] ++ icells l = icells l := rfl
    rw [e] at h2
    unfold OwnI
    simpa using h2
/-- A row of numbers at a block. -/
def RowI (w : World) (g : Nat) (l : List Int) : Prop := ∃ cur t, w.heap[g]? = some (.cells cur t (0, 0)) ∧ cur.toList.take l.length = icells l
theorem OwnI.parts {w : World} {base : Nat} {v : Value} {l : List Int} (o : OwnI w base v l) : ∃ p c, v = .slice p l.length c ∧ Ints w p l ∧ (∀ b off, p = some ⟨b, off, none⟩ → base ≤ b) ∧ (0 < l.length → ∃ b, p = some ⟨b, 0, none⟩ ∧ RowI w b l) := by
  obtain ⟨p, c, e, hi, hb⟩ := o.ints
  refine ⟨p, c, e, hi, hb, fun h0 => ?_⟩
  rcases o.2 with ⟨_, h1⟩ | ⟨g, cap, cur, hv, hg, hh, hle, hm, hs, ht⟩
  · omega
  · rw [e] at hv
    simp only [Value.slice.injEq] at hv
    refine ⟨g, hv.1, cur, _, hh, ?_⟩
    rw [Nat.mul_one] at ht
    exact ht
theorem RowI.at {w : World} {g : Nat} {l : List Int} (h : RowI w g l) {i : Nat} (hi : i < l.length) : w.cell? ⟨g, i, none⟩ = some (.int .i64 l[i]) ∧ w.frozen? ⟨g, i, none⟩ = false := by
  obtain ⟨cur, t, hb, ht⟩ := h
  refine ⟨?_, frozen_of_row w g i _ _ hb⟩
  rw [cell_of_row w g i cur _ _ hb]
  have := icells_at hi
  rw [← ht, List.getElem?_take, if_pos hi, Array.getElem?_toList] at this
  exact this
theorem RowI.set {w : World} {g : Nat} {l : List Int} (h : RowI w g l) (i : Nat) (n : Int) : RowI (w.setCell ⟨g, i, none⟩ (.int .i64 n)) g (l.set i n) := by
  obtain ⟨cur, t, hb, ht⟩ := h
  refine ⟨cur.setIfInBounds i (.int .i64 n), t, heap_setCell_same w g i cur _ _ hb, ?_⟩
  rw [List.length_set, Array.toList_setIfInBounds, take_set, ht]
  simp [icells, List.map_set]
theorem RowI.same {w w' : World} {g : Nat} {l : List Int} (h : RowI w g l) (e : w'.heap[g]? = w.heap[g]?) : RowI w' g l := by
  obtain ⟨cur, t, hb, ht⟩ := h
  exact ⟨cur, t, e.trans hb, ht⟩
theorem Tw.cell {g cg : Nat} {w w' : World} (h : Tw g cg w w') {b o : Nat} {v : Value} (hc : w.cell? ⟨b, o, none⟩ = some v) (h1 : b ≠ g) (h2 : b ≠ cg) : w'.cell? ⟨b, o, none⟩ = some v := Chg.cell h hc (fun q => q.elim h1 h2)
end Go.Proofs.Ytehfbdhkicdfiaa
