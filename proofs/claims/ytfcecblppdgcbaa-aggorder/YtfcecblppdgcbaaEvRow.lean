/- Rows of values that a call owns, for seats that hold the words' texts too (their bytes have names of their own). Condition: they lie within the reach. -/
import Derived.Test.YtfcecblppdgcbaaValCopy
import Derived.Deep.AppendLies
import Derived.Laws.AppendOwnNone
namespace Go.Proofs.Ytfcecblppdgcbaa
open Go.RowKit Go.Lib Go.Sort
set_option linter.unusedVariables false
set_option maxRecDepth 20000

/-- A row of values that the call owns; nil, if it has none yet. -/
def OwnV (w : World) (base : Nat) (v : Value) (xs : List Val) : Prop := w.ownsRow base 32 3 v xs.length (cellsV xs)
theorem ownV_nil (w : World) (base : Nat) : OwnV w base (.slice none 0 0) [] := World.ownsRow_nil w base _ _
theorem cellsV_snoc : ∀ (xs : List Val) (a : Val), cellsV xs ++ [.int .i64 a.k, .int .i64 a.n, .string a.s] = cellsV (xs ++ [a])
  | [], a => rfl
  | x :: xs, a => by simp only [cellsV, List.cons_append, cellsV_snoc xs a]
theorem OwnV.below {w w' : World} {base : Nat} {v : Value} {l : List Val} (o : OwnV w base v l) (B : Below w.heap.size w w') : OwnV w' base v l := by
  obtain ⟨h1, h2⟩ := o
  refine ⟨h1, ?_⟩
  rcases h2 with h2 | ⟨g, cap, cur, hv, hg, hh, r⟩
  · exact Or.inl h2
  · exact Or.inr ⟨g, cap, cur, hv, hg, by rw [B.block g (Array.getElem?_eq_some_iff.1 hh).1]; exact hh, r⟩
theorem ownV_mono {w : World} {b b' : Nat} {v : Value} {l : List Val} (h : OwnV w b v l) (hb : b' ≤ b) : OwnV w b' v l := by
  obtain ⟨h1, h2⟩ := h
  refine ⟨h1, ?_⟩
  rcases h2 with h2 | ⟨g, cap, cur, hv, hg, r⟩
  · exact Or.inl h2
  · exact Or.inr ⟨g, cap, cur, hv, Nat.le_trans hb hg, r⟩
theorem ownV_slice {w : World} {base : Nat} {v : Value} {l : List Val} (o : OwnV w base v l) : ∃ p c, v = .slice p l.length c ∧ Row w p l ∧ (p = none → l.length = 0 ∧ c = 0) ∧ l.length ≤ maxLen := by
  obtain ⟨_, p, c, hv, hm, r⟩ := Row.of_owns o
  refine ⟨p, c, hv, r, ?_, hm⟩
  intro hp
  subst hp
  obtain ⟨_, h2⟩ := o
  rcases h2 with ⟨h0, hn⟩ | ⟨g, cap, cur, hg, _⟩
  · rw [hv] at h0
    simp only [Value.slice.injEq, true_and] at h0
    exact h0
  · rw [hv] at hg
    cases hg

/-- append(s, x) of an owned row of values. -/
theorem appV {ops : Array Oper} {rest : List Oper} {o : Oper} {a : Act} {Q : Exit → Act → World → Prop} (w0 : World) (base g : Nat) (s x : Operand) (v : Value) (l : List Val) (k n : Int) (t : ByteArray) (hgd : o.guard = none)
    (ho : o.op = .call { callee := .builtin .append, args := #[s, x], argTypes := #[22, 22] }) (hs : a.eval s = v) (hx : a.eval x = .slice (some ⟨g, 0, none⟩) 1 1) (hg : g = w0.heap.size)
    (O : OwnV w0 base v l) (hl : (l.length + 1) * 32 ≤ 140737488351232) (hb : base ≤ w0.heap.size)
    (h : ∀ v' w', OwnV w' base v' (l ++ [⟨k, n, t⟩]) → Below base w0 w' → wpList Try.prog ops Q rest (a.put o.dst v') w') :
    wpList Try.prog ops Q (o :: rest) a (w0.alloc (.cells #[.int .i64 k, .int .i64 n, .string t] 32)) := by
  obtain ⟨i0, hi, hz0, hz1, hz2⟩ := info_parts infoV
  subst hg
  refine wpList_append_lies _ hgd s x 22 ho base 32 i0 _ 3 32 Try.underlying22 hi hz0 hz1 hz2 rfl (by decide) v _ _ hs (O.alloc _) ⟨w0.heap.size, 0, none⟩ 1 1 [.int .i64 k, .int .i64 n, .string t] hx rfl (World.news_of_block (heap_alloc_new w0 _)) (by simp [Value.oneCell']) (by decide) (by unfold maxLen; omega) (by omega) (by simp; omega) _ rfl ?_
  intro g' cap' w3 hown hgrow hat hlt
  rw [cellsV_snoc l ⟨k, n, t⟩] at hown
  have hown' : OwnV w3 base (.slice (some ⟨g', 0, none⟩) (l.length + 1) cap') (l ++ [⟨k, n, t⟩]) := by
    unfold OwnV
    rw [List.length_append]
    exact hown
  exact h _ w3 hown' (((Below.refl base w0).alloc hb _).grown hgrow (by simp; omega) (fun k hk => (O.lt k hk).1))
theorem cellsV_append : ∀ (xs ys : List Val), cellsV xs ++ cellsV ys = cellsV (xs ++ ys)
  | [], ys => rfl
  | x :: xs, ys => by simp only [cellsV, List.cons_append, cellsV_append xs ys]
theorem own_litV (w : World) : OwnV (w.alloc (.cells #[] 32)) w.heap.size (.slice (some ⟨w.heap.size, 0, none⟩) 0 0) [] := World.ownsRow_made w #[] 0 (Nat.le_refl _) (Nat.zero_le _) rfl

/-- append(s, x...) of a row of values onto an owned one. -/
theorem appVs {ops : Array Oper} {rest : List Oper} {o : Oper} {a : Act} {w : World} {Q : Exit → Act → World → Prop} (base : Nat) (s x : Operand) (v : Value) (xs ys : List Val) (p : Option Addr) (c : Nat) (hgd : o.guard = none)
    (ho : o.op = .call { callee := .builtin .append, args := #[s, x], argTypes := #[22, 22] }) (hs : a.eval s = v) (hx : a.eval x = .slice p ys.length c)
    (O : OwnV w base v xs) (hp : p = none → ys.length = 0 ∧ c = 0) (rY : Row w p ys) (hl : (xs.length + ys.length) * 32 ≤ 140737488351232) (hb : base ≤ w.heap.size)
    (h : ∀ v' w', OwnV w' base v' (xs ++ ys) → Below base w w' → wpList Try.prog ops Q rest (a.put o.dst v') w') :
    wpList Try.prog ops Q (o :: rest) a w := by
  obtain ⟨i0, hi, hz0, hz1, hz2⟩ := info_parts infoV
  cases p with
  | none =>
    obtain ⟨h0, rfl⟩ := hp rfl
    obtain rfl : ys = [] := List.length_eq_zero_iff.1 h0
    refine wpList_append_own_none hgd s x 22 ho base 32 i0 3 Try.underlying22 hi v _ _ hs O hx (h v w ?_ (Below.refl _ _))
    rw [List.append_nil]
    exact O
  | some ad =>
    refine wpList_append_own w hgd s x 22 ho base 32 i0 _ 3 32 Try.underlying22 hi hz0 hz1 hz2 rfl (by decide) v _ _ hs O ad ys.length c (cellsV ys) hx (cellsV_length ys) (rY.cells ad rfl) (cellsV_one ys) (by unfold maxLen; omega) (by omega) hb ?_
    intro v' w' h2 h3 _
    refine h v' w' ?_ ((Below.refl base w).grown h3 hb (fun k hk => (O.lt k hk).1))
    unfold OwnV
    rw [List.length_append, ← cellsV_append]
    exact h2
end Go.Proofs.Ytfcecblppdgcbaa
