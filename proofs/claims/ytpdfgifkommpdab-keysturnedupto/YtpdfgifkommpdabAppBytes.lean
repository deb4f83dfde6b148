/- What append does with bytes that the call owns. Condition: they lie within the reach. -/
import Derived.Test.YtpdfgifkommpdabKeysEncode
namespace Go.Proofs.Ytpdfgifkommpdab
open Go.RowKit Go.Lib Go.Sort
set_option linter.unusedVariables false

theorem bcells_one (l : List UInt8) : ∀ u ∈ bcells l, u.oneCell' = true := by
  intro u hu
  obtain ⟨b, _, rfl⟩ := List.mem_map.1 hu
  rfl
theorem bcells_append (l m : List UInt8) : bcells l ++ bcells m = bcells (l ++ m) := by simp [bcells]

/-- Bytes that are written down. -/
theorem own_lits (w : World) (base : Nat) (hb : base ≤ w.heap.size) (m : List UInt8) (cs : Array Value) (hc : cs.toList = bcells m) (hm : m.length ≤ maxLen) : OwnB (w.alloc (.cells cs 5)) base (.slice (some ⟨w.heap.size, 0, none⟩) m.length m.length) m := by
  have hl : cs.size = m.length := by rw [← Array.length_toList, hc]; simp [bcells]
  refine ⟨by simp [bcells], Or.inr ⟨w.heap.size, m.length, cs, rfl, hb, heap_alloc_new w _, Nat.le_refl _, hm, by omega, ?_⟩⟩
  rw [hc, List.take_of_length_le (by simp [bcells])]

/-- append(s, x...) of owned bytes. -/
theorem appBs {ops : Array Oper} {rest : List Oper} {o : Oper} {a : Act} {w : World} {Q : Exit → Act → World → Prop} (base bx : Nat) (s x : Operand) (v vx : Value) (l m : List UInt8) (hgd : o.guard = none)
    (ho : o.op = .call { callee := .builtin .append, args := #[s, x], argTypes := #[27, 27] }) (hs : a.eval s = v) (hx : a.eval x = vx)
    (O : OwnB w base v l) (X : OwnB w bx vx m) (hm : 0 < m.length) (hl : l.length + m.length ≤ 140737488351232) (hb : base ≤ w.heap.size)
    (h : ∀ v' w', OwnB w' base v' (l ++ m) → (∀ wx, Past wx v v' w w') → Below base w w' → wpList Try.prog ops Q rest (a.put o.dst v') w') :
    wpList Try.prog ops Q (o :: rest) a w := by
  obtain ⟨i0, hi, hz0, hz1, hz2⟩ := info_parts infoByte
  obtain ⟨_, X2⟩ := X
  rcases X2 with ⟨_, h0⟩ | ⟨g, cap, cur, rfl, hg, hh, hle, hmx, hsz, ht⟩
  · omega
  refine wpList_append_lies _ hgd s x 27 ho base 5 i0 (.int .u8 0) 1 1 Try.underlying27 hi hz0 hz1 hz2 rfl (by decide) v _ _ hs O ⟨g, 0, none⟩ m.length cap (bcells m) hx (by simp [bcells]) ?_ (bcells_one m) hm (by unfold maxLen; omega) (by omega) hb _ rfl ?_
  · intro j u hu
    refine World.news_of_block hh j u ?_
    rw [← ht, List.getElem?_take] at hu
    split at hu
    · exact hu
    · cases hu
  · intro g' cap' w3 hown hgrow hat hlt
    rw [bcells_append] at hown
    have hown' : OwnB w3 base (.slice (some ⟨g', 0, none⟩) (l.length + m.length) cap') (l ++ m) := by
      unfold OwnB
      rw [List.length_append]
      exact hown
    have B0 : Below w.heap.size w w := Below.refl _ _
    refine h _ w3 hown' (fun wx => past_append B0 hgrow hat rfl) ((Below.refl base w).grown hgrow hb (fun k hk => (O.lt k hk).1))

/-- append(s, c) of owned bytes. -/
theorem appB {ops : Array Oper} {rest : List Oper} {o : Oper} {a : Act} {Q : Exit → Act → World → Prop} (w0 : World) (base g : Nat) (s x : Operand) (v : Value) (l : List UInt8) (c : UInt8) (n : Int) (hgd : o.guard = none)
    (ho : o.op = .call { callee := .builtin .append, args := #[s, x], argTypes := #[27, 27] }) (hs : a.eval s = v) (hx : a.eval x = .slice (some ⟨g, 0, none⟩) 1 1) (hg : g = w0.heap.size) (hn : (c.toNat : Int) = n)
    (O : OwnB w0 base v l) (hl : l.length + 1 ≤ 140737488351232) (hb : base ≤ w0.heap.size)
    (h : ∀ v' w', OwnB w' base v' (l ++ [c]) → (∀ wx, Past wx v v' w0 w') → Below base w0 w' → wpList Try.prog ops Q rest (a.put o.dst v') w') :
    wpList Try.prog ops Q (o :: rest) a (w0.alloc (.cells #[.int .u8 n] 5)) := by
  subst hg hn
  refine appBs base w0.heap.size s x v _ l [c] hgd ho hs hx (O.alloc _) (own_lits w0 _ (Nat.le_refl _) [c] _ (by simp [bcells]) (by unfold maxLen; simp)) (by simp) (by simpa using hl) (by simp; omega) ?_
  intro v' w' h1 h2 h3
  exact h v' w' h1 (fun wx => (Past.alloc wx v w0 _).trans (h2 wx)) (((Below.refl base w0).alloc hb _).trans h3)

/-- What lies apart from what a call may write stays owned. -/
theorem OwnB.below {w w' : World} {base : Nat} {v : Value} {l : List UInt8} (o : OwnB w base v l) (B : Below w.heap.size w w') : OwnB w' base v l := by
  obtain ⟨h1, h2⟩ := o
  refine ⟨h1, ?_⟩
  rcases h2 with h2 | ⟨g, cap, cur, hv, hg, hh, r⟩
  · exact Or.inl h2
  · exact Or.inr ⟨g, cap, cur, hv, hg, by rw [B.block g (Array.getElem?_eq_some_iff.1 hh).1]; exact hh, r⟩
/-- A slice of bytes in memory. -/
def Byts (w : World) (p : Option Addr) (l : List UInt8) : Prop :=
  l = [] ∨ ∃ b off, p = some ⟨b, off, none⟩ ∧ ∀ i (h : i < l.length), w.cell? ⟨b, off + i, none⟩ = some (.int .u8 (l[i].toNat : Int))
theorem Byts.below {w w' : World} {p : Option Addr} {l : List UInt8} (h : Byts w p l) (hb : Below w.heap.size w w') : Byts w' p l := by
  rcases h with h | ⟨b, off, hp, hc⟩
  · exact Or.inl h
  · exact Or.inr ⟨b, off, hp, fun i hi => below_cell hb (hc i hi)⟩
theorem Byts.at {w : World} {p : Option Addr} {l : List UInt8} (h : Byts w p l) {i : Nat} (hi : i < l.length) : ∃ b off, p = some ⟨b, off, none⟩ ∧ w.cell? ⟨b, off + i, none⟩ = some (.int .u8 (l[i].toNat : Int)) := by
  rcases h with h | ⟨b, off, hp, hc⟩
  · subst h; simp at hi
  · exact ⟨b, off, hp, hc i hi⟩
theorem Byts.of_own {w : World} {base : Nat} {v : Value} {l : List UInt8} (o : OwnB w base v l) : ∃ p c, v = .slice p l.length c ∧ Byts w p l ∧ (p = none → l.length = 0 ∧ c = 0) ∧ l.length ≤ maxLen := by
  obtain ⟨h1, h2⟩ := o
  rcases h2 with ⟨rfl, h0⟩ | ⟨g, cap, cur, rfl, hg, hh, hle, hm, hs, ht⟩
  · exact ⟨none, 0, by rw [h0], Or.inl (List.length_eq_zero_iff.1 h0), fun _ => ⟨h0, rfl⟩, by omega⟩
  · refine ⟨_, cap, rfl, Or.inr ⟨g, 0, rfl, fun i hi => ?_⟩, fun h => (by cases h), by omega⟩
    have hu : (bcells l)[i]? = some (.int .u8 l[i].toNat) := by simp [bcells, hi]
    rw [← ht, List.getElem?_take, if_pos (by omega), Array.getElem?_toList] at hu
    simp [World.cell?, hh, hu]
/-- string(b) of bytes in memory. -/
theorem conv_byts {w : World} {p : Option Addr} {l : List UInt8} (c : Nat) (h : Byts w p l) : (convert 27 9 (.slice p l.length c)).run Try.prog w = .ok (.string ⟨l.toArray⟩) w := by
  rcases h with rfl | ⟨b, off, rfl, hc⟩
  · have := run_convert_bytes_string (P := Try.prog) w 27 9 5 p 0 c Try.underlying27 Try.underlying5 Try.underlying9
    simp only [List.length_nil]
    rw [this]
    cases p <;> rfl
  · refine run_convert_bytes_back (P := Try.prog) w 27 9 5 ⟨b, off, none⟩ c l Try.underlying27 Try.underlying5 Try.underlying9 (fun j hj => ?_)
    rw [show (⟨b, off, none⟩ : Addr).add j = ⟨b, off + j, none⟩ by unfold Addr.add; split <;> simp_all]
    exact hc j hj
end Go.Proofs.Ytpdfgifkommpdab
