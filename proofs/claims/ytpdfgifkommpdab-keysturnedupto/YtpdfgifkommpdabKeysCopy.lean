/- A copy of a slice of bools, or of bytes, made by append onto an empty slice, holds what was copied. Condition: it takes at most the reach. -/
import Derived.Test.YtpdfgifkommpdabValCopy
import Derived.Test.YtpdfgifkommpdabAppBytes
namespace Go.Proofs.Ytpdfgifkommpdab
open Go.RowKit Go.Lib Go.Sort
set_option linter.unusedVariables false

theorem infoB : (Try.prog.info? 4).map (fun i => (i.zero, i.size, i.bytes)) = some (some (.bool false), 1, 1) := by kernel_rfl
/-- A copy of a row of bools, likewise. -/
theorem copyB {ops : Array Oper} {rest : List Oper} {o : Oper} {a : Act} {Q : Exit → Act → World → Prop} (w0 : World) (g : Nat) (s x : Operand) (p : Option Addr) (xs : List Bool) (c : Nat) (hgd : o.guard = none)
    (ho : o.op = .call { callee := .builtin .append, args := #[s, x], argTypes := #[31, 31] })
    (hg : g = w0.heap.size) (hs : a.eval s = .slice (some ⟨g, 0, none⟩) 0 0) (hx : a.eval x = .slice p xs.length c)
    (hp : p = none → xs.length = 0 ∧ c = 0) (rX : Bits w0 p xs) (hb : xs.length ≤ 140737488351232)
    (h : ∀ p' c' w', Bits w' p' xs → Below w0.heap.size w0 w' → wpList Try.prog ops Q rest (a.put o.dst (.slice p' xs.length c')) w') :
    wpList Try.prog ops Q (o :: rest) a (w0.alloc (.cells #[] 4)) := by
  obtain ⟨iV, hiV, hz0, hz1, hz2⟩ := info_parts infoB
  subst hg
  have own := World.ownsRow_made (base := w0.heap.size) (e := 4) (size := 1) w0 #[] 0 (Nat.le_refl _) (Nat.zero_le _) rfl
  refine wpList_append_copy hgd s x 31 ho w0.heap.size 4 iV _ 1 1 Try.underlying31 hiV hz0 hz1 hz2 rfl (by decide) _ hs own p xs.length c (xs.map .bool) hx (by simp) hp (rX.below (alloc_below w0 _)).cells (fun u hu => by obtain ⟨y, _, rfl⟩ := List.mem_map.1 hu; rfl) (by unfold maxLen; omega) (by omega) (by simp) ?_
  intro v' w' h1 h2
  obtain ⟨_, p', c', rfl, _, r⟩ := Bits.of_owns h1
  exact h p' c' w' r ((alloc_below w0 _).trans ((Below.refl w0.heap.size _).grown h2 (by simp) (fun k hk => by simp [Value.ownBlock] at hk; omega)))

theorem Byts.cells {w : World} {p : Option Addr} {l : List UInt8} (h : Byts w p l) : ∀ ad, p = some ad → ∀ j u, (bcells l)[j]? = some u → w.cell? (ad.add j) = some u := by
  intro ad hp j u hu
  rcases h with h | ⟨b, off, hp', hc⟩
  · subst h; simp [bcells] at hu
  · rw [hp'] at hp
    obtain rfl := Option.some.inj hp
    rw [add_cell]
    have hj : j < l.length := by
      have := (List.getElem?_eq_some_iff.1 hu).1
      simpa [bcells] using this
    rw [bcells, List.getElem?_map, List.getElem?_eq_getElem hj] at hu
    simp only [Option.map_some, Option.some.injEq] at hu
    rw [← hu]
    exact hc j hj

/-- A copy of bytes, likewise. -/
theorem copyY {ops : Array Oper} {rest : List Oper} {o : Oper} {a : Act} {Q : Exit → Act → World → Prop} (w0 : World) (g : Nat) (s x : Operand) (p : Option Addr) (l : List UInt8) (c : Nat) (hgd : o.guard = none)
    (ho : o.op = .call { callee := .builtin .append, args := #[s, x], argTypes := #[27, 27] })
    (hg : g = w0.heap.size) (hs : a.eval s = .slice (some ⟨g, 0, none⟩) 0 0) (hx : a.eval x = .slice p l.length c)
    (hp : p = none → l.length = 0 ∧ c = 0) (rX : Byts w0 p l) (hb : l.length ≤ 140737488351232)
    (h : ∀ v' w', OwnB w' w0.heap.size v' l → Below w0.heap.size w0 w' → wpList Try.prog ops Q rest (a.put o.dst v') w') :
    wpList Try.prog ops Q (o :: rest) a (w0.alloc (.cells #[] 5)) := by
  obtain ⟨iV, hiV, hz0, hz1, hz2⟩ := info_parts infoByte
  subst hg
  have own := World.ownsRow_made (base := w0.heap.size) (e := 5) (size := 1) w0 #[] 0 (Nat.le_refl _) (Nat.zero_le _) rfl
  refine wpList_append_copy hgd s x 27 ho w0.heap.size 5 iV _ 1 1 Try.underlying27 hiV hz0 hz1 hz2 rfl (by decide) _ hs own p l.length c (bcells l) hx (by simp [bcells]) hp (rX.below (alloc_below w0 _)).cells (bcells_one l) (by unfold maxLen; omega) (by omega) (by simp) ?_
  intro v' w' h1 h2
  exact h v' w' h1 ((alloc_below w0 _).trans ((Below.refl w0.heap.size _).grown h2 (by simp) (fun k hk => by simp [Value.ownBlock] at hk; omega)))
end Go.Proofs.Ytpdfgifkommpdab
