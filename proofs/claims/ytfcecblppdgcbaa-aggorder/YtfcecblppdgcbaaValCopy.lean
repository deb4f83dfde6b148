/- A copy of a slice of values, made by append onto an empty slice, holds what was copied. Condition: it takes at most the reach. -/
import Derived.Test.YtfcecblppdgcbaaValSame
namespace Go.Proofs.Ytfcecblppdgcbaa
open Go.RowKit Go.Lib Go.Sort
set_option linter.unusedVariables false
set_option maxRecDepth 20000

theorem infoV : (Try.prog.info? 32).map (fun i => (i.zero, i.size, i.bytes)) = some (some (.agg #[.int .i64 0, .int .i64 0, .string ByteArray.empty]), 3, 32) := by kernel_rfl

theorem alloc_below (w : World) (o : Obj) : Below w.heap.size w (w.alloc o) := (Below.refl _ _).alloc (Nat.le_refl _) o

/-- A copy of a row of values, made by append onto an empty slice. -/
theorem copyV {ops : Array Oper} {rest : List Oper} {o : Oper} {a : Act} {Q : Exit → Act → World → Prop} (w0 : World) (g : Nat) (s x : Operand) (p : Option Addr) (xs : List Val) (c : Nat) (hgd : o.guard = none)
    (ho : o.op = .call { callee := .builtin .append, args := #[s, x], argTypes := #[22, 22] })
    (hg : g = w0.heap.size) (hs : a.eval s = .slice (some ⟨g, 0, none⟩) 0 0) (hx : a.eval x = .slice p xs.length c)
    (hp : p = none → xs.length = 0 ∧ c = 0) (rX : Row w0 p xs) (hb : xs.length * 32 ≤ 140737488351232)
    (h : ∀ p' c' w', Row w' p' xs → Below w0.heap.size w0 w' → wpList Try.prog ops Q rest (a.put o.dst (.slice p' xs.length c')) w') :
    wpList Try.prog ops Q (o :: rest) a (w0.alloc (.cells #[] 32)) := by
  obtain ⟨iV, hiV, hz0, hz1, hz2⟩ := info_parts infoV
  subst hg
  have own := World.ownsRow_made (base := w0.heap.size) (e := 32) (size := 3) w0 #[] 0 (Nat.le_refl _) (Nat.zero_le _) rfl
  refine wpList_append_copy hgd s x 22 ho w0.heap.size 32 iV _ 3 32 Try.underlying22 hiV hz0 hz1 hz2 rfl (by decide) _ hs own p xs.length c (cellsV xs) hx (cellsV_length xs) hp (rX.below (alloc_below w0 _)).cells (cellsV_one xs) (by unfold maxLen; omega) (by omega) (by simp) ?_
  intro v' w' h1 h2
  obtain ⟨_, p', c', rfl, _, r⟩ := Row.of_owns h1
  exact h p' c' w' r ((alloc_below w0 _).trans ((Below.refl w0.heap.size _).grown h2 (by simp) (fun k hk => by simp [Value.ownBlock] at hk; omega)))

end Go.Proofs.Ytfcecblppdgcbaa
