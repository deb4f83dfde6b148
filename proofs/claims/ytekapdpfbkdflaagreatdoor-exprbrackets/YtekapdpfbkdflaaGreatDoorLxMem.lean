/- Bytes and words in memory: what append does with rows of them that the call owns. Condition: they lie within the reach. -/
import Derived.Test.YtekapdpfbkdflaaGreatDoorChecked
import Derived.Test.YtekapdpfbkdflaaGreatDoorLxPlain
import Derived.WalkKit
import Derived.WalkSpells
import Derived.WalkLawsBesides
import Derived.WalkSmall
import Derived.Handy
import Derived.Laws.IdiomStrings
import Derived.Laws.StructEq
import Derived.Lib.QuietBelow
import Derived.Deep.AppendLies
import Derived.Deep.RegionLaw
import Derived.Deep.RegionHeldLaw
namespace Go.Proofs.YtekapdpfbkdflaaGreatDoor
open Go.RowKit Go.Lib Go.Sort
set_option linter.unusedVariables false

theorem hid {p : Prop} (h : p) : Hid p := h
theorem infoB : (Tryz.prog.info? 5).map (fun i => (i.zero, i.size, i.bytes)) = some (some (.int .u8 0), 1, 1) := by kernel_rfl
theorem infoT : (Tryz.prog.info? 56).map (fun i => (i.zero, i.size, i.bytes)) = some (some (.agg #[.int .i64 0, .string ByteArray.empty, .int .i64 0, .int .i64 0]), 4, 40) := by kernel_rfl
theorem lxcell_lt {w : World} {a : Addr} {v : Value} (h : w.cell? a = some v) : a.block < w.heap.size := World.block_lt_of_cell? w a h
theorem lxbelow_cell {w w' : World} {a : Addr} {v : Value} (hb : Below w.heap.size w w') (h : w.cell? a = some v) : w'.cell? a = some v := (hb.cell (lxcell_lt h)).trans h
theorem lxbelow_new {w w1 : World} {o : Obj} (h : Below (w.alloc o).heap.size (w.alloc o) w1) : Below w.heap.size w w1 :=
  ((Below.refl w.heap.size w).alloc (Nat.le_refl _) o).trans (h.mono (by simp))

def bcells (l : List UInt8) : List Value := l.map fun b => Value.int .u8 b.toNat
/-- A row of bytes that the call owns; nil, if it has none yet. -/
def LB (w : World) (base : Nat) (v : Value) (l : List UInt8) : Prop := w.ownsRow base 5 1 v l.length (bcells l)
theorem lb_nil (w : World) (base : Nat) : LB w base (.slice none 0 0) [] := World.ownsRow_nil w base _ _
theorem lb_conv {w : World} {base : Nat} {v : Value} {l : List UInt8} (h : LB w base v l) : (convert 68 9 v).run Tryz.prog w = .ok (.string ⟨l.toArray⟩) w := by
  obtain ⟨hl, h2⟩ := h
  rcases h2 with ⟨h0, h1⟩ | ⟨g, cap, cur, hv, hg, hh, hle, hm, hs, ht⟩
  · subst h0
    obtain rfl : l = [] := List.length_eq_zero_iff.1 h1
    have := run_convert_bytes_string (P := Tryz.prog) w 68 9 5 none 0 0 Tryz.underlying68 Tryz.underlying5 Tryz.underlying9
    rw [this]
    rfl
  · subst hv
    refine run_convert_bytes_back (P := Tryz.prog) w 68 9 5 ⟨g, 0, none⟩ cap l Tryz.underlying68 Tryz.underlying5 Tryz.underlying9 (fun j hj => ?_)
    have hu : (bcells l)[j]? = some (.int .u8 l[j].toNat) := by simp [bcells, hj]
    rw [← ht, List.getElem?_take, if_pos (by omega), Array.getElem?_toList] at hu
    rw [show (⟨g, 0, none⟩ : Addr).add j = ⟨g, 0 + j, none⟩ by unfold Addr.add; split <;> simp_all]
    simp [World.cell?, hh, hu]
theorem LB.below {w w' : World} {base : Nat} {v : Value} {l : List UInt8} (o : LB w base v l) (B : Below w.heap.size w w') : LB w' base v l := by
  obtain ⟨h1, h2⟩ := o
  refine ⟨h1, ?_⟩
  rcases h2 with h2 | ⟨g, cap, cur, hv, hg, hh, r⟩
  · exact Or.inl h2
  · exact Or.inr ⟨g, cap, cur, hv, hg, by rw [B.block g (Array.getElem?_eq_some_iff.1 hh).1]; exact hh, r⟩
theorem lb_form {w : World} {base : Nat} {v : Value} {l : List UInt8} (o : LB w base v l) : ∃ p c, v = .slice p l.length c := by
  obtain ⟨h1, h2⟩ := o
  rcases h2 with ⟨rfl, h0⟩ | ⟨g, cap, cur, rfl, hg, hh, hle, hm, hs, ht⟩
  · exact ⟨none, 0, by rw [h0]⟩
  · exact ⟨_, cap, rfl⟩

/-- append(s, c) of owned bytes. -/
theorem lbApp {ops : Array Oper} {rest : List Oper} {o : Oper} {a : Act} {Q : Exit → Act → World → Prop} (w0 : World) (base g : Nat) (s x : Operand) (v : Value) (l : List UInt8) (c : UInt8) (n : Int) (hgd : o.guard = none)
    (ho : o.op = .call { callee := .builtin .append, args := #[s, x], argTypes := #[68, 68] }) (hs : a.eval s = v) (hx : a.eval x = .slice (some ⟨g, 0, none⟩) 1 1) (hg : g = w0.heap.size) (hn : (c.toNat : Int) = n)
    (O : LB w0 base v l) (hl : l.length + 1 ≤ 140737488351232) (hb : base ≤ w0.heap.size)
    (h : ∀ v' w', LB w' base v' (l ++ [c]) → Below base w0 w' → wpList Tryz.prog ops Q rest (a.put o.dst v') w') :
    wpList Tryz.prog ops Q (o :: rest) a (w0.alloc (.cells #[.int .u8 n] 5)) := by
  obtain ⟨i0, hi, hz0, hz1, hz2⟩ := info_parts infoB
  subst hg hn
  refine wpList_append_lies _ hgd s x 68 ho base 5 i0 (.int .u8 0) 1 1 Tryz.underlying68 hi hz0 hz1 hz2 rfl (by decide) v _ _ hs (World.ownsRow.alloc O _) ⟨w0.heap.size, 0, none⟩ 1 1 [.int .u8 c.toNat] hx rfl (World.news_of_block (heap_alloc_new w0 _)) (by simp [Value.oneCell']) (by decide) (by unfold maxLen; omega) (by omega) (by simp; omega) _ rfl ?_
  intro g' cap' w3 hown hgrow hat hlt
  have hown' : LB w3 base (.slice (some ⟨g', 0, none⟩) (l.length + 1) cap') (l ++ [c]) := by
    unfold LB
    rw [List.length_append, show bcells (l ++ [c]) = bcells l ++ [.int .u8 c.toNat] by simp [bcells]]
    exact hown
  exact h _ w3 hown' (((Below.refl base w0).alloc hb _).grown hgrow (by simp; omega) (fun k hk => (World.ownsRow.lt O k hk).1))
/-- The same at a step of a region that draws its order. -/
theorem lbStep {ops : Array Oper} {o : Oper} {a : Act} {K : Act → World → Prop} {Q : Exit → Act → World → Prop} {E : Prop} (w0 : World) (base g : Nat) (s x : Operand) (v : Value) (l : List UInt8) (c : UInt8) (n : Int) (hgd : o.guard = none)
    (ho : o.op = .call { callee := .builtin .append, args := #[s, x], argTypes := #[68, 68] }) (hs : a.eval s = v) (hx : a.eval x = .slice (some ⟨g, 0, none⟩) 1 1) (hg : g = w0.heap.size) (hn : (c.toNat : Int) = n)
    (O : LB w0 base v l) (hl : l.length + 1 ≤ 140737488351232) (hb : base ≤ w0.heap.size)
    (h : ∀ v' w', LB w' base v' (l ++ [c]) → Below base w0 w' → K (a.put o.dst v') w') :
    if Region.wanted o (yielded ops a.tmps) = true then Oper.wp Tryz.prog o a (w0.alloc (.cells #[.int .u8 n] 5)) K Q else E := by
  obtain ⟨i0, hi, hz0, hz1, hz2⟩ := info_parts infoB
  subst hg hn
  refine step_append_lies _ hgd s x 68 ho base 5 i0 (.int .u8 0) 1 1 Tryz.underlying68 hi hz0 hz1 hz2 rfl (by decide) v _ _ hs (World.ownsRow.alloc O _) ⟨w0.heap.size, 0, none⟩ 1 1 [.int .u8 c.toNat] hx rfl (World.news_of_block (heap_alloc_new w0 _)) (by simp [Value.oneCell']) (by decide) (by unfold maxLen; omega) (by omega) (by simp; omega) _ rfl ?_
  intro g' cap' w3 hown hgrow hat hlt
  have hown' : LB w3 base (.slice (some ⟨g', 0, none⟩) (l.length + 1) cap') (l ++ [c]) := by
    unfold LB
    rw [List.length_append, show bcells (l ++ [c]) = bcells l ++ [.int .u8 c.toNat] by simp [bcells]]
    exact hown
  exact h _ w3 hown' (((Below.refl base w0).alloc hb _).grown hgrow (by simp; omega) (fun k hk => (World.ownsRow.lt O k hk).1))

/-- A word as a value. -/
def tkv (t : Tk) (i : Int) : Value := .agg #[.int .i64 t.k, .string ⟨t.s.toArray⟩, .int .i64 i, .int .i64 t.n]
def cellsT : List (Tk × Nat) → List Value
  | [] => []
  | x :: l => .int .i64 x.1.k :: .string ⟨x.1.s.toArray⟩ :: .int .i64 (x.2 : Int) :: .int .i64 x.1.n :: cellsT l
theorem cellsT_length : ∀ l : List (Tk × Nat), (cellsT l).length = l.length * 4
  | [] => rfl
  | a :: l => by simp [cellsT, cellsT_length l]; omega
theorem cellsT_snoc : ∀ (xs : List (Tk × Nat)) (x : Tk × Nat), cellsT xs ++ [.int .i64 x.1.k, .string ⟨x.1.s.toArray⟩, .int .i64 (x.2 : Int), .int .i64 x.1.n] = cellsT (xs ++ [x])
  | [], a => rfl
  | x :: xs, a => by simp only [cellsT, List.cons_append, cellsT_snoc xs a]
theorem cellsT_at : ∀ (l : List (Tk × Nat)) (i : Nat) (h : i < l.length), (cellsT l)[i * 4]? = some (.int .i64 l[i].1.k) ∧ (cellsT l)[i * 4 + 1]? = some (.string ⟨l[i].1.s.toArray⟩) ∧ (cellsT l)[i * 4 + 2]? = some (.int .i64 (l[i].2 : Int)) ∧ (cellsT l)[i * 4 + 3]? = some (.int .i64 l[i].1.n)
  | a :: l, 0, _ => ⟨rfl, rfl, rfl, rfl⟩
  | a :: l, i + 1, h => by
    have ih := cellsT_at l i (by simpa using h)
    rw [show (i + 1) * 4 = i * 4 + 1 + 1 + 1 + 1 by omega]
    simpa [cellsT] using ih
/-- A row of words that the call owns; nil, if it has none yet. -/
def OT (w : World) (base : Nat) (v : Value) (xs : List (Tk × Nat)) : Prop := w.ownsRow base 56 4 v xs.length (cellsT xs)
theorem ot_nil (w : World) (base : Nat) : OT w base (.slice none 0 0) [] := World.ownsRow_nil w base _ _
theorem OT.below {w w' : World} {base : Nat} {v : Value} {l : List (Tk × Nat)} (o : OT w base v l) (B : Below w.heap.size w w') : OT w' base v l := by
  obtain ⟨h1, h2⟩ := o
  refine ⟨h1, ?_⟩
  rcases h2 with h2 | ⟨g, cap, cur, hv, hg, hh, r⟩
  · exact Or.inl h2
  · exact Or.inr ⟨g, cap, cur, hv, hg, by rw [B.block g (Array.getElem?_eq_some_iff.1 hh).1]; exact hh, r⟩
theorem ot_mono {w : World} {b b' : Nat} {v : Value} {l : List (Tk × Nat)} (h : OT w b v l) (hb : b' ≤ b) : OT w b' v l := by
  obtain ⟨h1, h2⟩ := h
  refine ⟨h1, ?_⟩
  rcases h2 with h2 | ⟨g, cap, cur, hv, hg, r⟩
  · exact Or.inl h2
  · exact Or.inr ⟨g, cap, cur, hv, Nat.le_trans hb hg, r⟩
/-- A block that is older than what the row may lie in is turned. -/
theorem OT.put {w : World} {base : Nat} {v : Value} {l : List (Tk × Nat)} (o : OT w base v l) (p : Addr) (x : Value) (hp : ∀ k, v.ownBlock = some k → k ≠ p.block) : OT (w.setCell p x) base v l := by
  obtain ⟨h1, h2⟩ := o
  refine ⟨h1, ?_⟩
  rcases h2 with h2 | ⟨g, cap, cur, hv, hg, hh, r⟩
  · exact Or.inl h2
  · refine Or.inr ⟨g, cap, cur, hv, hg, ?_, r⟩
    rw [Below.heap_setCell _ _ _ _ (hp g (by rw [hv]; rfl))]
    exact hh
/-- append(s, x) of an owned row of words. -/
theorem otApp {ops : Array Oper} {rest : List Oper} {o : Oper} {a : Act} {Q : Exit → Act → World → Prop} (w0 : World) (base g : Nat) (s x : Operand) (v : Value) (l : List (Tk × Nat)) (t : Tk × Nat) (hgd : o.guard = none)
    (ho : o.op = .call { callee := .builtin .append, args := #[s, x], argTypes := #[23, 23] }) (hs : a.eval s = v) (hx : a.eval x = .slice (some ⟨g, 0, none⟩) 1 1) (hg : g = w0.heap.size)
    (O : OT w0 base v l) (hl : (l.length + 1) * 40 ≤ 140737488351232) (hb : base ≤ w0.heap.size)
    (h : ∀ v' w', OT w' base v' (l ++ [t]) → Below base w0 w' → wpList Tryz.prog ops Q rest (a.put o.dst v') w') :
    wpList Tryz.prog ops Q (o :: rest) a (w0.alloc (.cells #[.int .i64 t.1.k, .string ⟨t.1.s.toArray⟩, .int .i64 (t.2 : Int), .int .i64 t.1.n] 56)) := by
  obtain ⟨i0, hi, hz0, hz1, hz2⟩ := info_parts infoT
  subst hg
  refine wpList_append_lies _ hgd s x 23 ho base 56 i0 _ 4 40 Tryz.underlying23 hi hz0 hz1 hz2 rfl (by decide) v _ _ hs (World.ownsRow.alloc O _) ⟨w0.heap.size, 0, none⟩ 1 1 [.int .i64 t.1.k, .string ⟨t.1.s.toArray⟩, .int .i64 (t.2 : Int), .int .i64 t.1.n] hx rfl (World.news_of_block (heap_alloc_new w0 _)) (by simp [Value.oneCell']) (by decide) (by unfold maxLen; omega) (by omega) (by simp; omega) _ rfl ?_
  intro g' cap' w3 hown hgrow hat hlt
  rw [cellsT_snoc l t] at hown
  have hown' : OT w3 base (.slice (some ⟨g', 0, none⟩) (l.length + 1) cap') (l ++ [t]) := by
    unfold OT
    rw [List.length_append]
    exact hown
  exact h _ w3 hown' (((Below.refl base w0).alloc hb _).grown hgrow (by simp; omega) (fun k hk => (World.ownsRow.lt O k hk).1))

/-- A slice of words in memory. -/
def TR (w : World) (p : Option Addr) (xs : List (Tk × Nat)) : Prop :=
  xs = [] ∨ ∃ b off, p = some ⟨b, off, none⟩ ∧ ∀ i (h : i < xs.length), w.cell? ⟨b, off + i * 4, none⟩ = some (.int .i64 xs[i].1.k) ∧ w.cell? ⟨b, off + i * 4 + 1, none⟩ = some (.string ⟨xs[i].1.s.toArray⟩) ∧ w.cell? ⟨b, off + i * 4 + 2, none⟩ = some (.int .i64 (xs[i].2 : Int)) ∧ w.cell? ⟨b, off + i * 4 + 3, none⟩ = some (.int .i64 xs[i].1.n)
theorem TR.below {w w' : World} {p : Option Addr} {xs : List (Tk × Nat)} (h : TR w p xs) (hb : Below w.heap.size w w') : TR w' p xs := by
  rcases h with h | ⟨b, off, hp, hc⟩
  · exact Or.inl h
  · exact Or.inr ⟨b, off, hp, fun i hi => ⟨lxbelow_cell hb (hc i hi).1, lxbelow_cell hb (hc i hi).2.1, lxbelow_cell hb (hc i hi).2.2.1, lxbelow_cell hb (hc i hi).2.2.2⟩⟩
theorem TR.at {w : World} {p : Option Addr} {xs : List (Tk × Nat)} (h : TR w p xs) {i : Nat} (hi : i < xs.length) : ∃ b off, p = some ⟨b, off, none⟩ ∧ w.cell? ⟨b, off + i * 4, none⟩ = some (.int .i64 xs[i].1.k) ∧ w.cell? ⟨b, off + i * 4 + 1, none⟩ = some (.string ⟨xs[i].1.s.toArray⟩) ∧ w.cell? ⟨b, off + i * 4 + 2, none⟩ = some (.int .i64 (xs[i].2 : Int)) ∧ w.cell? ⟨b, off + i * 4 + 3, none⟩ = some (.int .i64 xs[i].1.n) := by
  rcases h with h | ⟨b, off, hp, hc⟩
  · subst h; simp at hi
  · exact ⟨b, off, hp, hc i hi⟩
theorem TR.of_own {w : World} {base : Nat} {v : Value} {xs : List (Tk × Nat)} (h : OT w base v xs) : ∃ p cap, v = .slice p xs.length cap ∧ xs.length ≤ maxLen ∧ TR w p xs := by
  obtain ⟨h1, h2⟩ := h
  rcases h2 with ⟨rfl, h0⟩ | ⟨g, cap, cur, rfl, hg, hh, hle, hm, hs, ht⟩
  · have : xs = [] := List.length_eq_zero_iff.1 h0
    subst this
    exact ⟨none, 0, rfl, Nat.zero_le _, Or.inl rfl⟩
  · refine ⟨_, cap, rfl, by omega, Or.inr ⟨g, 0, rfl, fun i hi => ?_⟩⟩
    have e := cellsT_at xs i hi
    have key : ∀ j u, j < xs.length * 4 → (cellsT xs)[j]? = some u → w.cell? ⟨g, 0 + j, none⟩ = some u := by
      intro j u hj hu
      rw [← ht, List.getElem?_take, if_pos hj, Array.getElem?_toList] at hu
      simp [World.cell?, hh, hu]
    exact ⟨key _ _ (by omega) e.1, key _ _ (by omega) e.2.1, key _ _ (by omega) e.2.2.1, key _ _ (by omega) e.2.2.2⟩
end Go.Proofs.YtekapdpfbkdflaaGreatDoor
