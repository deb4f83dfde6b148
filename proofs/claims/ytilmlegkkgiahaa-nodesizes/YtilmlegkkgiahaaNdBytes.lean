/- Memory for the nodes of a tree: bytes that a call owns, bytes in memory within a set of blocks, cells, keys and kids, nodes. Conditions: they lie within the reach. -/
import Derived.Test.YtilmlegkkgiahaaDkMem
import Derived.Test.YtilmlegkkgiahaaNdPlain
import Derived.Laws.IdiomStrings
import Derived.Lib.QuietBelow
import Derived.Deep.RegionLaw
import Derived.Deep.RegionHeldLaw
import Derived.Deep.QuietTactic
import Derived.Laws.AppendOwnNone
import Derived.Lib.SliceRun
namespace Go.Proofs.Ytilmlegkkgiahaa
open Go.RowKit Go.Lib
set_option linter.unusedVariables false

theorem below_cell {w w' : World} {a : Addr} {v : Value} (hb : Below w.heap.size w w') (h : w.cell? a = some v) : w'.cell? a = some v := by
  rw [hb.cell (cell_lt h)]; exact h
theorem alloc_below (w : World) (o : Obj) : Below w.heap.size w (w.alloc o) := (Below.refl _ _).alloc (Nat.le_refl _) o
theorem add_cell (b off j : Nat) : (⟨b, off, none⟩ : Addr).add j = ⟨b, off + j, none⟩ := by
  unfold Addr.add
  split
  · subst_vars; rfl
  · rfl
theorem infoByte : (Try.prog.info? 5).map (fun i => (i.zero, i.size, i.bytes)) = some (some (.int .u8 0), 1, 1) := by kernel_rfl
def bcells (l : List UInt8) : List Value := l.map fun b => Value.int .u8 b.toNat
/-- A row of bytes that the call owns; nil, if it has none yet. -/
def OwnB (w : World) (base : Nat) (v : Value) (l : List UInt8) : Prop := w.ownsRow base 5 1 v l.length (bcells l)

theorem own_nil (w : World) (base : Nat) : OwnB w base (.slice none 0 0) [] := World.ownsRow_nil w base _ _

theorem conv_own {w : World} {base : Nat} {v : Value} {l : List UInt8} (h : OwnB w base v l) : (convert 31 9 v).run Try.prog w = .ok (.string ⟨l.toArray⟩) w := by
  obtain ⟨hl, h2⟩ := h
  rcases h2 with ⟨h0, h1⟩ | ⟨g, cap, cur, hv, hg, hh, hle, hm, hs, ht⟩
  · subst h0
    obtain rfl : l = [] := List.length_eq_zero_iff.1 h1
    have := run_convert_bytes_string (P := Try.prog) w 31 9 5 none 0 0 Try.underlying31 Try.underlying5 Try.underlying9
    rw [this]
    rfl
  · subst hv
    refine run_convert_bytes_back (P := Try.prog) w 31 9 5 ⟨g, 0, none⟩ cap l Try.underlying31 Try.underlying5 Try.underlying9 (fun j hj => ?_)
    have hu : (bcells l)[j]? = some (.int .u8 l[j].toNat) := by simp [bcells, hj]
    rw [← ht, List.getElem?_take, if_pos (by omega), Array.getElem?_toList] at hu
    rw [show (⟨g, 0, none⟩ : Addr).add j = ⟨g, 0 + j, none⟩ by unfold Addr.add; split <;> simp_all]
    simp [World.cell?, hh, hu]

theorem bcells_snoc (l : List UInt8) (c : UInt8) (n : Int) (h : (c.toNat : Int) = n) : bcells l ++ [.int .u8 n] = bcells (l ++ [c]) := by subst h; simp [bcells]
theorem own_snoc {w' : World} {base : Nat} {l : List UInt8} {c : UInt8} {n : Int} {g cap m : Nat} (hm : l.length = m) (hn : (c.toNat : Int) = n) (h : w'.ownsRow base 5 1 (.slice (some ⟨g, 0, none⟩) (m + 1) cap) (m + 1) (bcells l ++ [.int .u8 n])) :
    OwnB w' base (.slice (some ⟨g, 0, none⟩) (m + 1) cap) (l ++ [c]) := by
  subst hm
  unfold OwnB
  rw [List.length_append, ← bcells_snoc l c n hn]
  exact h
theorem take_snoc' (s : ByteArray) (k : Nat) (h : k < s.size) : s.data.toList.take (k + 1) = s.data.toList.take k ++ [s[k]'h] := by
  rw [List.take_succ_eq_append_getElem (by simpa using h)]; rfl

/-- But for a block and the row that was owned, what was there is as it was. -/
structure Past (wb : Nat) (v v' : Value) (w w' : World) : Prop where
  os : w'.os = w.os
  tape : w'.tape = w.tape
  output : w'.output = w.output
  size : w.heap.size ≤ w'.heap.size
  block : ∀ k, k < w.heap.size → k ≠ wb → v.ownBlock ≠ some k → w'.heap[k]? = w.heap[k]?
  own : ∀ k, k < w.heap.size → v.ownBlock ≠ some k → v'.ownBlock ≠ some k

theorem Past.refl (wb : Nat) (v : Value) (w : World) : Past wb v v w w := ⟨rfl, rfl, rfl, Nat.le_refl _, fun _ _ _ _ => rfl, fun _ _ h => h⟩
theorem Past.trans {wb : Nat} {v1 v2 v3 : Value} {a b c : World} (h : Past wb v1 v2 a b) (k : Past wb v2 v3 b c) : Past wb v1 v3 a c :=
  ⟨k.os.trans h.os, k.tape.trans h.tape, k.output.trans h.output, Nat.le_trans h.size k.size,
   fun i hi hn ho => (k.block i (Nat.lt_of_lt_of_le hi h.size) hn (h.own i hi ho)).trans (h.block i hi hn ho),
   fun i hi ho => k.own i (Nat.lt_of_lt_of_le hi h.size) (h.own i hi ho)⟩
theorem Past.below {wb : Nat} {v v' : Value} {w w' : World} (h : Past wb v v' w w') (hw : wb ≤ w.heap.size) (hv : ∀ k, v.ownBlock = some k → wb + 1 ≤ k) : Below wb w w' :=
  ⟨h.os, h.tape, h.output, h.size, fun k hk => h.block k (by omega) (by omega) (fun e => by have := hv k e; omega)⟩
theorem Past.cell {wb : Nat} {v v' : Value} {w w' : World} (h : Past wb v v' w w') {b o : Nat} {x : Value} (hc : w.cell? ⟨b, o, none⟩ = some x) (hn : b ≠ wb) (ho : v.ownBlock ≠ some b) : w'.cell? ⟨b, o, none⟩ = some x := by
  have hl := cell_lt hc
  exact (World.cell?_of_block (h.block b hl hn ho)).trans hc
/-- A block that is made is none of them. -/
theorem Past.alloc (wb : Nat) (v : Value) (w : World) (o : Obj) : Past wb v v w (w.alloc o) :=
  ⟨rfl, rfl, rfl, by simp, fun k hk _ _ => Below.heap_alloc _ _ _ hk, fun _ _ h => h⟩
theorem below_new {w w1 : World} {o : Obj} (h : Below (w.alloc o).heap.size (w.alloc o) w1) : Below w.heap.size w w1 :=
  ((Below.refl w.heap.size w).alloc (Nat.le_refl _) o).trans (h.mono (by simp))
theorem past_append {wb : Nat} {v : Value} {w w1 w3 : World} {g cap n H : Nat} (B : Below w.heap.size w w1) (hg : w1.grownBy w3 v.ownBlock) (hat : v.ownBlock = some g ∨ g = H) (hH : w1.heap.size = H) : Past wb v (.slice (some ⟨g, 0, none⟩) n cap) w w3 :=
  ⟨hg.os.trans B.os, hg.tape.trans B.tape, hg.output.trans B.output, Nat.le_trans B.size hg.size,
   fun k hk _ ho => (hg.block k (Nat.lt_of_lt_of_le hk B.size) (fun e => ho e.symm)).trans (B.block k hk),
   fun k hk ho e => by
    simp only [Value.ownBlock, Option.some.injEq] at e
    subst e
    rcases hat with h | h
    · exact ho h
    · have := B.size
      omega⟩
theorem Past.put {wb o : Nat} {v v' x : Value} {w w' : World} (h : Past wb v v' w w') : Past wb v v' w (w'.setCell ⟨wb, o, none⟩ x) :=
  ⟨h.os, h.tape, h.output, by simpa [World.setCell] using h.size, fun k hk hn ho => (Below.heap_setCell _ _ _ _ hn).trans (h.block k hk hn ho), h.own⟩
theorem below_alloc_drew (w : World) (o : Obj) : Below w.heap.size w (w.alloc o).drew := ((Below.refl _ _).alloc (Nat.le_refl _) o).drew
theorem below_drew_alloc (w : World) (o : Obj) : Below w.heap.size w (w.drew.alloc o) := (Below.refl _ _).drew.alloc (Nat.le_refl _) o
theorem own_mono {w : World} {b b' : Nat} {v : Value} {l : List UInt8} (h : OwnB w b v l) (hb : b' ≤ b) : OwnB w b' v l := by
  obtain ⟨h1, h2⟩ := h
  refine ⟨h1, ?_⟩
  rcases h2 with h2 | ⟨g, cap, cur, hv, hg, r⟩
  · exact Or.inl h2
  · exact Or.inr ⟨g, cap, cur, hv, Nat.le_trans hb hg, r⟩
theorem bcells_one (l : List UInt8) : ∀ u ∈ bcells l, u.oneCell' = true := by
  intro u hu
  obtain ⟨b, _, rfl⟩ := List.mem_map.1 hu
  rfl
theorem bcells_append (l m : List UInt8) : bcells l ++ bcells m = bcells (l ++ m) := by simp [bcells]

/-- Bytes that are written down. -/
theorem own_lits (w : World) (base : Nat) (hb : base ≤ w.heap.size) (m : List UInt8) (cs : Array Value) (hc : cs.toList = bcells m) (hm : m.length ≤ maxLen) : OwnB (w.alloc (.cells cs 5)) base (.slice (some ⟨w.heap.size, 0, none⟩) m.length m.length) m := by
  have hl : cs.size = m.length := by rw [← Array.length_toList, hc]; simp [bcells]
  refine ⟨by simp [bcells], Or.inr ⟨w.heap.size, m.length, cs, rfl, hb, heap_alloc_new w _, Nat.le_refl _, hm, by omega, ?_⟩⟩
  rw [hc, List.take_of_length_le (by simp [bcells])]

/-- append(s, x...) of owned bytes. -/
theorem appBs {ops : Array Oper} {rest : List Oper} {o : Oper} {a : Act} {w : World} {Q : Exit → Act → World → Prop} (base bx : Nat) (s x : Operand) (v vx : Value) (l m : List UInt8) (hgd : o.guard = none)
    (ho : o.op = .call { callee := .builtin .append, args := #[s, x], argTypes := #[31, 31] }) (hs : a.eval s = v) (hx : a.eval x = vx)
    (O : OwnB w base v l) (X : OwnB w bx vx m) (hm : 0 < m.length) (hl : l.length + m.length ≤ 140737488351232) (hb : base ≤ w.heap.size)
    (h : ∀ v' w', OwnB w' base v' (l ++ m) → (∀ wx, Past wx v v' w w') → Below base w w' → wpList Try.prog ops Q rest (a.put o.dst v') w') :
    wpList Try.prog ops Q (o :: rest) a w := by
  obtain ⟨i0, hi, hz0, hz1, hz2⟩ := info_parts infoByte
  obtain ⟨_, X2⟩ := X
  rcases X2 with ⟨_, h0⟩ | ⟨g, cap, cur, rfl, hg, hh, hle, hmx, hsz, ht⟩
  · omega
  refine wpList_append_lies _ hgd s x 31 ho base 5 i0 (.int .u8 0) 1 1 Try.underlying31 hi hz0 hz1 hz2 rfl (by decide) v _ _ hs O ⟨g, 0, none⟩ m.length cap (bcells m) hx (by simp [bcells]) ?_ (bcells_one m) hm (by unfold maxLen; omega) (by omega) hb _ rfl ?_
  · intro j u hu
    refine World.news_of_block hh j u ?_
    rw [← ht, List.getElem?_take] at hu
    split at hu
    · exact hu
    · cases hu
  · intro g' cap' w3 hown hgrow hat hlt
    rw [bcells_append] at hown
    have hown' : OwnB w3 base (.slice (some ⟨g', 0, none⟩) (l.length + m.length) cap') (l ++ m) := by
      unfold OwnB
      rw [List.length_append]
      exact hown
    have B0 : Below w.heap.size w w := Below.refl _ _
    refine h _ w3 hown' (fun wx => past_append B0 hgrow hat rfl) ((Below.refl base w).grown hgrow hb (fun k hk => (O.lt k hk).1))

/-- append(s, c) of owned bytes. -/
theorem appB {ops : Array Oper} {rest : List Oper} {o : Oper} {a : Act} {Q : Exit → Act → World → Prop} (w0 : World) (base g : Nat) (s x : Operand) (v : Value) (l : List UInt8) (c : UInt8) (n : Int) (hgd : o.guard = none)
    (ho : o.op = .call { callee := .builtin .append, args := #[s, x], argTypes := #[31, 31] }) (hs : a.eval s = v) (hx : a.eval x = .slice (some ⟨g, 0, none⟩) 1 1) (hg : g = w0.heap.size) (hn : (c.toNat : Int) = n)
    (O : OwnB w0 base v l) (hl : l.length + 1 ≤ 140737488351232) (hb : base ≤ w0.heap.size)
    (h : ∀ v' w', OwnB w' base v' (l ++ [c]) → (∀ wx, Past wx v v' w0 w') → Below base w0 w' → wpList Try.prog ops Q rest (a.put o.dst v') w') :
    wpList Try.prog ops Q (o :: rest) a (w0.alloc (.cells #[.int .u8 n] 5)) := by
  subst hg hn
  refine appBs base w0.heap.size s x v _ l [c] hgd ho hs hx (O.alloc _) (own_lits w0 _ (Nat.le_refl _) [c] _ (by simp [bcells]) (by unfold maxLen; simp)) (by simp) (by simpa using hl) (by simp; omega) ?_
  intro v' w' h1 h2 h3
  exact h v' w' h1 (fun wx => (Past.alloc wx v w0 _).trans (h2 wx)) (((Below.refl base w0).alloc hb _).trans h3)

/-- What lies apart from what a call may write stays owned. -/
theorem OwnB.below {w w' : World} {base : Nat} {v : Value} {l : List UInt8} (o : OwnB w base v l) (B : Below w.heap.size w w') : OwnB w' base v l := by
  obtain ⟨h1, h2⟩ := o
  refine ⟨h1, ?_⟩
  rcases h2 with h2 | ⟨g, cap, cur, hv, hg, hh, r⟩
  · exact Or.inl h2
  · exact Or.inr ⟨g, cap, cur, hv, hg, by rw [B.block g (Array.getElem?_eq_some_iff.1 hh).1]; exact hh, r⟩
end Go.Proofs.Ytilmlegkkgiahaa
