/- Bytes and words in memory: what append does with rows of them that the call owns. Condition: they lie within the reach. What the lexer's small functions answer, and the document's: which bytes are blanks, digits, letters, and what a hexadecimal digit says. No condition. What the lexer's symbolSize and symbol answer, and the document's symbol. Condition: the text lies within the reach. What the lexer's sizeOf answers: how many bytes at a text's beginning are such ones. Condition: the text lies within the reach; the function that is handed in tells of each byte. -/
import Derived.Test.YtblkhlhhlalbkaaGreatDoorChecked
import Derived.Test.YtblkhlhhlalbkaaGreatDoorLA
import Derived.WalkKit
import Derived.WalkSpells
import Derived.WalkLawsBesides
import Derived.WalkSmall
import Derived.Handy
import Derived.Laws.IdiomStrings
import Derived.Laws.StructEq
import Derived.Lib.QuietBelow
import Derived.Deep.AppendLies
import Derived.Deep.RegionLaw
import Derived.Deep.RegionHeldLaw
namespace Go.Proofs.YtblkhlhhlalbkaaGreatDoor
open Go.RowKit Go.Lib Go.Sort
set_option linter.unusedVariables false

theorem hid {p : Prop} (h : p) : Hid p := h
theorem infoB : (Tryz.prog.info? 5).map (fun i => (i.zero, i.size, i.bytes)) = some (some (.int .u8 0), 1, 1) := by kernel_rfl
theorem infoT : (Tryz.prog.info? 106).map (fun i => (i.zero, i.size, i.bytes)) = some (some (.agg #[.int .i64 0, .string ByteArray.empty, .int .i64 0, .int .i64 0]), 4, 40) := by kernel_rfl
theorem lxcell_lt {w : World} {a : Addr} {v : Value} (h : w.cell? a = some v) : a.block < w.heap.size := World.block_lt_of_cell? w a h
theorem lxbelow_cell {w w' : World} {a : Addr} {v : Value} (hb : Below w.heap.size w w') (h : w.cell? a = some v) : w'.cell? a = some v := (hb.cell (lxcell_lt h)).trans h
theorem lxbelow_new {w w1 : World} {o : Obj} (h : Below (w.alloc o).heap.size (w.alloc o) w1) : Below w.heap.size w w1 :=
  ((Below.refl w.heap.size w).alloc (Nat.le_refl _) o).trans (h.mono (by simp))

def bcells (l : List UInt8) : List Value := l.map fun b => Value.int .u8 b.toNat
/-- A row of bytes that the call owns; nil, if it has none yet. -/
def LB (w : World) (base : Nat) (v : Value) (l : List UInt8) : Prop := w.ownsRow base 5 1 v l.length (bcells l)
theorem lb_nil (w : World) (base : Nat) : LB w base (.slice none 0 0) [] := World.ownsRow_nil w base _ _
theorem lb_conv {w : World} {base : Nat} {v : Value} {l : List UInt8} (h : LB w base v l) : (convert 93 9 v).run Tryz.prog w = .ok (.string ⟨l.toArray⟩) w := by
  obtain ⟨hl, h2⟩ := h
  rcases h2 with ⟨h0, h1⟩ | ⟨g, cap, cur, hv, hg, hh, hle, hm, hs, ht⟩
  · subst h0
    obtain rfl : l = [] := List.length_eq_zero_iff.1 h1
    have := run_convert_bytes_string (P := Tryz.prog) w 93 9 5 none 0 0 Tryz.underlying93 Tryz.underlying5 Tryz.underlying9
    rw [this]
    rfl
  · subst hv
    refine run_convert_bytes_back (P := Tryz.prog) w 93 9 5 ⟨g, 0, none⟩ cap l Tryz.underlying93 Tryz.underlying5 Tryz.underlying9 (fun j hj => ?_)
    have hu : (bcells l)[j]? = some (.int .u8 l[j].toNat) := by simp [bcells, hj]
    rw [← ht, List.getElem?_take, if_pos (by omega), Array.getElem?_toList] at hu
    rw [show (⟨g, 0, none⟩ : Addr).add j = ⟨g, 0 + j, none⟩ by unfold Addr.add; split <;> simp_all]
    simp [World.cell?, hh, hu]
theorem LB.below {w w' : World} {base : Nat} {v : Value} {l : List UInt8} (o : LB w base v l) (B : Below w.heap.size w w') : LB w' base v l := by
  obtain ⟨h1, h2⟩ := o
  refine ⟨h1, ?_⟩
  rcases h2 with h2 | ⟨g, cap, cur, hv, hg, hh, r⟩
  · exact Or.inl h2
  · exact Or.inr ⟨g, cap, cur, hv, hg, by rw [B.block g (Array.getElem?_eq_some_iff.1 hh).1]; exact hh, r⟩
theorem lb_form {w : World} {base : Nat} {v : Value} {l : List UInt8} (o : LB w base v l) : ∃ p c, v = .slice p l.length c := by
  obtain ⟨h1, h2⟩ := o
  rcases h2 with ⟨rfl, h0⟩ | ⟨g, cap, cur, rfl, hg, hh, hle, hm, hs, ht⟩
  · exact ⟨none, 0, by rw [h0]⟩
  · exact ⟨_, cap, rfl⟩

/-- append(s, c) of owned bytes. -/
theorem lbApp {ops : Array Oper} {rest : List Oper} {o : Oper} {a : Act} {Q : Exit → Act → World → Prop} (w0 : World) (base g : Nat) (s x : Operand) (v : Value) (l : List UInt8) (c : UInt8) (n : Int) (hgd : o.guard = none)
    (ho : o.op = .call { callee := .builtin .append, args := #[s, x], argTypes := #[93, 93] }) (hs : a.eval s = v) (hx : a.eval x = .slice (some ⟨g, 0, none⟩) 1 1) (hg : g = w0.heap.size) (hn : (c.toNat : Int) = n)
    (O : LB w0 base v l) (hl : l.length + 1 ≤ 140737488351232) (hb : base ≤ w0.heap.size)
    (h : ∀ v' w', LB w' base v' (l ++ [c]) → Below base w0 w' → wpList Tryz.prog ops Q rest (a.put o.dst v') w') :
    wpList Tryz.prog ops Q (o :: rest) a (w0.alloc (.cells #[.int .u8 n] 5)) := by
  obtain ⟨i0, hi, hz0, hz1, hz2⟩ := info_parts infoB
  subst hg hn
  refine wpList_append_lies _ hgd s x 93 ho base 5 i0 (.int .u8 0) 1 1 Tryz.underlying93 hi hz0 hz1 hz2 rfl (by decide) v _ _ hs (World.ownsRow.alloc O _) ⟨w0.heap.size, 0, none⟩ 1 1 [.int .u8 c.toNat] hx rfl (World.news_of_block (heap_alloc_new w0 _)) (by simp [Value.oneCell']) (by decide) (by unfold maxLen; omega) (by omega) (by simp; omega) _ rfl ?_
  intro g' cap' w3 hown hgrow hat hlt
  have hown' : LB w3 base (.slice (some ⟨g', 0, none⟩) (l.length + 1) cap') (l ++ [c]) := by
    unfold LB
    rw [List.length_append, show bcells (l ++ [c]) = bcells l ++ [.int .u8 c.toNat] by simp [bcells]]
    exact hown
  exact h _ w3 hown' (((Below.refl base w0).alloc hb _).grown hgrow (by simp; omega) (fun k hk => (World.ownsRow.lt O k hk).1))
/-- The same at a step of a region that draws its order. -/
theorem lbStep {ops : Array Oper} {o : Oper} {a : Act} {K : Act → World → Prop} {Q : Exit → Act → World → Prop} {E : Prop} (w0 : World) (base g : Nat) (s x : Operand) (v : Value) (l : List UInt8) (c : UInt8) (n : Int) (hgd : o.guard = none)
    (ho : o.op = .call { callee := .builtin .append, args := #[s, x], argTypes := #[93, 93] }) (hs : a.eval s = v) (hx : a.eval x = .slice (some ⟨g, 0, none⟩) 1 1) (hg : g = w0.heap.size) (hn : (c.toNat : Int) = n)
    (O : LB w0 base v l) (hl : l.length + 1 ≤ 140737488351232) (hb : base ≤ w0.heap.size)
    (h : ∀ v' w', LB w' base v' (l ++ [c]) → Below base w0 w' → K (a.put o.dst v') w') :
    if Region.wanted o (yielded ops a.tmps) = true then Oper.wp Tryz.prog o a (w0.alloc (.cells #[.int .u8 n] 5)) K Q else E := by
  obtain ⟨i0, hi, hz0, hz1, hz2⟩ := info_parts infoB
  subst hg hn
  refine step_append_lies _ hgd s x 93 ho base 5 i0 (.int .u8 0) 1 1 Tryz.underlying93 hi hz0 hz1 hz2 rfl (by decide) v _ _ hs (World.ownsRow.alloc O _) ⟨w0.heap.size, 0, none⟩ 1 1 [.int .u8 c.toNat] hx rfl (World.news_of_block (heap_alloc_new w0 _)) (by simp [Value.oneCell']) (by decide) (by unfold maxLen; omega) (by omega) (by simp; omega) _ rfl ?_
  intro g' cap' w3 hown hgrow hat hlt
  have hown' : LB w3 base (.slice (some ⟨g', 0, none⟩) (l.length + 1) cap') (l ++ [c]) := by
    unfold LB
    rw [List.length_append, show bcells (l ++ [c]) = bcells l ++ [.int .u8 c.toNat] by simp [bcells]]
    exact hown
  exact h _ w3 hown' (((Below.refl base w0).alloc hb _).grown hgrow (by simp; omega) (fun k hk => (World.ownsRow.lt O k hk).1))

/-- A word as a value. -/
def tkv (t : Tk) (i : Int) : Value := .agg #[.int .i64 t.k, .string ⟨t.s.toArray⟩, .int .i64 i, .int .i64 t.n]
def cellsT : List (Tk × Nat) → List Value
  | [] => []
  | x :: l => .int .i64 x.1.k :: .string ⟨x.1.s.toArray⟩ :: .int .i64 (x.2 : Int) :: .int .i64 x.1.n :: cellsT l
theorem cellsT_length : ∀ l : List (Tk × Nat), (cellsT l).length = l.length * 4
  | [] => rfl
  | a :: l => by simp [cellsT, cellsT_length l]; omega
theorem cellsT_snoc : ∀ (xs : List (Tk × Nat)) (x : Tk × Nat), cellsT xs ++ [.int .i64 x.1.k, .string ⟨x.1.s.toArray⟩, .int .i64 (x.2 : Int), .int .i64 x.1.n] = cellsT (xs ++ [x])
  | [], a => rfl
  | x :: xs, a => by simp only [cellsT, List.cons_append, cellsT_snoc xs a]
theorem cellsT_at : ∀ (l : List (Tk × Nat)) (i : Nat) (h : i < l.length), (cellsT l)[i * 4]? = some (.int .i64 l[i].1.k) ∧ (cellsT l)[i * 4 + 1]? = some (.string ⟨l[i].1.s.toArray⟩) ∧ (cellsT l)[i * 4 + 2]? = some (.int .i64 (l[i].2 : Int)) ∧ (cellsT l)[i * 4 + 3]? = some (.int .i64 l[i].1.n)
  | a :: l, 0, _ => ⟨rfl, rfl, rfl, rfl⟩
  | a :: l, i + 1, h => by
    have ih := cellsT_at l i (by simpa using h)
    rw [show (i + 1) * 4 = i * 4 + 1 + 1 + 1 + 1 by omega]
    simpa [cellsT] using ih
/-- A row of words that the call owns; nil, if it has none yet. -/
def OT (w : World) (base : Nat) (v : Value) (xs : List (Tk × Nat)) : Prop := w.ownsRow base 106 4 v xs.length (cellsT xs)
theorem ot_nil (w : World) (base : Nat) : OT w base (.slice none 0 0) [] := World.ownsRow_nil w base _ _
theorem OT.below {w w' : World} {base : Nat} {v : Value} {l : List (Tk × Nat)} (o : OT w base v l) (B : Below w.heap.size w w') : OT w' base v l := by
  obtain ⟨h1, h2⟩ := o
  refine ⟨h1, ?_⟩
  rcases h2 with h2 | ⟨g, cap, cur, hv, hg, hh, r⟩
  · exact Or.inl h2
  · exact Or.inr ⟨g, cap, cur, hv, hg, by rw [B.block g (Array.getElem?_eq_some_iff.1 hh).1]; exact hh, r⟩
theorem ot_mono {w : World} {b b' : Nat} {v : Value} {l : List (Tk × Nat)} (h : OT w b v l) (hb : b' ≤ b) : OT w b' v l := by
  obtain ⟨h1, h2⟩ := h
  refine ⟨h1, ?_⟩
  rcases h2 with h2 | ⟨g, cap, cur, hv, hg, r⟩
  · exact Or.inl h2
  · exact Or.inr ⟨g, cap, cur, hv, Nat.le_trans hb hg, r⟩
/-- A block that is older than what the row may lie in is turned. -/
theorem OT.put {w : World} {base : Nat} {v : Value} {l : List (Tk × Nat)} (o : OT w base v l) (p : Addr) (x : Value) (hp : ∀ k, v.ownBlock = some k → k ≠ p.block) : OT (w.setCell p x) base v l := by
  obtain ⟨h1, h2⟩ := o
  refine ⟨h1, ?_⟩
  rcases h2 with h2 | ⟨g, cap, cur, hv, hg, hh, r⟩
  · exact Or.inl h2
  · refine Or.inr ⟨g, cap, cur, hv, hg, ?_, r⟩
    rw [Below.heap_setCell _ _ _ _ (hp g (by rw [hv]; rfl))]
    exact hh
/-- append(s, x) of an owned row of words. -/
theorem otApp {ops : Array Oper} {rest : List Oper} {o : Oper} {a : Act} {Q : Exit → Act → World → Prop} (w0 : World) (base g : Nat) (s x : Operand) (v : Value) (l : List (Tk × Nat)) (t : Tk × Nat) (hgd : o.guard = none)
    (ho : o.op = .call { callee := .builtin .append, args := #[s, x], argTypes := #[85, 85] }) (hs : a.eval s = v) (hx : a.eval x = .slice (some ⟨g, 0, none⟩) 1 1) (hg : g = w0.heap.size)
    (O : OT w0 base v l) (hl : (l.length + 1) * 40 ≤ 140737488351232) (hb : base ≤ w0.heap.size)
    (h : ∀ v' w', OT w' base v' (l ++ [t]) → Below base w0 w' → wpList Tryz.prog ops Q rest (a.put o.dst v') w') :
    wpList Tryz.prog ops Q (o :: rest) a (w0.alloc (.cells #[.int .i64 t.1.k, .string ⟨t.1.s.toArray⟩, .int .i64 (t.2 : Int), .int .i64 t.1.n] 106)) := by
  obtain ⟨i0, hi, hz0, hz1, hz2⟩ := info_parts infoT
  subst hg
  refine wpList_append_lies _ hgd s x 85 ho base 106 i0 _ 4 40 Tryz.underlying85 hi hz0 hz1 hz2 rfl (by decide) v _ _ hs (World.ownsRow.alloc O _) ⟨w0.heap.size, 0, none⟩ 1 1 [.int .i64 t.1.k, .string ⟨t.1.s.toArray⟩, .int .i64 (t.2 : Int), .int .i64 t.1.n] hx rfl (World.news_of_block (heap_alloc_new w0 _)) (by simp [Value.oneCell']) (by decide) (by unfold maxLen; omega) (by omega) (by simp; omega) _ rfl ?_
  intro g' cap' w3 hown hgrow hat hlt
  rw [cellsT_snoc l t] at hown
  have hown' : OT w3 base (.slice (some ⟨g', 0, none⟩) (l.length + 1) cap') (l ++ [t]) := by
    unfold OT
    rw [List.length_append]
    exact hown
  exact h _ w3 hown' (((Below.refl base w0).alloc hb _).grown hgrow (by simp; omega) (fun k hk => (World.ownsRow.lt O k hk).1))

/-- A slice of words in memory. -/
def TR (w : World) (p : Option Addr) (xs : List (Tk × Nat)) : Prop :=
  xs = [] ∨ ∃ b off, p = some ⟨b, off, none⟩ ∧ ∀ i (h : i < xs.length), w.cell? ⟨b, off + i * 4, none⟩ = some (.int .i64 xs[i].1.k) ∧ w.cell? ⟨b, off + i * 4 + 1, none⟩ = some (.string ⟨xs[i].1.s.toArray⟩) ∧ w.cell? ⟨b, off + i * 4 + 2, none⟩ = some (.int .i64 (xs[i].2 : Int)) ∧ w.cell? ⟨b, off + i * 4 + 3, none⟩ = some (.int .i64 xs[i].1.n)
theorem TR.below {w w' : World} {p : Option Addr} {xs : List (Tk × Nat)} (h : TR w p xs) (hb : Below w.heap.size w w') : TR w' p xs := by
  rcases h with h | ⟨b, off, hp, hc⟩
  · exact Or.inl h
  · exact Or.inr ⟨b, off, hp, fun i hi => ⟨lxbelow_cell hb (hc i hi).1, lxbelow_cell hb (hc i hi).2.1, lxbelow_cell hb (hc i hi).2.2.1, lxbelow_cell hb (hc i hi).2.2.2⟩⟩
theorem TR.at {w : World} {p : Option Addr} {xs : List (Tk × Nat)} (h : TR w p xs) {i : Nat} (hi : i < xs.length) : ∃ b off, p = some ⟨b, off, none⟩ ∧ w.cell? ⟨b, off + i * 4, none⟩ = some (.int .i64 xs[i].1.k) ∧ w.cell? ⟨b, off + i * 4 + 1, none⟩ = some (.string ⟨xs[i].1.s.toArray⟩) ∧ w.cell? ⟨b, off + i * 4 + 2, none⟩ = some (.int .i64 (xs[i].2 : Int)) ∧ w.cell? ⟨b, off + i * 4 + 3, none⟩ = some (.int .i64 xs[i].1.n) := by
  rcases h with h | ⟨b, off, hp, hc⟩
  · subst h; simp at hi
  · exact ⟨b, off, hp, hc i hi⟩
theorem TR.of_own {w : World} {base : Nat} {v : Value} {xs : List (Tk × Nat)} (h : OT w base v xs) : ∃ p cap, v = .slice p xs.length cap ∧ xs.length ≤ maxLen ∧ TR w p xs := by
  obtain ⟨h1, h2⟩ := h
  rcases h2 with ⟨rfl, h0⟩ | ⟨g, cap, cur, rfl, hg, hh, hle, hm, hs, ht⟩
  · have : xs = [] := List.length_eq_zero_iff.1 h0
    subst this
    exact ⟨none, 0, rfl, Nat.zero_le _, Or.inl rfl⟩
  · refine ⟨_, cap, rfl, by omega, Or.inr ⟨g, 0, rfl, fun i hi => ?_⟩⟩
    have e := cellsT_at xs i hi
    have key : ∀ j u, j < xs.length * 4 → (cellsT xs)[j]? = some u → w.cell? ⟨g, 0 + j, none⟩ = some u := by
      intro j u hj hu
      rw [← ht, List.getElem?_take, if_pos hj, Array.getElem?_toList] at hu
      simp [World.cell?, hh, hu]
    exact ⟨key _ _ (by omega) e.1, key _ _ (by omega) e.2.1, key _ _ (by omega) e.2.2.1, key _ _ (by omega) e.2.2.2⟩
end Go.Proofs.YtblkhlhhlalbkaaGreatDoor
namespace Go.Proofs.YtblkhlhhlalbkaaGreatDoor
open Go.RowKit Go.Lib Go.Sort
set_option linter.unusedVariables false
set_option maxRecDepth 20000

set_option maxHeartbeats 1000000 in
theorem xdigit_any (c : Int) (w : World) :
    Calls Tryz.prog 84 #[.int .u8 c] w fun e w' => e = .returned (.bool (dig c)) ∧ w' = w := by
  unfold dig
  go_enter Tryz.func84, Tryz.ntmps84
  go_wp2
  all_goals go_ret
  all_goals refine ⟨?_, rfl⟩
  all_goals (simp_all; try (first | omega | (rw [Bool.eq_iff_iff]; simp; omega)))
set_option maxHeartbeats 1000000 in
theorem xletter_any (c : Int) (w : World) :
    Calls Tryz.prog 88 #[.int .u8 c] w fun e w' => e = .returned (.bool (ltr c)) ∧ w' = w := by
  unfold ltr
  go_enter Tryz.func88, Tryz.ntmps88
  go_wp2
  all_goals go_ret
  all_goals refine ⟨?_, rfl⟩
  all_goals (simp_all; try (first | omega | (rw [Bool.eq_iff_iff]; simp; omega)))
set_option maxHeartbeats 1000000 in
theorem xblank_any (c : Int) (w : World) :
    Calls Tryz.prog 69 #[.int .u8 c] w fun e w' => e = .returned (.bool (blk c)) ∧ w' = w := by
  unfold blk
  go_enter Tryz.func69, Tryz.ntmps69
  go_wp2
  all_goals go_ret
  all_goals refine ⟨?_, rfl⟩
  all_goals (simp_all; try (first | omega | (rw [Bool.eq_iff_iff]; simp; omega)))
set_option maxHeartbeats 1000000 in
theorem xword_any (c : Int) (w : World) :
    Calls Tryz.prog 128 #[.int .u8 c] w fun e w' => e = .returned (.bool (wrd c)) ∧ w' = w := by
  have D := fun w => xdigit_any c w
  have L := fun w => xletter_any c w
  unfold wrd
  generalize dig c = d at *
  generalize ltr c = t at *
  cases t
  all_goals (
    go_enter Tryz.func128, Tryz.ntmps128
    go_wp2_with (first
      | (go_at_call 84; with_reducible refine (D _).mono ?_; rintro e w2 ⟨rfl, hw⟩; subst hw)
      | (go_at_call 88; with_reducible refine (L _).mono ?_; rintro e w2 ⟨rfl, hw⟩; subst hw))
    go_ret
    exact ⟨rfl, rfl⟩)

theorem xint {a b : Int} (h : a = b) : Ending.returned (.int .i64 a) = .returned (.int .i64 b) := by rw [h]
theorem hx_digit {c : Int} (h : dig c = true) : hx c = c - 48 := if_pos h
theorem dig_iff (c : Int) : dig c = true ↔ 48 ≤ c ∧ c ≤ 57 := by unfold dig; simp
theorem dig_no (c : Int) : dig c = false ↔ ¬ (48 ≤ c ∧ c ≤ 57) := by unfold dig; simp

set_option maxHeartbeats 1000000 in
theorem xhex_any (c : UInt8) (w : World) :
    Calls Tryz.prog 127 #[.int .u8 (c.toNat : Int)] w fun e w' => e = .returned (.int .i64 (hx (bi c))) ∧ w' = w := by
  have hc := c.toNat_lt
  unfold bi
  generalize c.toNat = n at *
  have D := fun w => xdigit_any (n : Int) w
  have hd := dig_iff (n : Int)
  have HH : Hid (hx (n : Int) = if dig (n : Int) then (n : Int) - 48 else if 97 ≤ (n : Int) ∧ (n : Int) ≤ 102 then (n : Int) - 87 else if 65 ≤ (n : Int) ∧ (n : Int) ≤ 70 then (n : Int) - 55 else -1) := rfl
  rw [HH.out]
  clear HH
  generalize dig (n : Int) = d at *
  cases d with
  | true =>
    have hd' := hd.1 rfl
    rw [if_pos rfl]
    clear hd
    go_enter Tryz.func127, Tryz.ntmps127
    go_wp2_with (go_at_call 84; with_reducible refine (D _).mono ?_; rintro e w2 ⟨rfl, hw⟩; subst hw)
    go_ret
    exact ⟨rfl, rfl⟩
  | false =>
    rw [if_neg (by simp)]
    by_cases h1 : 97 ≤ n ∧ n ≤ 102
    · rw [if_pos (by omega)]
      obtain ⟨h1a, h1b⟩ := h1
      have h1a' : (97 : Int) ≤ n := by omega
      have h1b' : (n : Int) ≤ 102 := by omega
      clear hd
      go_enter Tryz.func127, Tryz.ntmps127
      go_wp2_with (go_at_call 84; with_reducible refine (D _).mono ?_; rintro e w2 ⟨rfl, hw⟩; subst hw)
      go_ret
      exact ⟨xint (by omega), rfl⟩
    · rw [if_neg (by omega)]
      by_cases h2 : 65 ≤ n ∧ n ≤ 70
      · rw [if_pos (by omega)]
        obtain ⟨h2a, h2b⟩ := h2
        have h2a' : (65 : Int) ≤ n := by omega
        have h2b' : (n : Int) ≤ 70 := by omega
        have h3 : ¬ (97 : Int) ≤ n := by omega
        clear hd h1
        go_enter Tryz.func127, Tryz.ntmps127
        go_wp2_with (go_at_call 84; with_reducible refine (D _).mono ?_; rintro e w2 ⟨rfl, hw⟩; subst hw)
        go_ret
        exact ⟨xint (by omega), rfl⟩
      · rw [if_neg (by omega)]
        clear hd
        go_enter Tryz.func127, Tryz.ntmps127
        go_wp2_with (go_at_call 84; with_reducible refine (D _).mono ?_; rintro e w2 ⟨rfl, hw⟩; subst hw)
        all_goals first
          | (go_ret; exact ⟨rfl, rfl⟩)
          | (exfalso; omega)
end Go.Proofs.YtblkhlhhlalbkaaGreatDoor
namespace Go.Proofs.YtblkhlhhlalbkaaGreatDoor
open Go.RowKit Go.Lib Go.Sort
set_option linter.unusedVariables false
set_option maxRecDepth 20000

/-- A text's first byte. -/
theorem data_cons {s : ByteArray} (h : 0 < s.size) : s.data.toList = s[0] :: s.data.toList.drop 1 := by
  obtain ⟨⟨l⟩⟩ := s
  cases l with
  | nil => simp [ByteArray.size] at h
  | cons c l => rfl
theorem ext_toList (s : ByteArray) (a b : Nat) : (s.extract a b).toList = (s.data.toList.drop a).take (b - a) := by
  rw [ByteArray.toList_eq]
  simp [List.extract]
theorem ext_data (s : ByteArray) (a b : Nat) : (s.extract a b).data.toList = (s.data.toList.drop a).take (b - a) := by
  simp [List.extract]
theorem sym_text {s : ByteArray} (h : 0 < s.size) (m : Nat) (hm : m = min 2 s.size) : sym s.data.toList = if is2 (s.extract 0 m).toList then 2 else if is1 (s[0].toNat : Int) then 1 else 0 := by
  rw [ext_toList]
  have e := data_cons h
  have hl : s.data.toList.length = s.size := by simp
  have e2 : (s.data.toList.drop 0).take (m - 0) = s[0] :: (s.data.toList.drop 1).take 1 := by
    rw [List.drop_zero, Nat.sub_zero]
    have : s.data.toList.take m = (s[0] :: s.data.toList.drop 1).take m := by rw [← e]
    rw [this]
    by_cases h2 : s.size = 1
    · have : m = 1 := by omega
      subst this
      have : s.data.toList.drop 1 = [] := List.drop_eq_nil_of_le (by omega)
      rw [this]
      rfl
    · have : m = 2 := by omega
      subst this
      rfl
  rw [e2]
  have : sym s.data.toList = sym (s[0] :: s.data.toList.drop 1) := by rw [← e]
  rw [this]
  rfl

set_option maxHeartbeats 4000000 in
theorem symSize_any (s : ByteArray) (w : World) (h : 0 < s.size) (hs : s.size ≤ 140737488351232) :
    Calls Tryz.prog 130 #[.string s] w fun e w' => e = .returned (.int .i64 (sym s.data.toList)) ∧ w' = w := by
  obtain ⟨m, hm⟩ : ∃ m, m = min 2 s.size := ⟨_, rfl⟩
  have HS := hid (sym_text h m hm)
  generalize sym s.data.toList = R at *
  have h12 : s.size = 1 ∨ 2 ≤ s.size := by omega
  rcases h12 with h1 | h2
  · obtain rfl : m = 1 := by omega
    have hz : (0 : Int) < (s.size : Int) := by omega
    clear hm
    go_enter Tryz.func130, Tryz.ntmps130
    go_wp2
    all_goals go_ret
    all_goals refine ⟨?_, rfl⟩
    all_goals first
      | (exfalso; exact Bool.noConfusion ((show ((s.extract 0 1).toList == [60, 62]) = true by assumption).symm.trans (show ((s.extract 0 1).toList == [60, 62]) = false by assumption)))
      | (exfalso; exact Bool.noConfusion ((show ((s.extract 0 1).toList == [60, 61]) = true by assumption).symm.trans (show ((s.extract 0 1).toList == [60, 61]) = false by assumption)))
      | (exfalso; exact Bool.noConfusion ((show ((s.extract 0 1).toList == [62, 61]) = true by assumption).symm.trans (show ((s.extract 0 1).toList == [62, 61]) = false by assumption)))
      | (exfalso; exact Bool.noConfusion ((show ((s.extract 0 1).toList == [124, 124]) = true by assumption).symm.trans (show ((s.extract 0 1).toList == [124, 124]) = false by assumption)))
      | (rw [HS.out, is2_none (by assumption) (by assumption) (by assumption) (by assumption), is1_none (by assumption) (by assumption) (by assumption) (by assumption) (by assumption) (by assumption) (by assumption) (by assumption) (by assumption) (by assumption) (by assumption) (by assumption) (by assumption)]; rfl)
      | (rw [HS.out, is2_none (by assumption) (by assumption) (by assumption) (by assumption), is1_mem (by assumption) (by decide +kernel)]; rfl)
      | (rw [HS.out, is2_mem (by assumption) (by decide +kernel)]; rfl)
  · obtain rfl : m = 2 := by omega
    have hz : (2 : Int) ≤ (s.size : Int) := by omega
    clear hm
    go_enter Tryz.func130, Tryz.ntmps130
    go_wp2
    all_goals go_ret
    all_goals refine ⟨?_, rfl⟩
    all_goals first
      | (exfalso; exact Bool.noConfusion ((show ((s.extract 0 2).toList == [60, 62]) = true by assumption).symm.trans (show ((s.extract 0 2).toList == [60, 62]) = false by assumption)))
      | (exfalso; exact Bool.noConfusion ((show ((s.extract 0 2).toList == [60, 61]) = true by assumption).symm.trans (show ((s.extract 0 2).toList == [60, 61]) = false by assumption)))
      | (exfalso; exact Bool.noConfusion ((show ((s.extract 0 2).toList == [62, 61]) = true by assumption).symm.trans (show ((s.extract 0 2).toList == [62, 61]) = false by assumption)))
      | (exfalso; exact Bool.noConfusion ((show ((s.extract 0 2).toList == [124, 124]) = true by assumption).symm.trans (show ((s.extract 0 2).toList == [124, 124]) = false by assumption)))
      | (rw [HS.out, is2_none (by assumption) (by assumption) (by assumption) (by assumption), is1_none (by assumption) (by assumption) (by assumption) (by assumption) (by assumption) (by assumption) (by assumption) (by assumption) (by assumption) (by assumption) (by assumption) (by assumption) (by assumption)]; rfl)
      | (rw [HS.out, is2_none (by assumption) (by assumption) (by assumption) (by assumption), is1_mem (by assumption) (by decide +kernel)]; rfl)
      | (rw [HS.out, is2_mem (by assumption) (by decide +kernel)]; rfl)

/-- The parts of what is read at the front. -/
def fk : Option (Tk × Nat) → Int
  | none => 0
  | some x => x.1.k
def fs : Option (Tk × Nat) → List UInt8
  | none => []
  | some x => x.1.s
def fn : Option (Tk × Nat) → Int
  | none => 0
  | some x => x.1.n
def fz : Option (Tk × Nat) → Nat
  | none => 0
  | some x => x.2
/-- What a function that reads a word at the front answers. -/
def fstV (X : Option (Tk × Nat)) : Value := .tuple #[.agg #[.int .i64 (fk X), .string ⟨(fs X).toArray⟩, .int .i64 0, .int .i64 (fn X)], .int .i64 (fz X : Int)]

set_option maxHeartbeats 1000000 in
theorem xsymbol_any (s : ByteArray) (w : World) (h : 0 < s.size) (hs : s.size ≤ 140737488351232) :
    Calls Tryz.prog 90 #[.string s] w fun e w' => e = .returned (fstV (if sym s.data.toList = 0 then none else some (⟨5, s.data.toList.take (sym s.data.toList), 0⟩, sym s.data.toList))) ∧ Below w.heap.size w w' := by
  have C := hid (fun w => symSize_any s w h hs)
  have hle := sym_le s.data.toList
  rw [show s.data.toList.length = s.size by simp] at hle
  have HX : Hid (∀ m, s.extract 0 m = ⟨(s.data.toList.take m).toArray⟩) := fun m => by
    have := ext_data s 0 m
    rw [List.drop_zero, Nat.sub_zero] at this
    rw [← this]
  generalize sym s.data.toList = m at *
  by_cases hm : m = 0
  · subst hm
    go_enter Tryz.func90, Tryz.ntmps90
    go_wp2_with (go_at_call 130; with_reducible refine (C.out _).mono ?_; rintro e w2 ⟨rfl, hw⟩; subst hw)
    refine bodyPost_ret (by simp [results, Tryz.results90, go_sem]; try rfl) rfl ?_
    exact ⟨rfl, by go_grown⟩
  · rw [if_neg hm]
    have hm0 : ((m : Int) == 0) = false := beq_eq_false_iff_ne.2 (by omega)
    have HM : Hid (m ≠ 0) := hm
    clear hm
    go_enter Tryz.func90, Tryz.ntmps90
    go_wp2_with (go_at_call 130; with_reducible refine (C.out _).mono ?_; rintro e w2 ⟨rfl, hw⟩; subst hw)
    refine bodyPost_ret (by simp [results, Tryz.results90, go_sem]; try rfl) rfl ?_
    refine ⟨?_, by go_grown⟩
    show _ = Ending.returned (.tuple #[.agg #[.int .i64 5, .string ⟨(s.data.toList.take m).toArray⟩, .int .i64 0, .int .i64 0], .int .i64 m])
    rw [← HX.out m]
end Go.Proofs.YtblkhlhhlalbkaaGreatDoor
namespace Go.Proofs.YtblkhlhhlalbkaaGreatDoor
open Go.RowKit Go.Lib Go.Sort
set_option linter.unusedVariables false
set_option maxRecDepth 20000

theorem data_at (s : ByteArray) {k : Nat} (h : k < s.size) : s.data.toList[k]? = some s[k] := by
  simp [h]; rfl
theorem drop_at (s : ByteArray) {k : Nat} (h : k < s.size) : s.data.toList.drop k = s[k] :: s.data.toList.drop (k + 1) := by
  have h' : k < s.data.toList.length := by simpa using h
  rw [List.drop_eq_getElem_cons h']
  rfl
theorem drop_end (s : ByteArray) {k : Nat} (h : s.size ≤ k) : s.data.toList.drop k = [] := List.drop_eq_nil_of_le (by simpa using h)
theorem cntW_hit {p : UInt8 → Bool} {c : UInt8} {r : List UInt8} (h : p c = true) : cntW p (c :: r) = cntW p r + 1 := by rw [cntW, if_pos h]
theorem cntW_miss {p : UInt8 → Bool} {c : UInt8} {r : List UInt8} (h : p c = false) : cntW p (c :: r) = 0 := by rw [cntW, if_neg (by simp [h])]

set_option maxHeartbeats 1000000 in
theorem sizeOf_digit (s : ByteArray) (w : World) (hs : s.size ≤ 140737488351232) :
    Calls Tryz.prog 125 #[.string s, .func (.func 84) #[] #[]] w fun e w' => e = .returned (.int .i64 (cntW isD s.data.toList)) ∧ w' = w := by
  have HE : Hid (cntW isD s.data.toList = 0 + cntW isD (s.data.toList.drop 0)) := by simp [Hid]
  obtain ⟨R, HR⟩ : ∃ R, Hid (cntW isD s.data.toList = R) := ⟨_, rfl⟩
  rw [HR.out] at HE ⊢
  go_enter Tryz.func125, Tryz.ntmps125
  go_wp2
  go_loopw [5] (fun i wr => ∃ k : Nat, k ≤ s.size ∧ i = .int .i64 k ∧ Hid (R = k + cntW isD (s.data.toList.drop k)) ∧ wr = w) (fun i _ => s.size - (intOf i).toNat)
  case atStart => exact ⟨0, Nat.zero_le _, rfl, HE, rfl⟩
  case round =>
    obtain ⟨k, hk, rfl, hT, rfl⟩ := hrel
    by_cases hlt : k < s.size
    · have HD := hid (drop_at s hlt)
      have C := hid (fun w => xdigit_any (s[k].toNat : Int) w)
      have HC : Hid (isD s[k] = dig (s[k].toNat : Int)) := rfl
      have hkz : (k : Int) < s.size := by omega
      cases hb : dig (s[k].toNat : Int) with
      | true =>
        rw [hb] at C HC
        have HN : Hid (R = (k + 1) + cntW isD (s.data.toList.drop (k + 1))) := by
          show _ = _
          rw [hT.out, HD.out, cntW_hit HC.out]
          omega
        clear hT hb HC HD HE
        go_wp2_with (go_at_call 84; with_reducible refine (C.out _).mono ?_; rintro e w2 ⟨rfl, hw⟩; subst hw)
        go_roundw
        case rel => exact ⟨k + 1, by omega, by go_num, HN, trivial⟩
        case measure => simp [intOf]; omega
      | false =>
        rw [hb] at C HC
        have HN : Hid (R = k) := by
          show _ = _
          rw [hT.out, HD.out, cntW_miss HC.out]
          omega
        clear hT hb HC HD HE
        go_wp2_with (go_at_call 84; with_reducible refine (C.out _).mono ?_; rintro e w2 ⟨rfl, hw⟩; subst hw)
        go_ret
        exact ⟨by rw [HN.out]; rfl, rfl⟩
    · have HN : Hid (R = k) := by
        show _ = _
        rw [hT.out, drop_end s (by omega)]
        rfl
      have hkz : ¬ (k : Int) < s.size := by omega
      clear hT HE
      go_wp2_with fail
      go_ret
      exact ⟨by rw [HN.out]; rfl, rfl⟩

set_option maxHeartbeats 1000000 in
theorem sizeOf_word (s : ByteArray) (w : World) (hs : s.size ≤ 140737488351232) :
    Calls Tryz.prog 125 #[.string s, .func (.func 128) #[] #[]] w fun e w' => e = .returned (.int .i64 (cntW isW s.data.toList)) ∧ w' = w := by
  have HE : Hid (cntW isW s.data.toList = 0 + cntW isW (s.data.toList.drop 0)) := by simp [Hid]
  obtain ⟨R, HR⟩ : ∃ R, Hid (cntW isW s.data.toList = R) := ⟨_, rfl⟩
  rw [HR.out] at HE ⊢
  go_enter Tryz.func125, Tryz.ntmps125
  go_wp2
  go_loopw [5] (fun i wr => ∃ k : Nat, k ≤ s.size ∧ i = .int .i64 k ∧ Hid (R = k + cntW isW (s.data.toList.drop k)) ∧ wr = w) (fun i _ => s.size - (intOf i).toNat)
  case atStart => exact ⟨0, Nat.zero_le _, rfl, HE, rfl⟩
  case round =>
    obtain ⟨k, hk, rfl, hT, rfl⟩ := hrel
    by_cases hlt : k < s.size
    · have HD := hid (drop_at s hlt)
      have C := hid (fun w => xword_any (s[k].toNat : Int) w)
      have HC : Hid (isW s[k] = wrd (s[k].toNat : Int)) := rfl
      have hkz : (k : Int) < s.size := by omega
      cases hb : wrd (s[k].toNat : Int) with
      | true =>
        rw [hb] at C HC
        have HN : Hid (R = (k + 1) + cntW isW (s.data.toList.drop (k + 1))) := by
          show _ = _
          rw [hT.out, HD.out, cntW_hit HC.out]
          omega
        clear hT hb HC HD HE
        go_wp2_with (go_at_call 128; with_reducible refine (C.out _).mono ?_; rintro e w2 ⟨rfl, hw⟩; subst hw)
        go_roundw
        case rel => exact ⟨k + 1, by omega, by go_num, HN, trivial⟩
        case measure => simp [intOf]; omega
      | false =>
        rw [hb] at C HC
        have HN : Hid (R = k) := by
          show _ = _
          rw [hT.out, HD.out, cntW_miss HC.out]
          omega
        clear hT hb HC HD HE
        go_wp2_with (go_at_call 128; with_reducible refine (C.out _).mono ?_; rintro e w2 ⟨rfl, hw⟩; subst hw)
        go_ret
        exact ⟨by rw [HN.out]; rfl, rfl⟩
    · have HN : Hid (R = k) := by
        show _ = _
        rw [hT.out, drop_end s (by omega)]
        rfl
      have hkz : ¬ (k : Int) < s.size := by omega
      clear hT HE
      go_wp2_with fail
      go_ret
      exact ⟨by rw [HN.out]; rfl, rfl⟩

end Go.Proofs.YtblkhlhhlalbkaaGreatDoor
