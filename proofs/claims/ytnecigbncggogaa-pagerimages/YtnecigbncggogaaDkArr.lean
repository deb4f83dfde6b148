/- Pages as arrays of bytes, whole: made, stored, loaded, copied into, held against one another. No conditions. -/
import Derived.Test.YtnecigbncggogaaDkFacts
import Derived.Laws.StructEq
import Derived.Stop.BytesEq
import Derived.Deep.WholeRow
import Derived.Maps.RangeWalk
namespace Go.Proofs.Ytnecigbncggogaa
open Go.RowKit
set_option linter.unusedVariables false
set_option maxRecDepth 20000

/-- A block of cells. -/
def Blk (w : World) (g : Nat) (cs : List Value) (t : TypeId) : Prop := w.heap[g]? = some (.cells cs.toArray t (0, 0))
theorem Blk.lt {w : World} {g : Nat} {cs : List Value} {t : TypeId} (h : Blk w g cs t) : g < w.heap.size := (Array.getElem?_eq_some_iff.1 h).1
theorem Blk.same {w w' : World} {g : Nat} {cs : List Value} {t : TypeId} (h : Blk w g cs t) (e : w'.heap[g]? = w.heap[g]?) : Blk w' g cs t := e.trans h
theorem Blk.chg {F : Nat → Prop} {w w' : World} {g : Nat} {cs : List Value} {t : TypeId} (h : Blk w g cs t) (c : Chg F w w') (hn : ¬ F g) : Blk w' g cs t := h.same (c.block g h.lt hn)
theorem Blk.below {w w' : World} {g B : Nat} {cs : List Value} {t : TypeId} (h : Blk w g cs t) (c : Below B w w') (hn : g < B) : Blk w' g cs t := h.same (c.block g hn)
theorem Blk.cell {w : World} {g : Nat} {cs : List Value} {t : TypeId} (h : Blk w g cs t) (i : Nat) : w.cell? ⟨g, i, none⟩ = cs[i]? := by
  rw [cell_of_row w g i cs.toArray t (0, 0) h]
  simp
theorem Blk.frozen {w : World} {g : Nat} {cs : List Value} {t : TypeId} (h : Blk w g cs t) (i : Nat) : w.frozen? ⟨g, i, none⟩ = false := frozen_of_row w g i _ t h
theorem Blk.alloc {w : World} {g : Nat} {cs : List Value} {t : TypeId} (h : Blk w g cs t) (o : Obj) : Blk (w.alloc o) g cs t := h.same (Below.heap_alloc _ _ _ h.lt)
theorem Blk.new (w : World) (cs : List Value) (t : TypeId) : Blk (w.alloc (.cells cs.toArray t)) w.heap.size cs t := heap_alloc_new w _
theorem Blk.set {w : World} {g i : Nat} {cs : List Value} {t : TypeId} (h : Blk w g cs t) (v : Value) : Blk (w.setCell ⟨g, i, none⟩ v) g (cs.set i v) t := by
  have := heap_setCell_same w g i cs.toArray t v h
  unfold Blk
  rw [this]
  simp
theorem Blk.range {w : World} {g : Nat} {cs : List Value} {t : TypeId} (h : Blk w g cs t) (o : Nat) (ds : List Value) (hd : ∀ j v, ds[j]? = some v → cs[o + j]? = some v) : w.rangeAt g o ds := fun j v hv => by
  rw [h.cell]
  exact hd j v hv

/-- A value built whole. -/
theorem wl_build {ops : Array Oper} {rest : List Oper} {o : Oper} {a : Act} {w : World} {Q : Exit → Act → World → Prop} (hg : o.guard = none) (t : TypeId) (parts : Array (Nat × Operand)) (ho : o.op = .build t parts) (vs : List (Nat × Value)) (cells : Array Value)
    (hp : (parts.map fun (i, x) => (i, a.eval x)).toList = vs) (hb : Try.prog.built t vs = some cells)
    (h : wpList Try.prog ops Q rest (a.put o.dst (.agg cells)) w) : wpList Try.prog ops Q (o :: rest) a w :=
  wpList_build hg t parts ho (by rw [hp, hb]; rfl) (by rw [hp, hb]; exact h)
/-- A whole value into the block that was made last. -/
theorem wl_store_new {ops : Array Oper} {rest : List Oper} {o : Oper} {a : Act} {w : World} {Q : Exit → Act → World → Prop} (hgd : o.guard = none) (t : TypeId) (x y : Operand) (ho : o.op = .store t x y) (g : Nat) (c cells : Array Value)
    (hx : a.eval x = .pointer (some ⟨g, 0, none⟩)) (hg : g = w.heap.size) (hy : a.eval y = .agg cells) (hi : (Try.prog.info? t).map (·.size) = some cells.size) (hold : c.size = cells.size) (h1 : cells.all (·.oneCell') = true)
    (h : wpList Try.prog ops Q rest (a.put o.dst undef) (w.alloc (.cells cells t))) : wpList Try.prog ops Q (o :: rest) a (w.alloc (.cells c t)) := by
  subst hg
  refine wpList_store_row hgd t x y ho w.heap.size cells hx hy t c (heap_alloc_new w _) hi hold h1 ?_
  rw [World.setRow_alloc_new]
  exact h
/-- A whole value into a block. -/
theorem wl_store_blk {ops : Array Oper} {rest : List Oper} {o : Oper} {a : Act} {w : World} {Q : Exit → Act → World → Prop} (hgd : o.guard = none) (t : TypeId) (x y : Operand) (ho : o.op = .store t x y) (g : Nat) (c cells : List Value)
    (hx : a.eval x = .pointer (some ⟨g, 0, none⟩)) (hy : a.eval y = .agg cells.toArray) (hb : Blk w g c t) (hi : (Try.prog.info? t).map (·.size) = some cells.length) (hold : c.length = cells.length) (h1 : ∀ v ∈ cells, v.oneCell' = true)
    (h : ∀ w', Blk w' g cells t → (∀ F : Nat → Prop, F g → Chg F w w') → w'.heap.size = w.heap.size → wpList Try.prog ops Q rest (a.put o.dst undef) w') : wpList Try.prog ops Q (o :: rest) a w := by
  refine wpList_store_row hgd t x y ho g cells.toArray hx hy t c.toArray hb (by simpa using hi) (by simpa using hold) (all_oneCell_toArray h1) ?_
  exact h _ (setRow_heap w g _ _ t _ hb) (fun F hF => (Chg.refl F w).setRow (Or.inl hF) _) (by simp)
/-- A whole value out of a block. -/
theorem wl_load_blk {ops : Array Oper} {rest : List Oper} {o : Oper} {a : Act} {w : World} {Q : Exit → Act → World → Prop} (hgd : o.guard = none) (t : TypeId) (x : Operand) (ho : o.op = .load t x) (g : Nat) (cs : List Value) (d : TypeDesc)
    (hx : a.eval x = .pointer (some ⟨g, 0, none⟩)) (hb : Blk w g cs t) (hu : Try.prog.underlying t = some d) (hd : d.isRow = true) (hi : (Try.prog.info? t).map (·.size) = some cs.length)
    (h : wpList Try.prog ops Q rest (a.put o.dst (.agg cs.toArray)) w) : wpList Try.prog ops Q (o :: rest) a w :=
  wpList_load_mid hgd t x ho g 0 hx cs d (hb.range 0 cs (fun j v hv => by simpa using hv)) hu hd hi h
/-- copy of bytes into a block. -/
theorem wl_copy {ops : Array Oper} {rest : List Oper} {o : Oper} {a : Act} {w : World} {Q : Exit → Act → World → Prop} (hgd : o.guard = none) (d s : Operand)
    (ho : o.op = .call { callee := .builtin .copy, args := #[d, s], argTypes := #[22, 22] })
    (g off dLen dCap : Nat) (sp : Option Addr) (sLen sCap : Nat) (hd : a.eval d = .slice (some ⟨g, off, none⟩) dLen dCap) (hs : a.eval s = .slice sp sLen sCap)
    (cur : List Value) (t : TypeId) (hb : Blk w g cur t) (cs : List Value) (hn : cs.length = Nat.min sLen dLen)
    (hsrc : 0 < cs.length → ∃ ad, sp = some ad ∧ ∀ j v, cs[j]? = some v → w.cell? (ad.add j) = some v) (hfit : off + cs.length ≤ cur.length) (h1 : ∀ v ∈ cs, v.oneCell' = true)
    (h : ∀ w', Blk w' g (splice cur off cs) t → (∀ F : Nat → Prop, F g → Chg F w w') → w'.heap.size = w.heap.size → wpList Try.prog ops Q rest (a.put o.dst (goInt cs.length)) w') : wpList Try.prog ops Q (o :: rest) a w := by
  by_cases h0 : cs.length = 0
  · obtain rfl : cs = [] := List.eq_nil_of_length_eq_zero h0
    refine wpList_copy_nothing hgd d s 22 22 ho 5 Try.underlying22 sizeByte _ sp dLen dCap sLen sCap hd hs (by simpa using hn.symm) ?_
    exact h w (by simpa [splice] using hb) (fun F _ => Chg.refl F w) rfl
  · obtain ⟨ad, rfl, hs2⟩ := hsrc (by omega)
    refine wpList_copy_own hgd d s 22 22 ho 5 Try.underlying22 sizeByte g off dLen dCap ad sLen sCap hd hs cur.toArray t hb cs hn hs2 (by simpa using hfit) h1 ?_
    exact h _ (by simpa [splice, Blk] using setRow_heap w g _ _ t _ hb) (fun F hF => (Chg.refl F w).setRow (Or.inl hF) _) (by simp)

/-! ### Pages -/
/-- A block that is a page. -/
def Pg (w : World) (g : Nat) (l : List UInt8) : Prop := w.heap[g]? = some (.cells (pg l) 93 (0, 0))
theorem Pg.blk {w : World} {g : Nat} {l : List UInt8} (h : Pg w g l) : Blk w g (bcells l) 93 := h
theorem Pg.new (w : World) (l : List UInt8) : Pg (w.alloc (.cells (pg l) 93)) w.heap.size l := heap_alloc_new w _
theorem pg_info {l : List UInt8} (h : l.length = 512) : (Try.prog.info? 93).map (·.size) = some (pg l).size := by rw [pg_size, h]; exact sizePage
theorem bc_info {l : List UInt8} (h : l.length = 512) : (Try.prog.info? 93).map (·.size) = some (bcells l).length := by rw [bcells_len, h]; exact sizePage
theorem wl_build_page {ops : Array Oper} {rest : List Oper} {o : Oper} {a : Act} {w : World} {Q : Exit → Act → World → Prop} (hg : o.guard = none) (ho : o.op = .build 93 #[])
    (h : wpList Try.prog ops Q rest (a.put o.dst (.agg (pg zero512))) w) : wpList Try.prog ops Q (o :: rest) a w :=
  wl_build hg 93 #[] ho [] _ (by simp) builtPage h
theorem wl_new_page {ops : Array Oper} {rest : List Oper} {o : Oper} {a : Act} {w : World} {Q : Exit → Act → World → Prop} (hgd : o.guard = none) (x y : Operand) (ho : o.op = .store 93 x y) (g : Nat) (l m : List UInt8)
    (hx : a.eval x = .pointer (some ⟨g, 0, none⟩)) (hg : g = w.heap.size) (hy : a.eval y = .agg (pg l)) (hl : l.length = 512) (hm : m.length = 512)
    (h : wpList Try.prog ops Q rest (a.put o.dst undef) (w.alloc (.cells (pg l) 93))) : wpList Try.prog ops Q (o :: rest) a (w.alloc (.cells (pg m) 93)) :=
  wl_store_new hgd 93 x y ho g (pg m) (pg l) hx hg hy (pg_info hl) (by rw [pg_size, pg_size, hl, hm]) (pg_one l) h
theorem wl_load_page {ops : Array Oper} {rest : List Oper} {o : Oper} {a : Act} {w : World} {Q : Exit → Act → World → Prop} (hgd : o.guard = none) (x : Operand) (ho : o.op = .load 93 x) (g off : Nat) (hx : a.eval x = .pointer (some ⟨g, off, none⟩)) (l : List UInt8)
    (hb : w.rangeAt g off (bcells l)) (hl : l.length = 512) (h : wpList Try.prog ops Q rest (a.put o.dst (.agg (pg l))) w) : wpList Try.prog ops Q (o :: rest) a w :=
  wpList_load_mid hgd 93 x ho g off hx (bcells l) _ hb Try.underlying93 rfl (bc_info hl) h
theorem Pg.range {w : World} {g : Nat} {l : List UInt8} (h : Pg w g l) : w.rangeAt g 0 (bcells l) := h.blk.range 0 _ (fun j v hv => by simpa using hv)
theorem splice_over (a l : List UInt8) : splice (bcells l) 0 (bcells a) = bcells (over a l) := by
  unfold splice over
  rw [List.take_zero, List.nil_append, Nat.zero_add, bcells_len, bcells_drop, bcells_append]
theorem wl_copy_page {ops : Array Oper} {rest : List Oper} {o : Oper} {a : Act} {w : World} {Q : Exit → Act → World → Prop} (hgd : o.guard = none) (d s : Operand)
    (ho : o.op = .call { callee := .builtin .copy, args := #[d, s], argTypes := #[22, 22] })
    (g dCap : Nat) (sp : Option Addr) (sLen sCap : Nat) (hd : a.eval d = .slice (some ⟨g, 0, none⟩) 512 dCap) (hs : a.eval s = .slice sp sLen sCap)
    (l b : List UInt8) (hb : Pg w g l) (hl : l.length = 512) (hn : sLen = b.length) (h512 : b.length ≤ 512)
    (hsrc : 0 < (bcells b).length → ∃ ad, sp = some ad ∧ ∀ j v, (bcells b)[j]? = some v → w.cell? (ad.add j) = some v)
    (h : ∀ w', Pg w' g (over b l) → (∀ F : Nat → Prop, F g → Chg F w w') → w'.heap.size = w.heap.size → wpList Try.prog ops Q rest (a.put o.dst (goInt (bcells b).length)) w') : wpList Try.prog ops Q (o :: rest) a w := by
  refine wl_copy hgd d s ho g 0 512 dCap sp sLen sCap hd hs (bcells l) 93 hb.blk (bcells b) ?_ hsrc ?_ (bcells_one b) ?_
  · rw [bcells_len, hn]; exact (Nat.min_eq_left h512).symm
  · rw [bcells_len, bcells_len, hl]; omega
  · intro w' B C S
    rw [splice_over] at B
    exact h w' B C S
/-- The end of a function whose result is a page in a variable. -/
theorem ret_page {fn : Func} {R : Ending → World → Prop} {p : Tmp} {a : Act} {w : World} {g : Nat} {l : List UInt8} (hf : fn.results = #[.cell p 93]) (hp : a.tmps.getD p undef = .pointer (some ⟨g, 0, none⟩)) (hb : Pg w g l) (hl : l.length = 512) (hd : a.defers = [])
    (hR : R (.returned (.agg (pg l))) w) : bodyPost Try.prog fn R .ret a w :=
  bodyPost_ret (results_cell_row hf _ _ g 93 (pg l) (0, 0) _ hp hb Try.underlying93 rfl (pg_info hl)) hd hR
/-! ### Two pages held against one another -/
theorem wl_eq_page {ops : Array Oper} {rest : List Oper} {o : Oper} {a : Act} {w : World} {Q : Exit → Act → World → Prop} (hgd : o.guard = none) (x y : Operand) (u : TypeId) (ho : o.op = .binOp .eql 93 x y u) (l m : List UInt8)
    (hl : l.length = 512) (hm : m.length = 512) (hx : a.eval x = .agg (pg l)) (hy : a.eval y = .agg (pg m)) (q : Bool) (hq0 : (l == m) = q)
    (h : wpList Try.prog ops Q rest (a.put o.dst (.bool q)) w) : wpList Try.prog ops Q (o :: rest) a w := by
  subst hq0
  refine wpList_plain hgd fun K hK => ?_
  obtain ⟨i, hi, _, hz, _⟩ := info_parts infoByte
  have hs : ∀ w, (sizeOf 5).run Try.prog w = .ok 1 w := fun w => by simp [sizeOf, typeInfo, hi, hz]
  have hr := run_eql_bytes (P := Try.prog) w 93 5 512 Try.underlying93 Try.underlying5 hs l m hl hm
  have hq : (eqGuard .eql 93 x y (.agg (pg l)) (.agg (pg m))).run Try.prog w = .ok () w := run_eqGuard_agg w _ _ _ _ _ _ (by kernel_rfl)
  have hr' : (binOp .eql 93 (.agg (pg l)) (.agg (pg m))).run Try.prog w = .ok (.bool (l == m)) w := hr
  unfold Oper.wp execOp
  simp only [ho, hx, hy, Sem.run_bind, hq, hr', Result.andThen_ok, Sem.run_pure]
  exact hK _ _ h
end Go.Proofs.Ytnecigbncggogaa
