/- What turns but for a set of blocks; maps keyed by numbers; whole arrays. No conditions. -/
import Derived.Test.YtehfbdhkicdfiaaChecked
import Derived.Test.YtehfbdhkicdfiaaDkPlain
import Derived.WalkKit
import Derived.Handy
import Derived.WalkSmall
import Derived.Deep.MidRow
import Derived.Deep.AppendLies
import Derived.MapKept
import Derived.Maps.OwnSet
import Derived.Laws.CopyOwn
namespace Go.Proofs.Ytehfbdhkicdfiaa
open Go.RowKit
set_option linter.unusedVariables false
set_option maxRecDepth 20000

theorem hid {p : Prop} (h : p) : Hid p := h
theorem cell_lt {w : World} {a : Addr} {v : Value} (h : w.cell? a = some v) : a.block < w.heap.size := World.block_lt_of_cell? w a h

/-- The end of a function without results. -/
theorem end0 {P : Program} {fn : Func} {R : Ending → World → Prop} {a : Act} {w : World} (hr : fn.results = #[]) (hd : a.defers = []) (hR : R (.returned (.tuple #[])) w) : bodyPost P fn R .normal a w :=
  ⟨hd, .tuple #[], by simp [results, hr, go_sem], hR⟩
theorem ret0 {P : Program} {fn : Func} {R : Ending → World → Prop} {a : Act} {w : World} (hr : fn.results = #[]) (hd : a.defers = []) (hR : R (.returned (.tuple #[])) w) : bodyPost P fn R .ret a w :=
  ⟨hd, .tuple #[], by simp [results, hr, go_sem], hR⟩
/-- But for the blocks of a set, and new ones, nothing has turned. -/
structure Chg (F : Nat → Prop) (w w' : World) : Prop where
  os : w'.os = w.os
  tape : w'.tape = w.tape
  output : w'.output = w.output
  size : w.heap.size ≤ w'.heap.size
  block : ∀ k, k < w.heap.size → ¬ F k → w'.heap[k]? = w.heap[k]?
theorem Chg.refl (F : Nat → Prop) (w : World) : Chg F w w := ⟨rfl, rfl, rfl, Nat.le_refl _, fun _ _ _ => rfl⟩
theorem Chg.trans {F G : Nat → Prop} {a b c : World} (h : Chg F a b) (k : Chg G b c) (hG : ∀ j, j < a.heap.size → G j → F j) : Chg F a c :=
  ⟨k.os.trans h.os, k.tape.trans h.tape, k.output.trans h.output, Nat.le_trans h.size k.size,
   fun j hj hn => (k.block j (Nat.lt_of_lt_of_le hj h.size) (fun g => hn (hG j hj g))).trans (h.block j hj hn)⟩
theorem Chg.mono {F G : Nat → Prop} {a b : World} (h : Chg F a b) (hG : ∀ j, j < a.heap.size → F j → G j) : Chg G a b :=
  ⟨h.os, h.tape, h.output, h.size, fun j hj hn => h.block j hj (fun f => hn (hG j hj f))⟩
theorem Chg.of_below {F : Nat → Prop} {a b : World} (h : Below a.heap.size a b) : Chg F a b := ⟨h.os, h.tape, h.output, h.size, fun j hj _ => h.block j hj⟩
theorem Chg.below {F : Nat → Prop} {a b : World} {B : Nat} (h : Chg F a b) (hF : ∀ k, F k → B ≤ k) (hB : B ≤ a.heap.size) : Below B a b :=
  ⟨h.os, h.tape, h.output, h.size, fun j hj => h.block j (by omega) (fun f => by have := hF j f; omega)⟩
theorem Chg.alloc {F : Nat → Prop} {a w : World} (h : Chg F a w) (o : Obj) : Chg F a (w.alloc o) :=
  ⟨h.os, h.tape, h.output, by simp; have := h.size; omega, fun j hj hn => (Below.heap_alloc _ _ _ (Nat.lt_of_lt_of_le hj h.size)).trans (h.block j hj hn)⟩
theorem Chg.drew {F : Nat → Prop} {a w : World} (h : Chg F a w) : Chg F a w.drew := ⟨h.os, h.tape, h.output, h.size, h.block⟩
theorem Chg.setCell {F : Nat → Prop} {a w : World} (h : Chg F a w) {p : Addr} (hp : F p.block ∨ a.heap.size ≤ p.block) (u : Value) : Chg F a (w.setCell p u) :=
  ⟨h.os, h.tape, h.output, by simpa [World.setCell] using h.size, fun j hj hn => (Below.heap_setCell _ _ _ _ (by rintro rfl; rcases hp with hp | hp; exact hn hp; omega)).trans (h.block j hj hn)⟩
theorem Chg.setRow {F : Nat → Prop} {a w : World} (h : Chg F a w) {g : Nat} (hp : F g ∨ a.heap.size ≤ g) (cs : Array Value) : Chg F a (w.setRow g cs) :=
  ⟨h.os, h.tape, h.output, by simpa using h.size, fun j hj hn => (setRow_other _ _ _ _ (by rintro rfl; rcases hp with hp | hp; exact hn hp; omega)).trans (h.block j hj hn)⟩
theorem Chg.grown {F : Nat → Prop} {a w w' : World} {row : Option Nat} (h : Chg F a w) (hg : w.grownBy w' row) (hr : ∀ k, row = some k → F k ∨ a.heap.size ≤ k) : Chg F a w' :=
  ⟨hg.os.trans h.os, hg.tape.trans h.tape, hg.output.trans h.output, Nat.le_trans h.size hg.size,
   fun j hj hn => (hg.block j (Nat.lt_of_lt_of_le hj h.size) (fun e => by rcases hr j e.symm with hr | hr; exact hn hr; omega)).trans (h.block j hj hn)⟩
theorem Chg.cell {F : Nat → Prop} {w w' : World} (h : Chg F w w') {p : Addr} {v : Value} (hc : w.cell? p = some v) (hn : ¬ F p.block) : w'.cell? p = some v :=
  (World.cell?_of_block (w := w) (h.block p.block (cell_lt hc) hn)).trans hc
theorem Chg.frozen {F : Nat → Prop} {w w' : World} (h : Chg F w w') {p : Addr} (hl : p.block < w.heap.size) (hn : ¬ F p.block) : w'.frozen? p = w.frozen? p :=
  World.frozen?_of_block (w := w) (h.block p.block hl hn)
/-- A set, and what has been made since. -/
def more (F : Nat → Prop) (w w' : World) : Nat → Prop := fun k => F k ∨ (w.heap.size ≤ k ∧ k < w'.heap.size)

/-! ### Maps keyed by numbers -/
def ents (l : List (Int × Value × Nat)) : List MapEntry := l.map fun x => ⟨.int .i64 x.1, x.2.1, x.2.2⟩
def lk (k : Int) : List (Int × Value × Nat) → Option Value
  | [] => none
  | x :: r => if k = x.1 then some x.2.1 else lk k r
def fnd (k : Int) : List (Int × Value × Nat) → Nat → Option (Nat × Value)
  | [], _ => none
  | x :: r, i => if k = x.1 then some (i, x.2.1) else fnd k r (i + 1)
def setL (k : Int) (v : Value) : List (Int × Value × Nat) → List (Int × Value × Nat)
  | [] => []
  | x :: r => if k = x.1 then (x.1, v, x.2.2) :: r else x :: setL k v r
def delL (k : Int) : List (Int × Value × Nat) → List (Int × Value × Nat)
  | [] => []
  | x :: r => if k = x.1 then r else x :: delL k r
theorem findNow_ents (k : Int) : ∀ (l : List (Int × Value × Nat)) (i : Nat), Instr.findNow (.int .i64) (.int .i64 k) (ents l) i = some (fnd k l i)
  | [], i => rfl
  | x :: r, i => by
    show (match Instr.sameNow (.int .i64) (.int .i64 k) (.int .i64 x.1) with | some true => some (some (i, x.2.1)) | some false => Instr.findNow (.int .i64) (.int .i64 k) (ents r) (i + 1) | none => none) = _
    simp only [Instr.sameNow, if_true]
    by_cases h : k = x.1
    · simp [h, fnd]
    · have : (k == x.1) = false := by simpa using h
      rw [this]
      simp only [fnd, if_neg h]
      exact findNow_ents k r (i + 1)
theorem fnd_lk (k : Int) : ∀ (l : List (Int × Value × Nat)) (i : Nat), (fnd k l i).map (·.2) = lk k l
  | [], i => rfl
  | x :: r, i => by
    unfold fnd lk
    split
    · rfl
    · exact fnd_lk k r (i + 1)
theorem fnd_set (k : Int) (v : Value) : ∀ (l : List (Int × Value × Nat)) (i j : Nat) (u : Value), fnd k l i = some (j, u) → i ≤ j ∧ ((ents l)[j - i]?).map (·.key) = some (.int .i64 k) ∧
    ents (setL k v l) = (ents l).modify (j - i) (fun e => { e with key := .int .i64 k, val := v }) ∧ ents (delL k l) = (ents l).eraseIdx (j - i)
  | [], i, j, u, h => by cases h
  | x :: r, i, j, u, h => by
    unfold fnd at h
    by_cases hk : k = x.1
    · rw [if_pos hk] at h
      simp only [Option.some.injEq, Prod.mk.injEq] at h
      obtain ⟨rfl, rfl⟩ := h
      subst hk
      simp [setL, delL, ents]
    · rw [if_neg hk] at h
      obtain ⟨h1, h2, h3, h4⟩ := fnd_set k v r (i + 1) j u h
      have e : j - i = (j - (i + 1)) + 1 := by omega
      refine ⟨by omega, ?_, ?_, ?_⟩
      · rw [e]; simpa [ents] using h2
      · rw [e]; unfold setL; rw [if_neg hk]
        show _ :: ents (setL k v r) = _
        rw [h3]; simp [ents]
      · rw [e]; unfold delL; rw [if_neg hk]
        show _ :: ents (delL k r) = _
        rw [h4]; simp [ents]
theorem lk_set (k : Int) (v : Value) (k' : Int) : ∀ l : List (Int × Value × Nat), (lk k l).isSome = true → lk k' (setL k v l) = if k' = k then some v else lk k' l
  | [], h => by cases h
  | x :: r, h => by
    unfold setL
    by_cases hk : k = x.1
    · rw [if_pos hk]
      subst hk
      unfold lk
      split <;> rfl
    · rw [if_neg hk]
      have hr : (lk k r).isSome = true := by simpa [lk, hk] using h
      unfold lk
      rw [lk_set k v k' r hr]
      by_cases h1 : k' = x.1
      · rw [if_pos h1, if_pos h1, if_neg (by omega)]
      · rw [if_neg h1, if_neg h1]
theorem lk_push (k : Int) (v : Value) (b : Nat) (k' : Int) : ∀ l : List (Int × Value × Nat), lk k l = none → lk k' (l ++ [(k, v, b)]) = if k' = k then some v else lk k' l
  | [], h => by simp [lk]
  | x :: r, h => by
    have hk : ¬ k = x.1 := by intro e; simp [lk, e] at h
    have hr : lk k r = none := by simpa [lk, hk] using h
    show (if k' = x.1 then some x.2.1 else lk k' (r ++ [(k, v, b)])) = if k' = k then some v else (if k' = x.1 then some x.2.1 else lk k' r)
    rw [lk_push k v b k' r hr]
    by_cases h1 : k' = x.1
    · rw [if_pos h1, if_pos h1, if_neg (by omega)]
    · rw [if_neg h1, if_neg h1]
theorem lk_none (k : Int) : ∀ l : List (Int × Value × Nat), k ∉ l.map (·.1) → lk k l = none
  | [], _ => rfl
  | x :: r, h => by
    simp only [List.map_cons, List.mem_cons, not_or] at h
    unfold lk
    rw [if_neg h.1]
    exact lk_none k r h.2
theorem lk_none' (k : Int) : ∀ l : List (Int × Value × Nat), lk k l = none → k ∉ l.map (·.1)
  | [], _ => by simp
  | x :: r, h => by
    have hk : ¬ k = x.1 := by intro e; simp [lk, e] at h
    have hr : lk k r = none := by simpa [lk, hk] using h
    simp only [List.map_cons, List.mem_cons, not_or]
    exact ⟨hk, lk_none' k r hr⟩
theorem lk_del (k : Int) (k' : Int) : ∀ l : List (Int × Value × Nat), (l.map (·.1)).Nodup → lk k' (delL k l) = if k' = k then none else lk k' l
  | [], h => by simp [delL, lk]
  | x :: r, h => by
    simp only [List.map_cons, List.nodup_cons] at h
    unfold delL
    by_cases hk : k = x.1
    · rw [if_pos hk]
      subst hk
      by_cases h1 : k' = x.1
      · subst h1; rw [if_pos rfl]; exact lk_none _ _ h.1
      · rw [if_neg h1]
        show _ = if k' = x.1 then some x.2.1 else lk k' r
        rw [if_neg h1]
    · rw [if_neg hk]
      unfold lk
      rw [lk_del k k' r h.2]
      by_cases h1 : k' = x.1
      · rw [if_pos h1, if_pos h1, if_neg (by omega)]
      · rw [if_neg h1, if_neg h1]
theorem keys_set (k : Int) (v : Value) : ∀ l : List (Int × Value × Nat), (setL k v l).map (·.1) = l.map (·.1)
  | [] => rfl
  | x :: r => by
    unfold setL
    split
    · rfl
    · rw [List.map_cons, keys_set k v r]; rfl
theorem keys_del (k : Int) : ∀ l : List (Int × Value × Nat), (delL k l).map (·.1) |>.Sublist (l.map (·.1))
  | [] => List.Sublist.refl _
  | x :: r => by
    unfold delL
    split
    · exact List.sublist_cons_self ..
    · exact (keys_del k r).cons_cons _

/-- A block that is a map from numbers, as a plain function. -/
def MapIs (w : World) (b : Nat) (f : Int → Option Value) : Prop :=
  ∃ (es : Array MapEntry) (clock : Nat) (l : List (Int × Value × Nat)), w.heap[b]? = some (.map es clock) ∧ es.toList = ents l ∧ (l.map (·.1)).Nodup ∧ ∀ k, lk k l = f k
theorem MapIs.lt {w : World} {b : Nat} {f : Int → Option Value} (h : MapIs w b f) : b < w.heap.size := by
  obtain ⟨es, c, l, hb, _⟩ := h
  exact (Array.getElem?_eq_some_iff.1 hb).1
theorem MapIs.same {w w' : World} {b : Nat} {f : Int → Option Value} (h : MapIs w b f) (e : w'.heap[b]? = w.heap[b]?) : MapIs w' b f := by
  obtain ⟨es, c, l, hb, r⟩ := h
  exact ⟨es, c, l, e.trans hb, r⟩
theorem MapIs.congr {w : World} {b : Nat} {f g : Int → Option Value} (h : MapIs w b f) (e : ∀ k, f k = g k) : MapIs w b g := by
  obtain ⟨es, c, l, hb, h1, h2, h3⟩ := h
  exact ⟨es, c, l, hb, h1, h2, fun k => (h3 k).trans (e k)⟩
theorem MapIs.made (w : World) : MapIs (w.alloc (.map #[] 0)) w.heap.size (fun _ => none) :=
  ⟨#[], 0, [], heap_alloc_new w _, rfl, by simp, fun _ => rfl⟩
theorem run_lookup {P : Program} {w : World} {b : Nat} {f : Int → Option Value} (h : MapIs w b f) {t kt et : TypeId} (ht : P.underlying t = some (.map kt et)) (hk : P.underlying kt = some (.int .i64)) {z : Value} (hz : (zeroValue et).run P w = .ok z w) (k : Int) (c : Bool) :
    (Instr.lookup t (.map (some b)) (.int .i64 k) c).run P w = .ok (if c then .tuple #[(f k).getD z, .bool (f k).isSome] else (f k).getD z) w := by
  obtain ⟨es, cl, l, hb, h1, h2, h3⟩ := h
  have hf : (Instr.findKey kt (.int .i64 k) es.toList).run P w = .ok (fnd k l 0) w := MapKept.run_findKey hk (by rw [h1]; exact findNow_ents k l 0)
  have hc : ∀ e, (Instr.checkKey e 10000 kt (.int .i64 k)).run P w = .ok () w := fun e => MapKept.run_checkKey hk (by trivial) e 9999
  have hl := fnd_lk k l 0
  rw [h3] at hl
  cases hfn : fnd k l 0 with
  | none =>
    rw [hfn] at hl hf
    simp only [Option.map_none] at hl
    rw [← hl]
    simp [Instr.lookup, run_underlying ht, MapKept.run_getObj_map hb, hc, hf, hz, Result.andThen]
  | some x =>
    rw [hfn] at hl hf
    simp only [Option.map_some] at hl
    rw [← hl]
    simp [Instr.lookup, run_underlying ht, MapKept.run_getObj_map hb, hc, hf, Result.andThen]
/-- The map's block turned. -/
def World.putBlock (w : World) (b : Nat) (o : Obj) : World := { w with heap := w.heap.setIfInBounds b o }
theorem putBlock_same {w : World} {b : Nat} {o : Obj} (h : b < w.heap.size) : (World.putBlock w b o).heap[b]? = some o := by simp [World.putBlock, h]
theorem putBlock_other {w : World} {b : Nat} {o : Obj} {k : Nat} (h : k ≠ b) : (World.putBlock w b o).heap[k]? = w.heap[k]? := by
  simp [World.putBlock, Ne.symm h]
theorem run_update {P : Program} {w : World} {b : Nat} {f : Int → Option Value} (h : MapIs w b f) {t kt et : TypeId} (ht : P.underlying t = some (.map kt et)) (hk : P.underlying kt = some (.int .i64)) (k : Int) (v : Value) :
    ∃ o, (Instr.mapUpdate t (.map (some b)) (.int .i64 k) v).run P w = .ok () (World.putBlock w b o) ∧ MapIs (World.putBlock w b o) b (fun j => if j = k then some v else f j) := by
  have hlt := h.lt
  obtain ⟨es, cl, l, hb, h1, h2, h3⟩ := h
  have hf : (Instr.findKey kt (.int .i64 k) es.toList).run P w = .ok (fnd k l 0) w := MapKept.run_findKey hk (by rw [h1]; exact findNow_ents k l 0)
  have hc : ∀ e, (Instr.checkKey e 10000 kt (.int .i64 k)).run P w = .ok () w := fun e => MapKept.run_checkKey hk (by trivial) e 9999
  have hl := fnd_lk k l 0
  cases hfn : fnd k l 0 with
  | none =>
    rw [hfn] at hl hf
    refine ⟨.map (es.push { key := .int .i64 k, val := v, born := cl }) (cl + 1), ?_, _, _, l ++ [(k, v, cl)], putBlock_same hlt, ?_, ?_, ?_⟩
    · simp [Instr.mapUpdate, run_underlying ht, MapKept.run_getObj_map hb, hc, hf, MapKept.run_setObj_map _ hb, World.putBlock]
    · simp [h1, ents]
    · rw [List.map_append]
      refine List.nodup_append.2 ⟨h2, by simp, ?_⟩
      intro a ha c hc' e
      simp at hc'
      exact lk_none' k l hl.symm (by rw [← hc', ← e]; exact ha)
    · intro j
      rw [lk_push k v cl j l hl.symm, h3]
  | some x =>
    obtain ⟨i, u⟩ := x
    rw [hfn] at hl hf
    obtain ⟨_, e1, e2, _⟩ := fnd_set k v l 0 i u hfn
    simp only [Nat.sub_zero] at e1 e2
    have hkey : ((es[i]?).map (·.key)).getD (.int .i64 k) = .int .i64 k := by
      rw [← Array.getElem?_toList, h1, e1]; rfl
    have hst : (Instr.keyThatStays (.int .i64 k) (.int .i64 k)).run P w = .ok (.int .i64 k) w := by
      simp [Instr.keyThatStays, Instr.sameBits]
    refine ⟨.map (es.modify i fun e => { e with key := .int .i64 k, val := v }) cl, ?_, _, _, setL k v l, putBlock_same hlt, ?_, ?_, ?_⟩
    · simp [Instr.mapUpdate, run_underlying ht, MapKept.run_getObj_map hb, hc, hf, hkey, hst, MapKept.run_setObj_map _ hb, World.putBlock]
    · rw [Array.toList_modify, h1, e2]
    · rw [keys_set]; exact h2
    · intro j
      rw [lk_set k v j l (by rw [← hl]; rfl), h3]
theorem run_delete {P : Program} {w : World} {b : Nat} {f : Int → Option Value} (h : MapIs w b f) {t kt et ty u : TypeId} (ht : P.underlying t = some (.map kt et)) (hk : P.underlying kt = some (.int .i64)) (k : Int) :
    ∃ o, (Builtin.delete_ #[t, u] ty #[.map (some b), .int .i64 k]).run P w = .ok (.tuple #[]) (World.putBlock w b o) ∧ MapIs (World.putBlock w b o) b (fun j => if j = k then none else f j) := by
  have hlt := h.lt
  obtain ⟨es, cl, l, hb, h1, h2, h3⟩ := h
  have hf : (Instr.findKey kt (.int .i64 k) es.toList).run P w = .ok (fnd k l 0) w := MapKept.run_findKey hk (by rw [h1]; exact findNow_ents k l 0)
  have hc : ∀ e, (Instr.checkKey e 10000 kt (.int .i64 k)).run P w = .ok () w := fun e => MapKept.run_checkKey hk (by trivial) e 9999
  have hl := fnd_lk k l 0
  cases hfn : fnd k l 0 with
  | none =>
    rw [hfn] at hl hf
    refine ⟨.map es cl, ?_, _, _, l, putBlock_same hlt, h1, h2, ?_⟩
    · simp [Builtin.delete_, run_underlying ht, MapKept.run_getObj_map hb, hc, hf, MapKept.run_setObj_map _ hb, World.putBlock]
    · intro j
      rw [h3]
      show f j = if j = k then none else f j
      split
      · rename_i e; subst e; rw [← h3, ← hl]; rfl
      · rfl
  | some x =>
    obtain ⟨i, v⟩ := x
    rw [hfn] at hl hf
    obtain ⟨_, e1, _, e2⟩ := fnd_set k v l 0 i v hfn
    simp only [Nat.sub_zero] at e1 e2
    refine ⟨.map (es.eraseIdxIfInBounds i) cl, ?_, _, _, delL k l, putBlock_same hlt, ?_, ?_, ?_⟩
    · simp [Builtin.delete_, run_underlying ht, MapKept.run_getObj_map hb, hc, hf, MapKept.run_setObj_map _ hb, World.putBlock]
    · rw [e2, ← h1]
      simp only [Array.eraseIdxIfInBounds]
      split
      · simp
      · rename_i hi
        rw [List.eraseIdx_of_length_le (by simpa using hi)]
    · exact (keys_del k l).nodup h2
    · intro j
      rw [lk_del k j l h2, h3]
theorem Chg.putBlock {F : Nat → Prop} {a w : World} (h : Chg F a w) {g : Nat} (hp : F g ∨ a.heap.size ≤ g) (o : Obj) : Chg F a (World.putBlock w g o) :=
  ⟨h.os, h.tape, h.output, by simpa [World.putBlock] using h.size, fun j hj hn => (putBlock_other (by rintro rfl; rcases hp with hp | hp; exact hn hp; omega)).trans (h.block j hj hn)⟩
theorem putBlock_size (w : World) (g : Nat) (o : Obj) : (World.putBlock w g o).heap.size = w.heap.size := by simp [World.putBlock]

/-! ### The same, at the operation -/
theorem wl_lookup {P : Program} {w : World} {ops : Array Oper} {rest : List Oper} {o : Oper} {a : Act} {Q : Exit → Act → World → Prop} (hg : o.guard = none) (m x : Operand) (t : TypeId) (c : Bool) (hop : o.op = Op.lookup t m x c)
    {b : Nat} {f : Int → Option Value} (h : MapIs w b f) {kt et : TypeId} (ht : P.underlying t = some (.map kt et)) (hk : P.underlying kt = some (.int .i64)) {z : Value} (hz : (zeroValue et).run P w = .ok z w) (k : Int)
    (hm : a.eval m = .map (some b)) (hx : a.eval x = .int .i64 k) (v : Value) (hv : (if c then .tuple #[(f k).getD z, .bool (f k).isSome] else (f k).getD z) = v)
    (hK : wpList P ops Q rest (a.put o.dst v) w) : wpList P ops Q (o :: rest) a w := by
  refine wpList_plain hg fun K' hK' => ?_
  unfold Oper.wp
  simp [execOp, hop, hm, hx, run_lookup h ht hk hz, Result.andThen]
  simp only [hv]
  exact hK' _ _ hK
theorem wl_update {P : Program} {w : World} {ops : Array Oper} {rest : List Oper} {o : Oper} {a : Act} {Q : Exit → Act → World → Prop} (hg : o.guard = none) (m x y : Operand) (t : TypeId) (hop : o.op = Op.mapUpdate t m x y)
    {b : Nat} {f : Int → Option Value} (h : MapIs w b f) {kt et : TypeId} (ht : P.underlying t = some (.map kt et)) (hk : P.underlying kt = some (.int .i64)) (k : Int) (v : Value)
    (hm : a.eval m = .map (some b)) (hx : a.eval x = .int .i64 k) (hy : a.eval y = v)
    (hK : ∀ ob, MapIs (World.putBlock w b ob) b (fun j => if j = k then some v else f j) → wpList P ops Q rest (a.put o.dst undef) (World.putBlock w b ob)) : wpList P ops Q (o :: rest) a w := by
  refine wpList_plain hg fun K' hK' => ?_
  obtain ⟨ob, hr, hM⟩ := run_update h ht hk k v
  unfold Oper.wp
  simp [execOp, hop, hm, hx, hy, hr, Result.andThen]
  exact hK' _ _ (hK ob hM)
theorem wl_delete {P : Program} {w : World} {ops : Array Oper} {rest : List Oper} {o : Oper} {a : Act} {Q : Exit → Act → World → Prop} (hg : o.guard = none) (m x : Operand) (t u : TypeId)
    (hop : o.op = .call { callee := .builtin .delete, args := #[m, x], argTypes := #[t, u] })
    {b : Nat} {f : Int → Option Value} (h : MapIs w b f) {kt et : TypeId} (ht : P.underlying t = some (.map kt et)) (hk : P.underlying kt = some (.int .i64)) (k : Int)
    (hm : a.eval m = .map (some b)) (hx : a.eval x = .int .i64 k)
    (hK : ∀ ob, MapIs (World.putBlock w b ob) b (fun j => if j = k then none else f j) → wpList P ops Q rest (a.put o.dst (.tuple #[])) (World.putBlock w b ob)) : wpList P ops Q (o :: rest) a w := by
  refine wpList_plain hg fun K' hK' => ?_
  obtain ⟨ob, hr, hM⟩ := run_delete (ty := o.type) (u := u) h ht hk k
  unfold Oper.wp execOp
  simp only [hop, resolve, invoke, builtin, Sem.run_bind, Sem.run_pure, Result.andThen_ok, List.map_toArray, List.map_cons, List.map_nil, hm, hx, hr]
  exact hK' _ _ (hK ob hM)
end Go.Proofs.Ytehfbdhkicdfiaa
