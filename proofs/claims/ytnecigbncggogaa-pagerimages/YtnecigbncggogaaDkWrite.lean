/- What (*Disk).Write does. No conditions. -/
import Derived.Test.YtnecigbncggogaaDkRead
import Derived.Laws.AppendOwnNone
namespace Go.Proofs.Ytnecigbncggogaa
open Go.RowKit
set_option linter.unusedVariables false
set_option maxRecDepth 20000

/-- The cells of a pending write. -/
def wc (n : Int) (b : List UInt8) : List Value := .int .i64 n :: bcells b
theorem wc_len {n : Int} {b : List UInt8} (h : b.length = 512) : (wc n b).length = 513 := by unfold wc; rw [List.length_cons, bcells_len, h]
theorem wc_one (n : Int) (b : List UInt8) : ∀ u ∈ wc n b, u.oneCell' = true := by
  intro u hu
  rcases List.mem_cons.1 hu with rfl | hu
  · rfl
  · exact bcells_one b u hu
theorem wc_info {n : Int} {b : List UInt8} (h : b.length = 512) : (Try.prog.info? 110).map (·.size) = some (wc n b).length := by rw [wc_len h]; exact sizeWrite
theorem builtWrite' (n : Int) : Try.prog.built 110 [(0, .int .i64 n)] = some (wc n zero512).toArray := by
  rw [builtWrite]
  simp [wc, pg]
theorem zeroWrite' (w : World) : (zeroValue 110).run Try.prog w = .ok (.agg (wc 0 zero512).toArray) w := by
  rw [zeroWrite]
  simp [wc, pg]
theorem fold_set : ∀ (l : List Value) (k : Nat) (base : Array Value) (i : Nat), k + l.length ≤ base.size →
    ((l.zipIdx k).foldl (fun (cs : Array Value) (x : Value × Nat) => cs.setIfInBounds (0 * 513 + x.2) x.1) base)[i]? = if k ≤ i ∧ i < k + l.length then l[i - k]? else base[i]?
  | [], k, base, i, h => by simp; omega
  | v :: r, k, base, i, h => by
    rw [List.zipIdx_cons, List.foldl_cons, fold_set r (k + 1) _ i (by simp at h ⊢; omega)]
    simp only [List.length_cons] at h ⊢
    by_cases h1 : k + 1 ≤ i ∧ i < k + 1 + r.length
    · rw [if_pos h1, if_pos (by omega), show i - k = (i - (k + 1)) + 1 by omega]
      rfl
    · rw [if_neg h1]
      by_cases h2 : i = k
      · subst h2
        rw [if_pos (by omega), Nat.sub_self]
        simp only [Nat.zero_mul, Nat.zero_add, List.getElem?_cons_zero]
        rw [Array.getElem?_setIfInBounds_self_of_lt (by omega)]
      · rw [if_neg (by omega)]
        simp only [Nat.zero_mul, Nat.zero_add]
        rw [Array.getElem?_setIfInBounds_ne (by omega)]
theorem fill_whole (cs : List Value) (z : Array Value) (hz : z.size = 513) (hc : cs.length = 513) : Instr.fill (fun i => some (i * 513, 513)) z [(0, .agg cs.toArray)] = some cs.toArray := by
  unfold Instr.fill
  simp only [Value.cells, List.size_toArray, hc, hz]
  rw [if_neg (by decide)]
  unfold Instr.fill
  congr 1
  apply Array.ext_getElem?
  intro i
  have := fold_set cs 0 z i (by omega)
  rw [← Array.foldl_toList, Array.toList_zipIdx]
  rw [this]
  split
  · simp
  · rename_i hn
    rw [Array.getElem?_eq_none (by omega)]
    simp; omega
theorem run_slice1 (cs : List Value) (hc : cs.length = 513) (w : World) : (Instr.buildSlice 82 1 #[(0, .agg cs.toArray)]).run Try.prog w = .ok (.slice (some ⟨w.heap.size, 0, none⟩) 1 1) (w.alloc (.cells cs.toArray 110)) := by
  have hs : (sizeOf 110).run Try.prog w = .ok 513 w := by
    obtain ⟨i, hi, _, hz, _⟩ := info_parts infoWrite
    simp [sizeOf, typeInfo, hi, hz]
  have hz : ((Array.range (1 * 513)).map ((wc 0 zero512).toArray[· % (wc 0 zero512).toArray.size]!)).size = 513 := by simp
  have hf := fill_whole cs _ hz hc
  unfold Instr.buildSlice
  simp only [Sem.run_bind, run_underlying Try.underlying82, Result.andThen_ok, hs]
  rw [if_neg (by decide), if_neg (by decide)]
  simp only [Sem.run_bind, zeroWrite', Result.andThen_ok, Sem.run_pure, Value.cells, hf]
  rfl
/-- copy of a page into a write's block. -/
theorem splice_wc {n : Int} {b : List UInt8} (hb : b.length = 512) : splice (wc n zero512) 1 (bcells b) = wc n b := by
  unfold splice wc
  rw [List.take_succ_cons, List.take_zero, List.drop_of_length_le (by rw [List.length_cons, bcells_len, bcells_len, hb, zero512_len]; omega), List.append_nil]
  rfl
theorem wcells_snoc (l : List (Int × List UInt8)) (n : Int) (b : List UInt8) : wcells (l ++ [(n, b)]) = wcells l ++ wc n b := by simp [wcells, wc]
theorem newF_snoc (l : List (Int × List UInt8)) (n : Int) (b : List UInt8) (k : Int) : (if k = n then some (.int .i64 (l.length : Int)) else newF l k) = newF (l ++ [(n, b)]) k := by
  unfold newF
  rw [newest_snoc]
  by_cases h : k = n
  · rw [if_pos h, if_pos h.symm]; rfl
  · rw [if_neg h, if_neg (fun e => h e.symm)]
theorem wl_build_write {ops : Array Oper} {rest : List Oper} {o : Oper} {a : Act} {w : World} {Q : Exit → Act → World → Prop} (hg : o.guard = none) (x : Operand) (ho : o.op = .build 110 #[(0, x)]) (n : Int) (hx : a.eval x = .int .i64 n)
    (h : wpList Try.prog ops Q rest (a.put o.dst (.agg (wc n zero512).toArray)) w) : wpList Try.prog ops Q (o :: rest) a w :=
  wl_build hg 110 _ ho [(0, .int .i64 n)] _ (by simp [hx]) (builtWrite' n) h
theorem wl_new_write {ops : Array Oper} {rest : List Oper} {o : Oper} {a : Act} {w : World} {Q : Exit → Act → World → Prop} (hgd : o.guard = none) (x y : Operand) (ho : o.op = .store 110 x y) (g : Nat) (n m : Int) (b c : List UInt8)
    (hx : a.eval x = .pointer (some ⟨g, 0, none⟩)) (hg : g = w.heap.size) (hy : a.eval y = .agg (wc n b).toArray) (hl : b.length = 512) (hm : c.length = 512)
    (h : wpList Try.prog ops Q rest (a.put o.dst undef) (w.alloc (.cells (wc n b).toArray 110))) : wpList Try.prog ops Q (o :: rest) a (w.alloc (.cells (wc m c).toArray 110)) :=
  wl_store_new hgd 110 x y ho g _ _ hx hg hy (by rw [List.size_toArray]; exact wc_info hl) (by rw [List.size_toArray, List.size_toArray, wc_len hl, wc_len hm]) (all_oneCell_toArray (wc_one n b)) h
theorem wl_copy_write {ops : Array Oper} {rest : List Oper} {o : Oper} {a : Act} {w : World} {Q : Exit → Act → World → Prop} (hgd : o.guard = none) (d s : Operand)
    (ho : o.op = .call { callee := .builtin .copy, args := #[d, s], argTypes := #[22, 22] })
    (g dCap : Nat) (sp : Option Addr) (sCap : Nat) (hd : a.eval d = .slice (some ⟨g, 1, none⟩) 512 dCap) (hs : a.eval s = .slice sp 512 sCap)
    (n : Int) (b : List UInt8) (hb : Blk w g (wc n zero512) 110) (hl : b.length = 512) (hsrc : Byts w sp b)
    (h : ∀ w', Blk w' g (wc n b) 110 → (∀ F : Nat → Prop, F g → Chg F w w') → w'.heap.size = w.heap.size → wpList Try.prog ops Q rest (a.put o.dst (goInt (bcells b).length)) w') : wpList Try.prog ops Q (o :: rest) a w := by
  refine wl_copy hgd d s ho g 1 512 dCap sp 512 sCap hd hs (wc n zero512) 110 hb (bcells b) (by rw [bcells_len, hl]; rfl) hsrc.src (by rw [bcells_len, hl, wc_len zero512_len]; omega) (bcells_one b) ?_
  intro w' B C S
  rw [splice_wc hl] at B
  exact h w' B C S
set_option maxHeartbeats 400000 in
theorem write_reach (db lb nb : Nat) (pv : Value) (d : Dk) (n : Int) (v : Value) (w : World) (h : PDisk w db lb nb pv d) (hr : d.reach n ≠ 0) :
    Calls Try.prog 38 #[.pointer (some ⟨db, 0, none⟩), .int .i64 n, v] w fun e w' => e = .returned (.int .i64 (d.reach n)) ∧ w' = w := by
  have R := reach_any db lb nb pv d n w h
  generalize d.reach n = r at *
  clear h
  have hb : (r == 0) = false := by simpa using hr
  go_enter Try.func38, Try.ntmps38
  go_wp2_with (first
    | (go_at_call 70; with_reducible refine R.mono ?_; rintro e w3 ⟨rfl, hw⟩; subst hw)
    | fail)
  go_ret
  exact ⟨rfl, rfl⟩
set_option maxHeartbeats 400000 in
theorem write_len (db lb nb : Nat) (pv : Value) (d : Dk) (n : Int) (sp : Option Addr) (m cap : Nat) (w : World) (h : PDisk w db lb nb pv d) (hr : d.reach n = 0) (hm : m ≠ 512) :
    Calls Try.prog 38 #[.pointer (some ⟨db, 0, none⟩), .int .i64 n, .slice sp m cap] w fun e w' => e = .returned (.int .i64 3) ∧ w' = w := by
  have R := reach_any db lb nb pv d n w h
  rw [hr] at R
  clear h hr
  have hb : ((m : Int) == 512) = false := by simp; omega
  go_enter Try.func38, Try.ntmps38
  go_wp2_with (first
    | (go_at_call 70; with_reducible refine R.mono ?_; rintro e w3 ⟨rfl, hw⟩; subst hw)
    | fail)
  go_ret
  exact ⟨rfl, rfl⟩
set_option maxHeartbeats 400000 in
theorem write_fails (db lb nb : Nat) (pv : Value) (d : Dk) (n : Int) (sp : Option Addr) (cap : Nat) (w : World) (h : PDisk w db lb nb pv d) (hr : d.reach n = 0) (ha : d.arm = 0) :
    Calls Try.prog 38 #[.pointer (some ⟨db, 0, none⟩), .int .i64 n, .slice sp 512 cap] w fun e w' => e = .returned (.int .i64 9) ∧ PDisk w' db lb nb pv d.stepped ∧ (∀ F : Nat → Prop, F db → Chg F w w') := by
  have R := reach_any db lb nb pv d n w h
  have S := step_any db lb nb pv d w h
  rw [hr] at R
  rw [if_pos ha] at S
  clear h hr ha
  generalize d.stepped = d' at *
  go_enter Try.func38, Try.ntmps38
  go_wp2_with (first
    | (go_at_call 70; with_reducible refine R.mono ?_; rintro e w3 ⟨rfl, hw⟩; subst hw)
    | (go_at_call 71; with_reducible refine S.mono ?_; rintro e w4 ⟨rfl, P4, C4, S4⟩; have HP4 := hid P4; have HC4 := hid C4; clear P4 C4)
    | fail)
  go_ret
  exact ⟨rfl, HP4.out, HC4.out⟩
theorem step_slice1 {ops : Array Oper} {o : Oper} {a : Act} {w : World} {K : Act → World → Prop} {Q : Exit → Act → World → Prop} {E : Prop} (hgd : o.guard = none) (x : Operand) (ho : o.op = .buildSlice 82 1 #[(0, x)]) (cs : List Value) (hx : a.eval x = .agg cs.toArray) (hc : cs.length = 513)
    (hK : K (a.put o.dst (.slice (some ⟨w.heap.size, 0, none⟩) 1 1)) (w.alloc (.cells cs.toArray 110))) : if Region.wanted o (yielded ops a.tmps) = true then Oper.wp Try.prog o a w K Q else E := by
  have hw : Region.wanted o (yielded ops a.tmps) = true := by simp [Region.wanted, hgd]
  rw [if_pos hw]
  have hr := run_slice1 cs hc w
  unfold Oper.wp
  simp [execOp, ho, hx, hr, Result.andThen]
  exact hK
theorem own_form {w : World} {b size n : Nat} {t : TypeId} {v : Value} {xs : List Value} (h : w.ownsRow b t size v n xs) : ∃ p c, v = .slice p n c ∧ n ≤ c := by
  rcases h.2 with ⟨rfl, h0⟩ | ⟨g, cap, cur, rfl, _, _, hle, _⟩
  · exact ⟨none, 0, by rw [h0], by omega⟩
  · exact ⟨_, _, rfl, hle⟩
theorem range_set {w : World} {g o : Nat} {cs : List Value} {a : Addr} {v : Value} (h : w.rangeAt g o cs) (hn : g ≠ a.block) : (w.setCell a v).rangeAt g o cs := fun j u hu =>
  (World.cell?_of_block (w := w) (a := ⟨g, o + j, none⟩) (Below.heap_setCell _ _ _ _ hn)).trans (h j u hu)
theorem range_block {w w' : World} {g o : Nat} {cs : List Value} (h : w.rangeAt g o cs) (e : w'.heap[g]? = w.heap[g]?) : w'.rangeAt g o cs := fun j u hu =>
  (World.cell?_of_block (w := w) (a := ⟨g, o + j, none⟩) e).trans (h j u hu)
theorem Blk.whole {w : World} {g : Nat} {cs : List Value} {t : TypeId} (h : Blk w g cs t) : w.rangeAt g 0 cs := h.range 0 cs (fun j v hv => by simpa using hv)
/-- The new write is put behind the others: the disk behind it. -/
theorem pd_push {w6 w7 : World} {db lb nb : Nat} {p : Option Addr} {c g cap : Nat} {d : Dk} {n : Int} {b : List UInt8}
    (hb : Blk w6 db (dcells lb nb (.slice p d.pend.length c) d) 84) (lm : MapIs w6 lb (lastF d.last)) (nm : MapIs w6 nb (newF (d.pend ++ [(n, b)]))) (pd : w6.ownsRow 0 110 513 (.slice p d.pend.length c) d.pend.length (wcells d.pend)) (ne : lb ≠ nb) (np : (Value.slice p d.pend.length c).ownBlock ≠ some db) (ok : d.ok) (hl : b.length = 512) (h0 : 0 ≤ n) (h1 : n < d.pages)
    (o7 : w7.ownsRow 0 110 513 (.slice (some ⟨g, 0, none⟩) (d.pend.length + 1) cap) (d.pend.length + 1) (wcells d.pend ++ wc n b)) (g7 : (w6.drew.alloc (.cells (wc n b).toArray 110)).grownBy w7 (Value.slice p d.pend.length c).ownBlock) (hat : (Value.slice p d.pend.length c).ownBlock = some g ∨ g = w6.heap.size + 1) (hlt : g < w7.heap.size) :
    PDisk (w7.setCell ⟨db, 2, none⟩ (.slice (some ⟨g, 0, none⟩) (d.pend.length + 1) cap)) db lb nb (.slice (some ⟨g, 0, none⟩) (d.pend.length + 1) cap) (d.push n b) := by
  have s6 : (w6.drew.alloc (.cells (wc n b).toArray 110)).heap.size = w6.heap.size + 1 := by simp
  have e7 : ∀ k, k < w6.heap.size → (Value.slice p d.pend.length c).ownBlock ≠ some k → w7.heap[k]? = w6.heap[k]? := fun k hk hn =>
    (g7.block k (by omega) (fun e => hn e.symm)).trans (Below.heap_alloc w6.drew _ _ hk)
  have gdb : g ≠ db := by
    rintro rfl
    rcases hat with h | h
    · exact np h
    · have := hb.lt; omega
  have lo : (Value.slice p d.pend.length c).ownBlock ≠ some lb := fun e => own_not_map pd e lm
  have no : (Value.slice p d.pend.length c).ownBlock ≠ some nb := fun e => own_not_map pd e nm
  have dl : db ≠ lb := by rintro rfl; exact hb.not_map lm
  have dn : db ≠ nb := by rintro rfl; exact hb.not_map nm
  have b7 := (hb.same (e7 db hb.lt np)).set (i := 2) (.slice (some ⟨g, 0, none⟩) (d.pend.length + 1) cap)
  refine ⟨b7, ?_, ?_, ?_, ne, ?_, ok.push hl h0 h1⟩
  · exact (lm.same (e7 lb lm.lt lo)).same (set_block (fun e => dl e.symm))
  · exact (nm.same (e7 nb nm.lt no)).same (set_block (fun e => dn e.symm))
  · have q := own_same o7 (w' := w7.setCell ⟨db, 2, none⟩ (.slice (some ⟨g, 0, none⟩) (d.pend.length + 1) cap)) (fun k hk => by
      simp only [Value.ownBlock, Option.some.injEq] at hk
      subst hk
      exact set_block gdb)
    show World.ownsRow _ 0 _ 513 _ (d.pend ++ [(n, b)]).length (wcells (d.pend ++ [(n, b)]))
    rw [List.length_append, wcells_snoc]
    exact q
  · simp only [Value.ownBlock, ne_eq, Option.some.injEq]
    exact gdb
end Go.Proofs.Ytnecigbncggogaa
