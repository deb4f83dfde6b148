/- What New, Clone and the document's Only do. Condition: the numbers handed to Only lie in another block than the set's row. -/
import Derived.Test.YtehfbdhkicdfiaaFrOnly
import Derived.Deep.RegionHeldLaw
import Derived.Maps.RangeWalk
import Derived.Laws.Cover3
namespace Go.Proofs.Ytehfbdhkicdfiaa
open Go.RowKit
set_option linter.unusedVariables false
set_option maxRecDepth 20000

theorem infoBool : (Try.prog.info? 4).map (fun i => (i.zero, i.size, i.bytes)) = some (some (.bool false), 1, 1) := by kernel_rfl
theorem made_false (L : Nat) : madeCells (Value.bool false).cells L = (List.replicate L (Value.bool false)).toArray := by
  apply Array.ext_getElem?
  intro i
  simp only [madeCells, List.getElem?_toArray]
  by_cases h : i < L
  · simp [h, Value.cells, Nat.mod_one]
  · simp [h]
theorem mk_bools (L : Nat) (hL : L ≤ 4096) (w : World) : (Instr.makeSlice 41 (.int .i64 (L : Int)) (.int .i64 (L : Int))).run Try.prog w = .ok (.slice (some ⟨w.heap.size, 0, none⟩) L L) (w.alloc (.cells (List.replicate L (Value.bool false)).toArray 4)) := by
  obtain ⟨i0, hi, hz0, hz1, hz2⟩ := info_parts infoBool
  have h := run_make (P := Try.prog) w 41 4 i0 (.bool false) Try.underlying41 hi hz0 .i64 .i64 (L : Int) (L : Int) (by omega) (Int.le_refl _) (by rw [hz2]; omega) (by omega)
  rw [hz1, Nat.mul_one, Int.toNat_natCast, made_false] at h
  exact h
/-- How many pages a new set has. -/
def sizeN (n : Int) : Nat := (min (max n 0) 4096).toNat
theorem FSt.made (w : World) (L : Nat) (t : TypeId) (hL : L ≤ 4096) : FSt ((w.alloc (.cells (List.replicate L (Value.bool false)).toArray 4)).alloc (.cells #[.slice (some ⟨w.heap.size, 0, none⟩) L L] t)) (w.heap.size + 1) w.heap.size (List.replicate L false) := by
  refine ⟨⟨L, ?_⟩, ⟨_, (Below.heap_alloc _ _ _ (by simp)).trans (heap_alloc_new w _), ?_⟩, by omega, by simpa using hL⟩
  · have e := heap_alloc_new (w.alloc (.cells (List.replicate L (Value.bool false)).toArray 4)) (.cells #[.slice (some ⟨w.heap.size, 0, none⟩) L L] t)
    have s : (w.alloc (.cells (List.replicate L (Value.bool false)).toArray 4)).heap.size = w.heap.size + 1 := by simp
    rw [s] at e
    rw [cell_of_row _ _ 0 _ _ _ e]
    simp
  · simp
theorem below2 (w : World) (o o' : Obj) : Below w.heap.size w ((w.alloc o).alloc o') := ((Below.refl _ _).alloc (Nat.le_refl _) _).alloc (by simp) _
def newEnd (w : World) (L : Nat) (e : Ending) (w' : World) : Prop := e = .returned (.pointer (some ⟨w.heap.size + 1, 0, none⟩)) ∧ FSt w' (w.heap.size + 1) w.heap.size (List.replicate L false) ∧ Below w.heap.size w w' ∧ w'.heap.size = w.heap.size + 2
set_option maxHeartbeats 1000000 in
theorem new_any (n : Int) (w : World) : Calls Try.prog 6 #[.int .i64 n] w (newEnd w (sizeN n)) := by
  by_cases h1 : n < 0
  · have e : sizeN n = 0 := by unfold sizeN; omega
    rw [e]
    have hmk : ∀ w : World, (Instr.makeSlice 41 (.int .i64 0) (.int .i64 0)).run Try.prog w = .ok (.slice (some ⟨w.heap.size, 0, none⟩) 0 0) (w.alloc (.cells #[] 4)) := fun w => mk_bools 0 (by omega) w
    have HF := hid (FSt.made w 0 43 (by omega))
    clear e
    go_enter Try.func6, Try.ntmps6
    go_wp2
    go_ret
    exact ⟨rfl, HF.out, below2 _ _ _, by simp⟩
  · by_cases h2 : n ≤ 4096
    · obtain ⟨L, rfl⟩ : ∃ L : Nat, n = (L : Int) := ⟨n.toNat, by omega⟩
      have e : sizeN (L : Int) = L := by unfold sizeN; omega
      rw [e]
      have hmk : ∀ w : World, (Instr.makeSlice 41 (.int .i64 (L : Int)) (.int .i64 (L : Int))).run Try.prog w = .ok (.slice (some ⟨w.heap.size, 0, none⟩) L L) (w.alloc (.cells (List.replicate L (Value.bool false)).toArray 4)) := fun w => mk_bools L (by omega) w
      have HF := hid (FSt.made w L 43 (by omega))
      have hn : ¬ (4096 < (L : Int)) := by omega
      by_cases h0 : L = 0
      · subst h0
        have hmk0 : ∀ w : World, (Instr.makeSlice 41 (.int .i64 0) (.int .i64 0)).run Try.prog w = .ok (.slice (some ⟨w.heap.size, 0, none⟩) 0 0) (w.alloc (.cells #[] 4)) := fun w => mk_bools 0 (by omega) w
        have hz : ((0 : Nat) : Int) = 0 := rfl
        rw [hz]
        clear e hmk hn h1 h2
        go_enter Try.func6, Try.ntmps6
        go_wp2
        go_ret
        exact ⟨rfl, HF.out, below2 _ _ _, by simp⟩
      · have h0' : (0 : Int) < (L : Int) := by omega
        clear e
        go_enter Try.func6, Try.ntmps6
        go_wp2
        go_ret
        exact ⟨rfl, HF.out, below2 _ _ _, by simp⟩
    · have e : sizeN n = 4096 := by unfold sizeN; omega
      rw [e]
      have hmk : ∀ w : World, (Instr.makeSlice 41 (.int .i64 4096) (.int .i64 4096)).run Try.prog w = .ok (.slice (some ⟨w.heap.size, 0, none⟩) 4096 4096) (w.alloc (.cells (List.replicate 4096 (Value.bool false)).toArray 4)) := fun w => mk_bools 4096 (by omega) w
      have HF := hid (FSt.made w 4096 43 (by omega))
      have h2' : 4096 < n := by omega
      clear e
      generalize (List.replicate 4096 (Value.bool false)).toArray = cs at *
      go_enter Try.func6, Try.ntmps6
      go_wp2
      go_ret
      exact ⟨rfl, HF.out, below2 _ _ _, by simp⟩
set_option maxHeartbeats 1000000 in
theorem rnew_any (n : Int) (w : World) : Calls Try.prog 7 #[.int .i64 n] w (newEnd w (sizeN n)) := by
  by_cases h1 : n < 0
  · have e : sizeN n = 0 := by unfold sizeN; omega
    rw [e]
    have hmk : ∀ w : World, (Instr.makeSlice 41 (.int .i64 0) (.int .i64 0)).run Try.prog w = .ok (.slice (some ⟨w.heap.size, 0, none⟩) 0 0) (w.alloc (.cells #[] 4)) := fun w => mk_bools 0 (by omega) w
    have HF := hid (FSt.made w 0 45 (by omega))
    clear e
    go_enter Try.func7, Try.ntmps7
    go_wp2
    go_ret
    exact ⟨rfl, HF.out, below2 _ _ _, by simp⟩
  · by_cases h2 : n ≤ 4096
    · obtain ⟨L, rfl⟩ : ∃ L : Nat, n = (L : Int) := ⟨n.toNat, by omega⟩
      have e : sizeN (L : Int) = L := by unfold sizeN; omega
      rw [e]
      have hmk : ∀ w : World, (Instr.makeSlice 41 (.int .i64 (L : Int)) (.int .i64 (L : Int))).run Try.prog w = .ok (.slice (some ⟨w.heap.size, 0, none⟩) L L) (w.alloc (.cells (List.replicate L (Value.bool false)).toArray 4)) := fun w => mk_bools L (by omega) w
      have HF := hid (FSt.made w L 45 (by omega))
      have hn : ¬ (4096 < (L : Int)) := by omega
      by_cases h0 : L = 0
      · subst h0
        have hmk0 : ∀ w : World, (Instr.makeSlice 41 (.int .i64 0) (.int .i64 0)).run Try.prog w = .ok (.slice (some ⟨w.heap.size, 0, none⟩) 0 0) (w.alloc (.cells #[] 4)) := fun w => mk_bools 0 (by omega) w
        have hz : ((0 : Nat) : Int) = 0 := rfl
        rw [hz]
        clear e hmk hn h1 h2
        go_enter Try.func7, Try.ntmps7
        go_wp2
        go_ret
        exact ⟨rfl, HF.out, below2 _ _ _, by simp⟩
      · have h0' : (0 : Int) < (L : Int) := by omega
        clear e
        go_enter Try.func7, Try.ntmps7
        go_wp2
        go_ret
        exact ⟨rfl, HF.out, below2 _ _ _, by simp⟩
    · have e : sizeN n = 4096 := by unfold sizeN; omega
      rw [e]
      have hmk : ∀ w : World, (Instr.makeSlice 41 (.int .i64 4096) (.int .i64 4096)).run Try.prog w = .ok (.slice (some ⟨w.heap.size, 0, none⟩) 4096 4096) (w.alloc (.cells (List.replicate 4096 (Value.bool false)).toArray 4)) := fun w => mk_bools 4096 (by omega) w
      have HF := hid (FSt.made w 4096 45 (by omega))
      have h2' : 4096 < n := by omega
      clear e
      generalize (List.replicate 4096 (Value.bool false)).toArray = cs at *
      go_enter Try.func7, Try.ntmps7
      go_wp2
      go_ret
      exact ⟨rfl, HF.out, below2 _ _ _, by simp⟩
theorem eql_bools (w : World) (a : Option Addr) (n c : Nat) : (binOp .eql 41 (.slice a n c) (.slice none 0 0)).run Try.prog w = .ok (.bool a.isNone) w := by
  simp only [binOp, Sem.run_bind, run_equal_slice_nil w 41 _ a n c Try.underlying41, Result.andThen_ok, Sem.run_pure]
def ucells (u : List Bool) : List Value := u.map Value.bool
theorem ucells_one (u : List Bool) : ∀ v ∈ ucells u, v.oneCell' = true := by
  intro v hv
  obtain ⟨b, _, rfl⟩ := List.mem_map.1 hv
  rfl
theorem own_emptyB (w : World) : (w.alloc (.cells #[] 4)).ownsRow w.heap.size 4 1 (.slice (some ⟨w.heap.size, 0, none⟩) 0 0) 0 [] :=
  World.ownsRow_made w #[] 0 (Nat.le_refl _) (Nat.zero_le _) (by simp)
def bcEnd (w : World) (u : List Bool) (e : Ending) (w' : World) : Prop := ∃ g c, e = .returned (.slice (some ⟨g, 0, none⟩) u.length c) ∧ w.heap.size ≤ g ∧ (∃ cur, w'.heap[g]? = some (.cells cur 4 (0, 0)) ∧ cur.toList.take u.length = u.map Value.bool) ∧ Below w.heap.size w w'
set_option maxHeartbeats 1000000 in
theorem bclone_any (sb g cap : Nat) (u : List Bool) (w : World) (h : FSt w sb g u) :
    Calls Try.prog 22 #[.slice (some ⟨g, 0, none⟩) u.length cap] w (bcEnd w u) := by
  have q := fun w => eql_bools w (some ⟨g, 0, none⟩) u.length cap
  have HE := hid (own_emptyB w)
  have HB : Hid (Below w.heap.size w (w.alloc (.cells #[] 4))) := (Below.refl _ _).alloc (Nat.le_refl _) _
  have HS := hid (h.below (HB.out))
  have hL := h.len
  have HL : Hid ((ucells u).length = u.length * 1) := by show _ = _; simp [ucells]
  obtain ⟨i0, hj, hz0, hz1, hz2⟩ := info_parts infoBool
  clear h
  by_cases hn : u.length = 0
  · obtain rfl : u = [] := List.eq_nil_of_length_eq_zero hn
    clear hn q
    show Calls Try.prog 22 #[.slice (some ⟨g, 0, none⟩) 0 cap] w (bcEnd w [])
    have q := fun w => eql_bools w (some ⟨g, 0, none⟩) 0 cap
    go_enter Try.func22, Try.ntmps22
    go_wp2
    go_ret
    exact ⟨w.heap.size, 0, rfl, Nat.le_refl _, ⟨_, heap_alloc_new w _, rfl⟩, HB.out⟩
  · have HN := hid hn
    have HLe := hid hL
    have HC : Hid (∀ j v, (ucells u)[j]? = some v → (w.alloc (.cells #[] 4)).cell? ((⟨g, 0, none⟩ : Addr).add j) = some v) := by
      intro j v hv
      have hj : j < u.length := by have := (List.getElem?_eq_some_iff.1 hv).1; rw [HL.out] at this; omega
      rw [Addr.add_mid, Nat.zero_add, HS.out.at hj]
      simpa [ucells, hj] using hv
    have HLn : Hid (∀ n, u.length = n → n = u.length) := fun n e => e.symm
    clear hn hL
    have HU : Hid (ucells u = u.map Value.bool) := rfl
    go_enter Try.func22, Try.ntmps22
    go_wp2_with (first
      | (at_builtin; go_loud (refine wpList_append_lies _ rfl _ _ 41 rfl w.heap.size 4 i0 _ 1 1 Try.underlying41 hj hz0 hz1 hz2 rfl (by decide) _ _ _ rfl HE.out ⟨g, 0, none⟩ u.length cap (ucells u) rfl HL.out HC.out (ucells_one u) ?h2 ?h3 ?h4 ?h5 _ rfl ?_; (case h2 => have := HN.out; omega); (case h3 => have := HLe.out; unfold maxLen; omega); (case h4 => have := HLe.out; omega); (case h5 => simp); intro g7 cap7 w7 O7 G7 A7 L7; have HO7 := hid O7; have HG7 := hid G7; have HA7 := hid A7; clear O7 G7 A7 L7; try go_frame))
      | fail)
    go_ret
    have e0 : 0 + u.length = u.length := Nat.zero_add _
    show bcEnd w u (.returned (.slice (some ⟨g7, 0, none⟩) (0 + u.length) cap7)) w7
    rw [e0]
    have o := HO7.out
    rw [e0, List.nil_append] at o
    rcases o.2 with ⟨_, h0⟩ | ⟨g', c', cur, hv, hb, hh, hle, hm, hs, ht⟩
    · exact absurd h0 HN.out
    · simp only [Value.slice.injEq, Option.some.injEq, Addr.mk.injEq] at hv
      obtain ⟨⟨rfl, _, _⟩, _, rfl⟩ := hv
      rw [Nat.mul_one] at ht
      refine ⟨_, _, rfl, hb, ⟨cur, hh, ht⟩, ?_⟩
      have G : World.grownBy (w.alloc (.cells #[] 4)) w7 (some w.heap.size) := HG7.out
      exact ⟨G.os, G.tape, G.output, Nat.le_trans HB.out.size G.size, fun k hk => (G.block k (Nat.lt_of_lt_of_le hk HB.out.size) (by simp only [ne_eq, Option.some.injEq]; omega)).trans (HB.out.block k hk)⟩
/-- Clone: a set of its own, in new blocks. -/
def clEnd (w : World) (u : List Bool) (e : Ending) (w' : World) : Prop := ∃ cb cg, e = .returned (.pointer (some ⟨cb, 0, none⟩)) ∧ FSt w' cb cg u ∧ w.heap.size ≤ cb ∧ w.heap.size ≤ cg ∧ Below w.heap.size w w'
set_option maxHeartbeats 1000000 in
theorem clone_any (sb g : Nat) (u : List Bool) (w : World) (h : FSt w sb g u) :
    Calls Try.prog 14 #[.pointer (some ⟨sb, 0, none⟩)] w (clEnd w u) := by
  obtain ⟨cap, hc⟩ := h.hd
  have P := hid (bclone_any sb g cap u w h)
  have HL := hid h.len
  clear h
  go_enter Try.func14, Try.ntmps14
  go_wp2_with (first
    | (go_at_call 22; go_loud ((with_reducible refine P.out.mono ?_); rintro e w3 ⟨g3, c3, rfl, h3, r3, b3⟩; have HR := hid r3; have HB := hid b3; have HG := hid h3; clear r3 b3 h3))
    | fail)
  go_ret
  refine ⟨w3.heap.size, g3, rfl, ?_, HB.out.size, HG.out, HB.out.alloc HB.out.size _⟩
  obtain ⟨cur, hh, ht⟩ := HR.out
  have hlt : g3 < w3.heap.size := (Array.getElem?_eq_some_iff.1 hh).1
  refine ⟨⟨c3, ?_⟩, ⟨cur, (Below.heap_alloc _ _ _ hlt).trans hh, ht⟩, by omega, HL.out⟩
  rw [cell_of_row _ _ 0 _ _ _ (heap_alloc_new w3 _)]
  simp
end Go.Proofs.Ytehfbdhkicdfiaa
