/- What the law's Seen answers of what Tokens answers as its error. Condition: the library's variable errorType holds what its text lays. -/
import Derived.Test.YtekapdpfbkdflaaGreatDoorLxAs
import Derived.Test.YtekapdpfbkdflaaGreatDoorLxTok
namespace Go.Proofs.YtekapdpfbkdflaaGreatDoor
open Go.RowKit Go.Lib Go.Sort
set_option linter.unusedVariables false
set_option maxRecDepth 20000

/-- The library's variable of the error's type. -/
def ErrT (w : World) : Prop := w.cell? ⟨0, 0, none⟩ = some (.iface 138 (.agg #[.pointer (some ⟨12, 25, none⟩)]))
theorem ErrT.below {w w' : World} (h : ErrT w) (hb : Below w.heap.size w w') : ErrT w' := lxbelow_cell hb h

set_option maxHeartbeats 1000000 in
theorem seen_nil (w : World) :
    Calls Tryz.prog 13 #[.nilIface] w fun e w' => e = .returned (.agg #[.int .i64 0, .int .i64 0]) ∧ Below w.heap.size w w' := by
  go_enter Tryz.func13, Tryz.ntmps13
  go_wp2_with fail
  refine bodyPost_ret (by simp [results, Tryz.results13, go_sem]; try rfl) rfl ?_
  exact ⟨rfl, by go_grown⟩

theorem assert_err (v : Value) (w : World) : (Instr.typeAssert (.iface 41 v) 25 41 true).run Tryz.prog w = .ok (.tuple #[v, .bool true]) w := by kernel_rfl
theorem as_seen (e : Addr) (tb : Nat) (W : World) (hE : ErrT W) (ht : W.heap[tb]? = some (.cells #[.pointer none] 50 (0, 0))) :
    Calls Tryz.prog 24 #[.iface 50 (.pointer (some e)), .iface 77 (.pointer (some ⟨tb, 0, none⟩))] W fun ev w' => ev = .returned (.bool true) ∧ w'.cell? ⟨tb, 0, none⟩ = some (.pointer (some e)) ∧ Below tb W w' := by
  have hlt : tb < W.heap.size := (Array.getElem?_eq_some_iff.1 ht).1
  have c0 : W.cell? ⟨tb, 0, none⟩ = some (.pointer none) := by rw [Lib.cell_of_heap ht]; rfl
  refine (as_hit e ⟨tb, 0, none⟩ (.pointer none) W hE c0 (Lib.frozen_of_heap ht 0)).mono ?_
  rintro ev w' ⟨rfl, rfl⟩
  refine ⟨rfl, ?_, ?_⟩
  · generalize hX : (((W.alloc _).alloc _).alloc _).alloc _ = X
    have hx : X.heap[tb]? = some (.cells #[.pointer none] 50 (0, 0)) := by
      rw [← hX, Lib.alloc_old _ _ _ (by simp; omega), Lib.alloc_old _ _ _ (by simp; omega), Lib.alloc_old _ _ _ (by simp; omega), Lib.alloc_old _ _ _ hlt]
      exact ht
    have := heap_setCell_same X tb 0 _ _ (.pointer (some e)) hx
    rw [Lib.cell_of_heap this]
    rfl
  · exact ((((Below.refl tb W).alloc (by omega) _).alloc (by simp; omega) _).alloc (by simp; omega) _).alloc (by simp; omega) _ |>.setCell (p := ⟨tb, 0, none⟩) (Nat.le_refl _) _

set_option maxHeartbeats 4000000 in
theorem seen_fault (b : Nat) (i c : Int) (w : World) (hE : ErrT w) (h0 : w.cell? ⟨b, 0, none⟩ = some (.int .i64 i)) (h1 : w.cell? ⟨b, 1, none⟩ = some (.iface 41 (.int .i64 c))) :
    Calls Tryz.prog 13 #[.iface 50 (.pointer (some ⟨b, 0, none⟩))] w fun e w' => e = .returned (.agg #[.int .i64 i, .int .i64 c]) ∧ Below w.heap.size w w' := by
  have hb := lxcell_lt h0
  have B0 : Below w.heap.size w ((w.alloc (.cells #[.int .i64 0, .int .i64 0] 43)).alloc (.cells #[.pointer none] 50)) := ((Below.refl _ _).alloc (Nat.le_refl _) _).alloc (by simp) _
  have C := hid (as_seen ⟨b, 0, none⟩ (w.heap.size + 1) ((w.alloc (.cells #[.int .i64 0, .int .i64 0] 43)).alloc (.cells #[.pointer none] 50)) (hE.below B0) (by
    have := heap_alloc_new (w.alloc (.cells #[.int .i64 0, .int .i64 0] 43)) (.cells #[.pointer none] 50)
    simpa using this))
  have HR := hid (show ((w.alloc (.cells #[.int .i64 0, .int .i64 0] 43)).alloc (.cells #[.pointer none] 50)).heap[w.heap.size]? = some (.cells #[.int .i64 0, .int .i64 0] 43 (0, 0)) from (Lib.alloc_old _ _ _ (by simp)).trans (heap_alloc_new w _))
  have HB0 := hid B0
  have H0 := hid (lxbelow_cell B0 h0)
  have H1 := hid (lxbelow_cell B0 h1)
  have hA := assert_err (.int .i64 c)
  clear B0 hE h0 h1
  go_enter Tryz.func13, Tryz.ntmps13
  go_wp2_with (first
    | (go_at_call 24; with_reducible refine C.out.mono ?_; rintro e w2 ⟨rfl, y0, b2⟩
       have g0 : w2.cell? ⟨b, 0, none⟩ = some (.int .i64 i) := (b2.cell (p := ⟨b, 0, none⟩) (by show b < w.heap.size + 1; omega)).trans H0.out
       have g1 : w2.cell? ⟨b, 1, none⟩ = some (.iface 41 (.int .i64 c)) := (b2.cell (p := ⟨b, 1, none⟩) (by show b < w.heap.size + 1; omega)).trans H1.out
       have r0 : w2.heap[w.heap.size]? = some (.cells #[.int .i64 0, .int .i64 0] 43 (0, 0)) := (by rw [b2.block _ (Nat.lt_succ_self _)]; exact HR.out)
       have z0 : w2.cell? ⟨w.heap.size, 0, none⟩ = some (.int .i64 0) := (by rw [Lib.cell_of_heap r0]; rfl)
       have z1 : w2.cell? ⟨w.heap.size, 1, none⟩ = some (.int .i64 0) := (by rw [Lib.cell_of_heap r0]; rfl)
       have zf0 : w2.frozen? ⟨w.heap.size, 0, none⟩ = false := Lib.frozen_of_heap r0 0
       have zf1 : w2.frozen? ⟨w.heap.size, 1, none⟩ = false := Lib.frozen_of_heap r0 1
       have BB := hid (HB0.out.trans (b2.mono (Nat.le_succ _)))
       clear b2 r0))
  refine bodyPost_ret (by simp [results, Tryz.results13, go_sem, z0, z1]; try rfl) rfl ?_
  exact ⟨rfl, (BB.out.setCell (p := ⟨w.heap.size, 0, none⟩) (Nat.le_refl _) _).setCell (p := ⟨w.heap.size, 1, none⟩) (Nat.le_refl _) _⟩
end Go.Proofs.YtekapdpfbkdflaaGreatDoor
