/- What newWriter of package node does. No conditions. -/
import Derived.Test.YtilmlegkkgiahaaNdWrite
namespace Go.Proofs.Ytilmlegkkgiahaa
open Go.RowKit Go.Lib
set_option linter.unusedVariables false
set_option maxRecDepth 20000

theorem size1 (w : World) (o : Obj) : (w.alloc o).heap.size = w.heap.size + 1 := by simp
theorem new_run (w : World) (P : Array Value) (HP : P = pad508 []) (c : UInt8) (n : Int) (hc : (c.toNat : Int) = n) (o : Obj) (ty : TypeId) :
    ∃ w', (Builtin.append_ #[31, 31] ty #[.slice (some ⟨w.heap.size + 1, 0, none⟩) 0 508, .slice (some ⟨w.heap.size + 2, 0, none⟩) 1 1]).run Try.prog (((w.alloc o).alloc (.cells P 5)).alloc (.cells #[.int .u8 n] 5)) = .ok (.slice (some ⟨w.heap.size + 1, 0, none⟩) 1 508) w' ∧ Rw w' (w.heap.size + 1) [c] ∧ w'.heap[w.heap.size]? = some o ∧ Below w.heap.size w w' := by
  have HR := Rw.made (w.alloc o) HP (.cells #[.int .u8 n] 5)
  have HX := lit_bv ((w.alloc o).alloc (.cells P 5)) [c] #[.int .u8 n] (by simp only [bcells, List.map_cons, List.map_nil, hc]) (by simp)
  rw [size1] at HR
  rw [size1, size1] at HX
  obtain ⟨w', hr, R', C', _⟩ := run_appW (l := []) ty HR HX (by simp)
  refine ⟨w', hr, R', ?_, ?_⟩
  · rw [C'.block w.heap.size (by simp; omega) (by omega), Below.heap_alloc _ _ _ (by simp; omega), Below.heap_alloc _ _ _ (by simp)]
    exact heap_alloc_new w o
  · exact (below3 w o (.cells P 5) (.cells #[.int .u8 n] 5)).trans (C'.below (fun k hk => by omega) (by simp; omega))
theorem Rw.put {w : World} {g k i : Nat} {l : List UInt8} {v : Value} (h : Rw w g l) (hk : g ≠ k) : Rw (w.setCell ⟨k, i, none⟩ v) g l := h.same (Below.heap_setCell _ _ _ _ hk)
theorem below_put {w w' : World} {k i : Nat} {v : Value} (B : Below w.heap.size w w') (hk : w.heap.size ≤ k) : Below w.heap.size w (w'.setCell ⟨k, i, none⟩ v) := B.setCell hk _
set_option maxHeartbeats 400000 in
theorem newWriter_any (c : UInt8) (n : Int) (hc : (c.toNat : Int) = n) (w : World) : Calls Try.prog 43 #[.int .u8 n] w (nwEnd w c) := by
  obtain ⟨P, HP, hmk⟩ := made508'
  have HX := hid (new_run w P HP.out c n hc (.cells #[.slice none 0 0] 83))
  clear HP
  go_enter Try.func43, Try.ntmps43
  go_wp2_with (at_builtin; obtain ⟨w', hr, R', H', B'⟩ := HX.out 31; refine wl_run rfl rfl rfl rfl hr ?_; clear hr; have q0 : w'.cell? ⟨w.heap.size, 0, none⟩ = some (.slice none 0 0) := (cell_of_row w' _ 0 _ _ _ H'); have q1 : w'.frozen? ⟨w.heap.size, 0, none⟩ = false := frozen_of_row w' _ 0 _ _ H'; have HR' := hid R'; have HB' := hid B'; clear R' H' B')
  refine bodyPost_ret (by simp [results, Try.results43, go_sem, q0]; try rfl) rfl ?_
  exact ⟨_, rfl, HR'.out.put (by omega), by omega, below_put HB'.out (Nat.le_refl _)⟩
end Go.Proofs.Ytilmlegkkgiahaa
