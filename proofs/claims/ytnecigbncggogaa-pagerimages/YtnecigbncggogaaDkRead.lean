/- What (*Disk).Read does. No conditions. -/
import Derived.Test.YtnecigbncggogaaDkLast
namespace Go.Proofs.Ytnecigbncggogaa
open Go.RowKit
set_option linter.unusedVariables false
set_option maxRecDepth 20000

set_option maxHeartbeats 400000 in
theorem read_bad (db lb nb : Nat) (pv : Value) (d : Dk) (n : Int) (w : World) (h : PDisk w db lb nb pv d) (hr : d.reach n ≠ 0) :
    Calls Try.prog 37 #[.pointer (some ⟨db, 0, none⟩), .int .i64 n] w fun e w' => e = .returned (.tuple #[.slice none 0 0, .int .i64 (d.reach n)]) ∧ w' = w := by
  have R := reach_any db lb nb pv d n w h
  generalize d.reach n = r at *
  clear h
  have hb : (r == 0) = false := by simpa using hr
  go_enter Try.func37, Try.ntmps37
  go_wp2_with (first
    | (go_at_call 70; with_reducible refine R.mono ?_; rintro e w3 ⟨rfl, hw⟩; subst hw)
    | fail)
  go_ret2
  exact ⟨rfl, rfl⟩
set_option maxHeartbeats 400000 in
theorem read_ok (db lb nb : Nat) (pv : Value) (d : Dk) (n : Int) (w : World) (h : PDisk w db lb nb pv d) (hr : d.reach n = 0) :
    Calls Try.prog 37 #[.pointer (some ⟨db, 0, none⟩), .int .i64 n] w fun e w' => e = .returned (.tuple #[.slice (some ⟨w.heap.size + 1, 0, none⟩) 512 512, .int .i64 0]) ∧ Pg w' (w.heap.size + 1) (d.has n) ∧ Below w.heap.size w w' ∧ w'.heap.size = w.heap.size + 2 := by
  have R := reach_any db lb nb pv d n w h
  have H := has_any db lb nb pv d n w h
  have HE : Hid ((d.has n).length = 512) := h.ok.has n
  have HZ : Hid (zero512.length = 512) := zero512_len
  have z := zeroPage
  rw [hr] at R
  clear h hr
  generalize d.has n = b at *
  have sz : (w.alloc (.cells (pg b) 93)).heap.size = w.heap.size + 1 := by simp
  have HG := Pg.new (w.alloc (.cells (pg b) 93)) b
  have HB : Hid (Below w.heap.size w ((w.alloc (.cells (pg b) 93)).alloc (.cells (pg b) 93))) := ((Below.refl _ _).alloc (Nat.le_refl _) _).alloc (by omega) _
  rw [sz] at HG
  have HG' := hid HG
  clear HG
  go_enter Try.func37, Try.ntmps37
  go_wp2_with (first
    | (go_at_call 70; with_reducible refine R.mono ?_; rintro e w3 ⟨rfl, hw⟩; subst hw)
    | (go_at_call 55; with_reducible refine H.mono ?_; rintro e w3 ⟨rfl, hw⟩; subst hw)
    | (refine wl_new_page rfl _ _ rfl _ _ _ rfl ?hg rfl ?hi ?hj ?_; (case hg => simp); (case hi => exact HE.out); (case hj => exact HZ.out); try go_frame)
    | fail)
  go_ret2
  exact ⟨rfl, HG'.out, HB.out, by simp⟩
end Go.Proofs.Ytnecigbncggogaa
