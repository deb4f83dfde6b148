/- What PagerSums does: whatever bytes it is called with, it answers true and leaves memory as it was. Condition: the bytes lie within the reach. -/
import Derived.Test.YtnecigbncggogaaPgSum
import Derived.Lib.SlBytesConst
namespace Go.Proofs.Ytnecigbncggogaa
open Go.RowKit
set_option linter.unusedVariables false
set_option maxRecDepth 20000

theorem psums_walk (l : List UInt8) (p : Option Addr) (c : Nat) (w : World) (hl : l.length ≤ 140737488351232) (h : Byts w p l) :
    Calls Try.prog 3 #[.slice p l.length c] w fun e w' => e = .returned (.bool true) ∧ Below w.heap.size w w' := by
  have C1 := hid (psum_any p l c w hl h)
  have C2 := hid (rsum_any p l c w hl h)
  have HC := hid crc_check
  have HZ := hid crc_nil
  have C4 : Hid (∀ wq, Calls Try.prog 9 #[.slice none 0 0] wq fun e w' => e = .returned (.int .u32 (crc [] : Int)) ∧ w' = wq) := fun wq => psum_any none [] 0 wq (by decide) (Or.inl rfl)
  generalize crc l = C at *
  clear h
  have hcv : (convert 22 22 (.slice (some ⟨w.heap.size, 0, none⟩) 9 9)).run Try.prog (w.alloc (.cells #[Value.int .u8 49, .int .u8 50, .int .u8 51, .int .u8 52, .int .u8 53, .int .u8 54, .int .u8 55, .int .u8 56, .int .u8 57] 5)) = .ok (.slice (some ⟨w.heap.size, 0, none⟩) 9 9) (w.alloc (.cells #[Value.int .u8 49, .int .u8 50, .int .u8 51, .int .u8 52, .int .u8 53, .int .u8 54, .int .u8 55, .int .u8 56, .int .u8 57] 5 (9, 10))) := Go.Lib.run_convert_bytes_const (P := Try.prog) w 22 5 #[Value.int .u8 49, .int .u8 50, .int .u8 51, .int .u8 52, .int .u8 53, .int .u8 54, .int .u8 55, .int .u8 56, .int .u8 57] 9 9 Try.underlying22 Try.underlying5
  have C3 := hid (psum_any (some ⟨w.heap.size, 0, none⟩) [49, 50, 51, 52, 53, 54, 55, 56, 57] 9 (w.alloc (.cells #[Value.int .u8 49, .int .u8 50, .int .u8 51, .int .u8 52, .int .u8 53, .int .u8 54, .int .u8 55, .int .u8 56, .int .u8 57] 5 (9, 10))) (by decide)
    (Or.inr ⟨_, _, rfl, fun i hi => by
      rw [cell_of_row _ w.heap.size (0 + i) #[Value.int .u8 49, .int .u8 50, .int .u8 51, .int .u8 52, .int .u8 53, .int .u8 54, .int .u8 55, .int .u8 56, .int .u8 57] 5 (9, 10) (heap_alloc_new w _), Nat.zero_add]
      have hi' : i < 9 := hi
      have hc : i = 0 ∨ i = 1 ∨ i = 2 ∨ i = 3 ∨ i = 4 ∨ i = 5 ∨ i = 6 ∨ i = 7 ∨ i = 8 := by omega
      rcases hc with rfl | rfl | rfl | rfl | rfl | rfl | rfl | rfl | rfl <;> rfl⟩))
  have HB : Hid (Below w.heap.size w (w.alloc (.cells #[Value.int .u8 49, .int .u8 50, .int .u8 51, .int .u8 52, .int .u8 53, .int .u8 54, .int .u8 55, .int .u8 56, .int .u8 57] 5 (9, 10)))) := (Below.refl _ _).alloc (Nat.le_refl _) _
  rw [crc_check] at C3
  rw [crc_nil] at C4
  go_enter Try.func3, Try.ntmps3
  go_wp2_with (first
    | (go_at_call 9; first
        | (with_reducible refine C1.out.mono ?_; rintro e w3 ⟨rfl, hw⟩; subst hw; clear C1)
        | (with_reducible refine (C4.out _).mono ?_; rintro e w3 ⟨rfl, hw⟩; subst hw; clear C4)
        | (refine C3.out.mono ?_; rintro e w3 ⟨rfl, hw⟩; subst hw; clear C3))
    | (go_at_call 10; with_reducible refine C2.out.mono ?_; rintro e w3 ⟨rfl, hw⟩; subst hw; clear C2)
    | fail)
  go_ret
  exact ⟨rfl, HB.out⟩
end Go.Proofs.Ytnecigbncggogaa
