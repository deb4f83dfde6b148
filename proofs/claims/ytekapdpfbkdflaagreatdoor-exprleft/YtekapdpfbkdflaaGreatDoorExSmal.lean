/- What small of the laws of expressions answers: a number's last digit. No conditions. -/
import Derived.Test.YtekapdpfbkdflaaGreatDoorExLeftP
import Derived.Test.YtekapdpfbkdflaaGreatDoorLxMem
import Derived.Test.YtekapdpfbkdflaaGreatDoorExAsm
import Derived.Lib.QuietBelow
namespace Go.Proofs.YtekapdpfbkdflaaGreatDoor
open Go.RowKit Go.Lib Go.Sort
set_option linter.unusedVariables false
set_option maxRecDepth 20000

set_option maxHeartbeats 2000000 in
theorem small_any (n : Int) (w : World) (h0 : -9223372036854775808 ≤ n) (h1 : n ≤ 9223372036854775807) :
    Calls Tryz.prog 15 #[.int .i64 n] w fun e w' => (∃ c : UInt8, Dg c ∧ e = .returned (.string ⟨#[c]⟩)) ∧ Below w.heap.size w w' := by
  have hu0 : 0 ≤ IntKind.u64.wrap n := by
    have e : IntKind.u64.wrap n = n % 18446744073709551616 := by simp [IntKind.wrap, IntKind.bits, IntKind.signed]
    rw [e]; omega
  obtain ⟨t, ht, htl⟩ : ∃ t : Nat, (IntKind.u64.wrap n).tmod 10 = (t : Int) ∧ t < 10 := by
    have a1 := Int.tmod_lt_of_pos (IntKind.u64.wrap n) (b := 10) (by decide)
    have a2 : 0 ≤ (IntKind.u64.wrap n).tmod 10 := Int.tmod_nonneg 10 hu0
    exact ⟨((IntKind.u64.wrap n).tmod 10).toNat, by omega, by omega⟩
  have hw0 : IntKind.u64.wrap (t : Int) = (t : Int) := by
    have e : IntKind.u64.wrap (t : Int) = (t : Int) % 18446744073709551616 := by simp [IntKind.wrap, IntKind.bits, IntKind.signed]
    rw [e]; omega
  have hw1 : IntKind.u64.wrap (48 + (t : Int)) = 48 + (t : Int) := by
    have e : IntKind.u64.wrap (48 + (t : Int)) = (48 + (t : Int)) % 18446744073709551616 := by simp [IntKind.wrap, IntKind.bits, IntKind.signed]
    rw [e]; omega
  have hw2 : IntKind.u8.wrap (48 + (t : Int)) = 48 + (t : Int) := by
    have e : IntKind.u8.wrap (48 + (t : Int)) = (48 + (t : Int)) % 256 := by simp [IntKind.wrap, IntKind.bits, IntKind.signed]
    rw [e]; omega
  have hc : ((UInt8.ofNat (48 + t)).toNat : Int) = 48 + (t : Int) := by
    have : (UInt8.ofNat (48 + t)).toNat = 48 + t := by simp; omega
    rw [this]; omega
  have hcv : ∀ w : World, (convert 68 9 (.slice (some ⟨w.heap.size, 0, none⟩) 1 1)).run Tryz.prog (w.alloc (.cells #[.int .u8 (48 + (t : Int))] 5)) = .ok (.string ⟨#[UInt8.ofNat (48 + t)]⟩) (w.alloc (.cells #[.int .u8 (48 + (t : Int))] 5)) := fun w => by
    refine run_convert_bytes_back (P := Tryz.prog) (w.alloc (.cells #[.int .u8 (48 + (t : Int))] 5)) 68 9 5 ⟨w.heap.size, 0, none⟩ 1 [UInt8.ofNat (48 + t)] Tryz.underlying68 Tryz.underlying5 Tryz.underlying9 (fun j hj => ?_)
    match j, hj with
    | 0, _ =>
      show (w.alloc (.cells #[.int .u8 (48 + (t : Int))] 5)).cell? ⟨w.heap.size, 0, none⟩ = some (.int .u8 ((UInt8.ofNat (48 + t)).toNat : Int))
      rw [hc]
      go_simp
  have HD : Hid (Dg (UInt8.ofNat (48 + t))) := by
    show _ ∧ _
    omega
  clear hu0 hc
  generalize UInt8.ofNat (48 + t) = ch at *
  go_enter Tryz.func15, Tryz.ntmps15
  go_wp2
  go_ret
  exact ⟨⟨ch, HD.out, rfl⟩, albl w _⟩
end Go.Proofs.YtekapdpfbkdflaaGreatDoor
