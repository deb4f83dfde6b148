/- Two rows of the same words are the same to the law. -/
import Derived.Test.YtbaemjibaeeglaaGreatDoorLxTok
import Derived.Deep.QuietTactic
import Derived.BigQuiet
namespace Go.Proofs.YtbaemjibaeeglaaGreatDoor
open Go.RowKit Go.Lib Go.Sort
set_option linter.unusedVariables false
set_option maxRecDepth 20000

theorem sm_drewN {B : Nat} {a w : World} (n : Nat) (h : Below B a w) : Below B a (w.drewN n) := ⟨h.os, h.tape, h.output, h.size, h.block⟩

set_option maxHeartbeats 4000000 in
theorem same_any (xs : List (Tk × Nat)) (pa pb : Option Addr) (ca cb : Nat) (w : World) (ha : TR w pa xs) (hb : TR w pb xs) (hm : xs.length ≤ maxLen) :
    Calls Tryz.prog 10 #[.slice pa xs.length ca, .slice pb xs.length cb] w fun e w' => e = .returned (.bool true) ∧ Below w.heap.size w w' := by
  have HA := hid ha
  have HB := hid hb
  have hM : xs.length ≤ 9223372036854775807 := by unfold maxLen at hm; omega
  clear ha hb hm
  go_enter Tryz.func10, Tryz.ntmps10
  go_wp2_with fail
  go_loopw [5] (fun i wr => ∃ k : Nat, i = .int .i64 k ∧ k ≤ xs.length ∧ Hid (Below w.heap.size w wr)) (fun i _ => xs.length - (RowKit.intOf i).toNat)
  case atStart => exact ⟨0, rfl, Nat.zero_le _, Below.refl _ _⟩
  case round =>
    obtain ⟨k, rfl, hk, bel⟩ := hrel
    by_cases hlt : k < xs.length
    · have hkz : (k : Int) < (xs.length : Int) := by omega
      obtain ⟨ba, oa, rfl, x0, x1, x2, x3⟩ := (HA.out.below bel.out).at hlt
      obtain ⟨bb, ob, rfl, y0, y1, y2, y3⟩ := (HB.out.below bel.out).at hlt
      generalize xs[k].1.k = vk at *
      generalize (⟨xs[k].1.s.toArray⟩ : ByteArray) = vs at *
      generalize (xs[k].2 : Int) = vi at *
      generalize xs[k].1.n = vn at *
      go_wp2_with fail
      go_quiet (fail)
      go_wp2_with fail
      go_roundw
      case rel => exact ⟨k + 1, by go_num, by omega, sm_drewN _ bel.out⟩
      case measure => simp [RowKit.intOf]; omega
    · have hkz : ¬ (k : Int) < (xs.length : Int) := by omega
      go_wp2_with fail
      go_ret
      exact ⟨rfl, bel.out⟩
end Go.Proofs.YtbaemjibaeeglaaGreatDoor
