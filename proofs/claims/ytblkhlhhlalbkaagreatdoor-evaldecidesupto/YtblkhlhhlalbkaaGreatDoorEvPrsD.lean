/- What the document's Print answers of calls, aggregates and two operands, given what it answers of the operands. Conditions: the expression lies in memory, within the reach. -/
import Derived.Test.YtblkhlhhlalbkaaGreatDoorPL
namespace Go.Proofs.YtblkhlhhlalbkaaGreatDoor
open Go.RowKit Go.Lib Go.Sort
set_option linter.unusedVariables false
set_option linter.unusedSimpArgs false
set_option maxRecDepth 20000

set_option maxHeartbeats 8000000 in
theorem prn_call1 (vk vn cc y : Int) (vs : ByteArray) (t n : List UInt8) (xs : List Gx) (p : Option Addr) (c : Nat) (w0 : World) (h0 : lvR 5 1 xs.length ≠ 0) (js : ByteArray) (hj : js.size ≤ 100000000000000000) (LS : ∀ W', Below w0.heap.size w0 W' → Calls Tryz.prog 37 #[.slice p xs.length c] W' fun r w' => r = .returned (.string js) ∧ Below W'.heap.size W' w') :
    PrOk w0 ⟨5, 1, ⟨vk, vn, vs⟩, t, n, cc, y, xs⟩ p c ((((⟨#[76, 69, 78, 71, 84, 72]⟩ : ByteArray) ++ (⟨#[40]⟩ : ByteArray)) ++ js) ++ (⟨#[41]⟩ : ByteArray)) := by
  unfold PrOk
  intro W hB
  have L := fun w => level_anyR 1 vk vn cc y 5 vs ⟨t.toArray⟩ ⟨n.toArray⟩ p xs.length c w
  have hr := lvR_range 5 1 xs.length
  generalize lvR 5 1 xs.length = l at *
  have X := hid (BGx.new W ⟨5, 1, ⟨vk, vn, vs⟩, t, n, cc, y, xs⟩ p c)
  have HB := hid hB
  obtain ⟨x0, x1, x2, x3, x4, x5, x6, x7, x8, x9⟩ := X.out.gc.get
  simp only [Nat.zero_add] at x1 x2 x3 x4 x5 x6 x7 x8 x9
  go_enter Tryz.func19, Tryz.ntmps19
  have e0 : (l == 0) = false := beq_eq_false_iff_ne.2 h0
  have hz0 : (⟨#[76, 69, 78, 71, 84, 72]⟩ : ByteArray).size + (⟨#[40]⟩ : ByteArray).size ≤ 9223372036854775807 := by decide
  have hz1 : ((⟨#[76, 69, 78, 71, 84, 72]⟩ : ByteArray) ++ (⟨#[40]⟩ : ByteArray)).size + js.size ≤ 9223372036854775807 := by rw [ByteArray.size_append]; show 6 + 1 + _ ≤ _; omega
  have hz2 : (((⟨#[76, 69, 78, 71, 84, 72]⟩ : ByteArray) ++ (⟨#[40]⟩ : ByteArray)) ++ js).size + (⟨#[41]⟩ : ByteArray).size ≤ 9223372036854775807 := by rw [ByteArray.size_append, ByteArray.size_append]; show 6 + 1 + _ + 1 ≤ _; omega
  have hz1a : 6 + 1 + js.size ≤ 9223372036854775807 := by omega
  have hz2a : 6 + 1 + js.size + 1 ≤ 9223372036854775807 := by omega
  have hz1b : 7 + js.size ≤ 9223372036854775807 := by omega
  have hz2b : 7 + js.size + 1 ≤ 9223372036854775807 := by omega
  have HLS := hid LS
  clear h0 LS
  go_upto_region 18 with (first
    | (go_at_call 33; with_reducible refine (L _).mono ?_; rintro r w1 ⟨rfl, b1⟩; have X1 := hid (X.out.below b1); have B1 := hid (bl2 (alB W _) b1); obtain ⟨x0, x1, x2, x3, x4, x5, x6, x7, x8, x9⟩ := X1.out.gc.get; simp only [Nat.zero_add] at x1 x2 x3 x4 x5 x6 x7 x8 x9)
    | fail)
  have HS := hid (fun W' (B : Below w1.heap.size w1 W') => And.intro (below_cell B x1) (below_cell B x9))
  have hxb := cell_lt x1
  go_region_with (first
      | (go_at_call 37; (with_reducible first | refine (HLS.out _ (HB.out.trans ((bl2 B1.out (alD w1 _)).mono HB.out.size))).mono ?_ | refine (HLS.out _ (HB.out.trans ((bl2 B1.out (bdr (Below.refl _ _))).mono HB.out.size))).mono ?_); rintro r w4 ⟨rfl, b4⟩; (with_reducible first | have B4 := hid (bl2 (alD w1 _) b4) | have B4 := hid (bdr b4)); have B4' := hid (bl2 B1.out B4.out); (first | have n0 := below_cell b4 (show ((w1.alloc _).drew).cell? ⟨w1.heap.size, 1, none⟩ = some (.string ⟨#[76, 69, 78, 71, 84, 72]⟩) from by simp [go_sem]) | skip); obtain ⟨x1, x9⟩ := HS.out _ B4.out; have hxb4 := cell_lt x1)
      | fail)
  all_goals
    go_wp2_with fail
    go_ret
    first | exact ⟨rfl, B4'.out⟩ | exact ⟨rfl, bl2 B4'.out (alB _ _)⟩
end Go.Proofs.YtblkhlhhlalbkaaGreatDoor
