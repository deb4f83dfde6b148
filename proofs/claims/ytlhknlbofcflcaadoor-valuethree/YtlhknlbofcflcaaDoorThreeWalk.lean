/- The law ValueThree returns true and writes nothing that was there. Conditions: the rows' lengths are Go's; the library's table lies in memory as its text lays it. -/
import Derived.Test.YtlhknlbofcflcaaDoorValWorks
import Derived.Test.YtlhknlbofcflcaaDoorValRows
import Derived.Test.YtlhknlbofcflcaaDoorRowOrder
namespace Go.Proofs.YtlhknlbofcflcaaDoor
open Go.RowKit Go.Lib Go.Sort
set_option linter.unusedVariables false

set_option maxHeartbeats 1000000 in
theorem three_any (xs ys zs : List Val) (ds : List Bool) (pa pb pc pd : Option Addr) (ca cb cc cd : Nat) (w : World) (hw : Ready w)
    (hA : xs.length ≤ maxLen) (hB : ys.length ≤ maxLen) (hC : zs.length ≤ maxLen) (hD : ds.length ≤ maxLen) (rA : Row w pa xs) (rB : Row w pb ys) (rC : Row w pc zs) (rD : Bits w pd ds) :
    Calls Tryd.prog 7 #[.slice pa xs.length ca, .slice pb ys.length cb, .slice pc zs.length cc, .slice pd ds.length cd] w fun e w' => e = .returned (.bool true) ∧ Below w.heap.size w w' := by
  by_cases hl : xs.length = ys.length
  · by_cases hl2 : ys.length = zs.length
    · have l1 : (((xs.length : Nat) : Int) != (ys.length : Int)) = false := by simp [hl]
      have l2 : (((ys.length : Nat) : Int) != (zs.length : Int)) = false := by simp [hl2]
      have tr := cmpRow_trans xs ys zs ds hl hl2
      have bx := cmpRow_bd xs ys ds
      have by' := cmpRow_bd ys zs ds
      have bz := cmpRow_bd xs zs ds
      have C1 : Hid (∀ w, Row w pa xs → Row w pb ys → Bits w pd ds → Calls Tryd.prog 16 #[.slice pa xs.length ca, .slice pb ys.length cb, .slice pd ds.length cd] w fun e w' => e = .returned (.int .i64 (cmpRow xs ys ds)) ∧ Below w.heap.size w w') := fun w a b d => rows_any xs ys ds pa pb pd ca cb cd w hA hB hD a b d
      have C2 : Hid (∀ w, Row w pb ys → Row w pc zs → Bits w pd ds → Calls Tryd.prog 16 #[.slice pb ys.length cb, .slice pc zs.length cc, .slice pd ds.length cd] w fun e w' => e = .returned (.int .i64 (cmpRow ys zs ds)) ∧ Below w.heap.size w w') := fun w a b d => rows_any ys zs ds pb pc pd cb cc cd w hB hC hD a b d
      have C3 : Hid (∀ w, Row w pa xs → Row w pc zs → Bits w pd ds → Calls Tryd.prog 16 #[.slice pa xs.length ca, .slice pc zs.length cc, .slice pd ds.length cd] w fun e w' => e = .returned (.int .i64 (cmpRow xs zs ds)) ∧ Below w.heap.size w w') := fun w a b d => rows_any xs zs ds pa pc pd ca cc cd w hA hC hD a b d
      generalize cmpRow xs ys ds = x at *
      generalize cmpRow ys zs ds = y at *
      generalize cmpRow xs zs ds = z at *
      have HX : Hid (x = 1 ∨ (x = 0 ∧ (y = 1 ∨ (y = 0 ∧ z ≤ 0) ∨ (y = -1 ∧ z = -1))) ∨ (x = -1 ∧ (y = 1 ∨ (z = -1 ∧ (y = 0 ∨ y = -1))))) := by show _ ∨ _; omega
      have HW : Hid (Ready w) := hw
      have HL : Hid (xs.length = ys.length) := hl
      have HL2 : Hid (ys.length = zs.length) := hl2
      clear hw hl hl2 tr bx by'
      unfold maxLen at hA hB hC hD
      go_enter Tryd.func7, Tryd.ntmps7
      go_wp2_with fail
      refine (works_any _ HW.out).mono ?_
      rintro e w1 ⟨rfl, B1⟩
      go_wp2_with fail
      refine (C1.out _ (rA.below B1) (rB.below B1) (rD.below B1)).mono ?_
      rintro e w2 ⟨rfl, b2⟩
      have B2 : Below w.heap.size w w2 := B1.trans (b2.mono B1.size)
      clear b2 B1
      go_wp2_with fail
      refine (C2.out _ (rB.below B2) (rC.below B2) (rD.below B2)).mono ?_
      rintro e w3 ⟨rfl, b3⟩
      have B3 : Below w.heap.size w w3 := B2.trans (b3.mono B2.size)
      clear b3 B2
      go_wp2_with fail
      refine (C3.out _ (rA.below B3) (rC.below B3) (rD.below B3)).mono ?_
      rintro e w4 ⟨rfl, b4⟩
      have B4 : Below w.heap.size w w4 := B3.trans (b4.mono B3.size)
      clear b4 B3 C1 C2 C3 rA rB rC rD HW HL HL2 hA hB hC hD l1 l2
      rcases HX.out with rfl | ⟨rfl, rfl | ⟨rfl, hz⟩ | ⟨rfl, rfl⟩⟩ | ⟨rfl, rfl | ⟨rfl, rfl | rfl⟩⟩
      all_goals
        clear HX
        go_wp2
        go_ret
        exact ⟨rfl, B4⟩
    · have l1 : (((xs.length : Nat) : Int) != (ys.length : Int)) = false := by simp [hl]
      have l2 : (((ys.length : Nat) : Int) != (zs.length : Int)) = true := by simp; omega
      have HW : Hid (Ready w) := hw
      clear hw hl hl2
      unfold maxLen at hA hB hC hD
      go_enter Tryd.func7, Tryd.ntmps7
      go_wp2_with fail
      refine (works_any _ HW.out).mono ?_
      rintro e w1 ⟨rfl, B1⟩
      go_wp2
      go_ret
      exact ⟨rfl, B1⟩
  · have l1 : (((xs.length : Nat) : Int) != (ys.length : Int)) = true := by simp; omega
    have HW : Hid (Ready w) := hw
    clear hw hl
    unfold maxLen at hA hB hC hD
    go_enter Tryd.func7, Tryd.ntmps7
    go_wp2_with fail
    refine (works_any _ HW.out).mono ?_
    rintro e w1 ⟨rfl, B1⟩
    go_wp2
    go_ret
    exact ⟨rfl, B1⟩
end Go.Proofs.YtlhknlbofcflcaaDoor
