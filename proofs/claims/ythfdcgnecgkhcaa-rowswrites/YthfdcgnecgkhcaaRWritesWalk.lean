/- The law RowsWrites returns true and writes nothing that was there. Conditions: the row lies within the reach. -/
import Derived.Test.YthfdcgnecgkhcaaRowShort
import Derived.Test.YthfdcgnecgkhcaaRefRow
namespace Go.Proofs.Ythfdcgnecgkhcaa
open Go.RowKit Go.Lib Go.Sort
set_option linter.unusedVariables false

set_option maxHeartbeats 4000000 in
theorem rwrites_walk (xs : List Val) (p : Option Addr) (c : Nat) (w : World) (hz : xs.length * 32 ≤ 140737488351232) (nX : p = none → xs.length = 0 ∧ c = 0) (rX : Row w p xs)
    (hn : ∀ v ∈ xs, -9223372036854775808 ≤ v.n ∧ v.n ≤ 9223372036854775807) :
    Calls Try.prog 3 #[.slice p xs.length c] w fun e w' => e = .returned (.bool true) ∧ Below w.heap.size w w' := by
  have SH := short_any p xs c w rX hz
  cases hsh : shortW xs
  · rw [hsh] at SH
    clear rX nX hn
    go_enter Try.func3, Try.ntmps3
    go_wp2_with (first
      | (go_at_call 9; with_reducible refine SH.mono ?_; rintro e w1 ⟨rfl, hw⟩; subst hw)
      | fail)
    go_ret
    exact ⟨rfl, Below.refl _ _⟩
  · rw [hsh] at SH
    have hbk := shortW_bulk hsh
    have hlen := bulkR_len xs
    have hL : xs.length ≤ maxLen := by unfold maxLen; omega
    have HX : Hid (Row w p xs) := rX
    have HnX : Hid (p = none → xs.length = 0 ∧ c = 0) := nX
    have EA : Hid (∀ p c w, Row w p xs → Calls Try.prog 10 #[.slice p xs.length c] w fun e w' => Below w.heap.size w w' ∧ ∃ v, e = .returned (.tuple #[v, .int .i64 (errE xs)]) ∧ OwnB w' w.heap.size v (bytE xs)) := fun p c w r => (rencode_any p xs c w r hn (by omega)).mono fun e w' h => h.uni
    have EB : Hid (∀ w, Row w p xs → Calls Try.prog 11 #[.slice p xs.length c] w fun e w' => Below w.heap.size w w' ∧ ∃ v, e = .returned (.tuple #[v, .int .i64 (errE xs)]) ∧ OwnB w' w.heap.size v (bytE xs)) := fun w r => (refEncodeW_any p xs c w r hn (by omega)).mono fun e w' h => h.uni
    have SA : Hid (∀ p c w, Row w p xs → Calls Try.prog 12 #[.slice p xs.length c] w fun e w' => e = .returned (.int .i64 (sizeW xs : Int)) ∧ Below w.heap.size w w') := fun p c w r => rsize_any p xs c w r hn (by omega)
    have SB : Hid (∀ w, Row w p xs → Calls Try.prog 13 #[.slice p xs.length c] w fun e w' => e = .returned (.int .i64 (sizeW xs : Int)) ∧ Below w.heap.size w w') := fun w r => refSize_any p xs c w r hn (by omega)
    have SR : Hid (∀ (q : Option Addr) (cq : Nat) (w : World), Row w q xs → Row w p xs → Calls Try.prog 14 #[.slice q xs.length cq, .slice p xs.length c] w fun e w' => e = .returned (.bool true) ∧ Below w.heap.size w w') := fun q cq w r1 r2 => sameRow_refl xs q p cq c w hL r1 r2
    generalize errE xs = er at *
    generalize bytE xs = by' at *
    generalize sizeW xs = sz at *
    clear nX rX hn hsh
    go_enter Try.func3, Try.ntmps3
    go_wp2_with (first
      | (go_at_call 9; with_reducible refine SH.mono ?_; rintro e w0 ⟨rfl, hw⟩; subst hw)
      | (at_builtin; refine copyV _ _ _ _ p xs c rfl rfl rfl rfl rfl HnX.out HX.out (by omega) ?_; intro p1 c1 w1 r1 b1; have R1 := hid r1; have B1 := hid b1; clear r1 b1)
      | (go_at_call 10; with_reducible refine (EA.out _ _ _ R1.out).mono ?_; rintro e w3 ⟨b3, va, he, oa⟩; subst he; have OA := hid oa; have R3 := hid (R1.out.below b3); have B3 := hid (B1.out.trans (b3.mono B1.out.size)); clear b3 oa)
      | (go_at_call 11; with_reducible refine (EB.out _ (HX.out.below B3.out)).mono ?_; rintro e w4 ⟨b4, vb, he, ob⟩; subst he; have B4 := hid (B3.out.trans (b4.mono B3.out.size)); have R4 := hid (R3.out.below b4); have hc3 := conv_own (OA.out.below b4); have hc4 := conv_own ob; clear b4 ob; have S4 := SA.out p1 c1 w4 R4.out)
      | (go_at_call 12; with_reducible refine S4.mono ?_; rintro e w5 ⟨rfl, b5⟩; have B5 := hid (B4.out.trans (b5.mono B4.out.size)); have R5 := hid (R4.out.below b5); clear b5; have T5 := SB.out w5 (HX.out.below B5.out))
      | (go_at_call 13; with_reducible refine T5.mono ?_; rintro e w6 ⟨rfl, b6⟩; have B6 := hid (B5.out.trans (b6.mono B5.out.size)); have R6 := hid (R5.out.below b6); clear b6; have U6 := SR.out p1 c1 w6 R6.out (HX.out.below B6.out))
      | (go_at_call 14; with_reducible refine U6.mono ?_; rintro e w7 ⟨rfl, b7⟩; have B7 := hid (B6.out.trans (b7.mono B6.out.size)); clear b7)
      | fail)
    go_ret
    exact ⟨rfl, B7.out⟩
end Go.Proofs.Ythfdcgnecgkhcaa
