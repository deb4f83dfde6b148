/- The law KeysWrites returns true and writes nothing that was there. Conditions: what the row holds is at most 1048576. -/
import Derived.Test.YtpdnnmhebofolaaKeysRefEnc
import Derived.Test.YtpdnnmhebofolaaKeysCopy
namespace Go.Proofs.Ytpdnnmhebofolaa
open Go.RowKit Go.Lib Go.Sort
set_option linter.unusedVariables false

set_option maxHeartbeats 4000000 in
theorem writes_walk (xs : List Val) (ds : List Bool) (p q : Option Addr) (c d : Nat) (w : World) (hA : bulkR xs ≤ 1048576) (hD : ds.length ≤ 1048576) (nX : p = none → xs.length = 0 ∧ c = 0) (nD : q = none → ds.length = 0 ∧ d = 0) (rX : Row w p xs) (rD : Bits w q ds)
    (hn : ∀ v ∈ xs, -9223372036854775808 ≤ v.n ∧ v.n ≤ 9223372036854775807) :
    Calls Try.prog 3 #[.slice p xs.length c, .slice q ds.length d] w fun e w' => e = .returned (.bool true) ∧ Below w.heap.size w w' := by
  have hlen := bulkR_len xs
  have hL : xs.length ≤ maxLen := by unfold maxLen; omega
  have hL2 : ds.length ≤ maxLen := by unfold maxLen; omega
  have HX : Hid (Row w p xs) := rX
  have HD : Hid (Bits w q ds) := rD
  have HnX : Hid (p = none → xs.length = 0 ∧ c = 0) := nX
  have HnD : Hid (q = none → ds.length = 0 ∧ d = 0) := nD
  have EA : Hid (∀ p q cx cd w, Row w p xs → Bits w q ds → Calls Try.prog 9 #[.slice p xs.length cx, .slice q ds.length cd] w (encEnd xs ds w)) := fun p q cx cd w r1 r2 => encode_any p q xs ds cx cd w r1 r2 hn (by omega) hL2
  have EB : Hid (∀ w, Row w p xs → Bits w q ds → Calls Try.prog 10 #[.slice p xs.length c, .slice q ds.length d] w (encEnd xs ds w)) := fun w r1 r2 => refEncode_any p q xs ds c d w r1 r2 hn (by omega) hL2
  have SR : Hid (∀ (q : Option Addr) (cq : Nat) (w : World), Row w q xs → Row w p xs → Calls Try.prog 11 #[.slice q xs.length cq, .slice p xs.length c] w fun e w' => e = .returned (.bool true) ∧ Below w.heap.size w w') := fun q cq w r1 r2 => sameRow_refl xs q p cq c w hL r1 r2
  unfold encEnd at EA EB
  generalize encR xs ds = enc at *
  clear nX nD rX rD hn hL hL2
  cases hall : xs.all Val.right
  · simp only [hall, Bool.false_eq_true, false_and, false_or, true_and] at EA EB
    clear hall
    have hcv := fun w => conv_own (own_nil w 0)
    go_enter Try.func3, Try.ntmps3
    go_wp2_with (first
      | (at_builtin; (first
        | (refine copyV w _ _ _ p xs c rfl rfl rfl rfl rfl HnX.out HX.out (by omega) ?_; intro p1 c1 w1 r1 b1; have R1 := hid r1; have B1 := hid b1; clear r1 b1)
        | (refine copyB w1 _ _ _ q ds d rfl rfl rfl rfl rfl HnD.out (HD.out.below B1.out) (by omega) ?_; intro p2 c2 w2 r2 b2; have R2 := hid r2; have B2 := hid b2; clear r2 b2)))
      | (go_at_call 9; with_reducible refine (EA.out _ _ _ _ _ (R1.out.below B2.out) R2.out).mono ?_; rintro e w3 ⟨b3, he⟩; subst he; have B3 := hid b3; have B13 := hid (B1.out.trans ((B2.out.trans (b3.mono B2.out.size)).mono B1.out.size)); clear b3)
      | (go_at_call 10; with_reducible refine (EB.out _ (HX.out.below B13.out) (HD.out.below B13.out)).mono ?_; rintro e w4 ⟨b4, he⟩; subst he; have B14 := hid (B13.out.trans (b4.mono B13.out.size)); have R14 := hid ((R1.out.below (B2.out.trans (B3.out.mono B2.out.size))).below b4); clear b4; have hc4 := hcv w4; have S4 := SR.out p1 c1 w4 R14.out (HX.out.below B14.out))
      | (go_at_call 11; with_reducible refine S4.mono ?_; rintro e w5 ⟨rfl, b5⟩; have B15 := hid (B14.out.trans (b5.mono B14.out.size)); clear b5)
      | fail)
    go_ret
    exact ⟨rfl, B15.out⟩
  · simp only [hall, Bool.true_eq_false, false_and, or_false, true_and] at EA EB
    clear hall
    go_enter Try.func3, Try.ntmps3
    go_wp2_with (first
      | (at_builtin; (first
        | (refine copyV w _ _ _ p xs c rfl rfl rfl rfl rfl HnX.out HX.out (by omega) ?_; intro p1 c1 w1 r1 b1; have R1 := hid r1; have B1 := hid b1; clear r1 b1)
        | (refine copyB w1 _ _ _ q ds d rfl rfl rfl rfl rfl HnD.out (HD.out.below B1.out) (by omega) ?_; intro p2 c2 w2 r2 b2; have R2 := hid r2; have B2 := hid b2; clear r2 b2)))
      | (go_at_call 9; with_reducible refine (EA.out _ _ _ _ _ (R1.out.below B2.out) R2.out).mono ?_; rintro e w3 ⟨b3, va, he, oa⟩; subst he; have B3 := hid b3; have OA := hid oa; have B13 := hid (B1.out.trans ((B2.out.trans (b3.mono B2.out.size)).mono B1.out.size)); clear b3 oa)
      | (go_at_call 10; with_reducible refine (EB.out _ (HX.out.below B13.out) (HD.out.below B13.out)).mono ?_; rintro e w4 ⟨b4, vb, he, ob⟩; subst he; have B14 := hid (B13.out.trans (b4.mono B13.out.size)); have R14 := hid ((R1.out.below (B2.out.trans (B3.out.mono B2.out.size))).below b4); have hc3 := conv_own (OA.out.below b4); have hc4 := conv_own ob; clear b4 ob; have S4 := SR.out p1 c1 w4 R14.out (HX.out.below B14.out))
      | (go_at_call 11; with_reducible refine S4.mono ?_; rintro e w5 ⟨rfl, b5⟩; have B15 := hid (B14.out.trans (b5.mono B14.out.size)); clear b5)
      | fail)
    go_ret
    exact ⟨rfl, B15.out⟩
end Go.Proofs.Ytpdnnmhebofolaa
