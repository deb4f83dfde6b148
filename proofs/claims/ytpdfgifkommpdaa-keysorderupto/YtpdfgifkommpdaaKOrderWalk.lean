/- The law KeysOrder returns true and writes nothing that was there. Conditions: what the rows hold is at most 1048576. -/
import Derived.Test.YtpdfgifkommpdaaKeysLaws
import Derived.Test.YtpdfgifkommpdaaValRefRows
namespace Go.Proofs.Ytpdfgifkommpdaa
open Go.RowKit Go.Lib Go.Sort
set_option linter.unusedVariables false

theorem all_right {xs : List Val} (h : xs.all Val.right = true) (hn : ∀ v ∈ xs, -9223372036854775808 ≤ v.n ∧ v.n ≤ 9223372036854775807) : ∀ v ∈ xs, v.right = true ∧ InN v := fun v hv => ⟨List.all_eq_true.1 h v hv, hn v hv⟩

set_option maxHeartbeats 4000000 in
theorem korder_walk (xs ys : List Val) (ds : List Bool) (p1 p2 q : Option Addr) (c1 c2 d : Nat) (w : World) (hA : bulkR xs ≤ 1048576) (hB : bulkR ys ≤ 1048576) (hD : ds.length ≤ 1048576) (rX : Row w p1 xs) (rY : Row w p2 ys) (rD : Bits w q ds)
    (hn : ∀ v ∈ xs, -9223372036854775808 ≤ v.n ∧ v.n ≤ 9223372036854775807) (hm : ∀ v ∈ ys, -9223372036854775808 ≤ v.n ∧ v.n ≤ 9223372036854775807) :
    Calls Try.prog 5 #[.slice p1 xs.length c1, .slice p2 ys.length c2, .slice q ds.length d] w fun e w' => e = .returned (.bool true) ∧ Below w.heap.size w w' := by
  have hl1 := bulkR_len xs
  have hl2 := bulkR_len ys
  have hL1 : xs.length ≤ maxLen := by unfold maxLen; omega
  have hL2 : ys.length ≤ maxLen := by unfold maxLen; omega
  have hL3 : ds.length ≤ maxLen := by unfold maxLen; omega
  have HX : Hid (Row w p1 xs) := rX
  have HY : Hid (Row w p2 ys) := rY
  have HD : Hid (Bits w q ds) := rD
  have WK := fun w => works_any w
  have R1 : Hid (∀ w, Row w p1 xs → Calls Try.prog 17 #[.slice p1 xs.length c1] w fun e w' => e = .returned (.bool (xs.all Val.right)) ∧ Below w.heap.size w w') := fun w r => right_any xs p1 c1 w hL1 r
  have R2 : Hid (∀ w, Row w p2 ys → Calls Try.prog 17 #[.slice p2 ys.length c2] w fun e w' => e = .returned (.bool (ys.all Val.right)) ∧ Below w.heap.size w w') := fun w r => right_any ys p2 c2 w hL2 r
  clear rX rY rD
  cases ha : xs.all Val.right
  · simp only [ha] at R1
    clear R2 hn hm
    go_enter Try.func5, Try.ntmps5
    go_wp2_with (first
      | (go_at_call 16; with_reducible refine (WK _).mono ?_; rintro e w1 ⟨rfl, b1⟩; have B1 := hid b1; clear b1; have R1' := R1.out w1 (HX.out.below B1.out))
      | (go_at_call 17; with_reducible refine R1'.mono ?_; rintro e w2 ⟨rfl, b2⟩; have B2 := hid (B1.out.trans (b2.mono B1.out.size)); clear b2)
      | fail)
    go_ret
    exact ⟨rfl, B2.out⟩
  cases hb : ys.all Val.right
  · simp only [ha] at R1
    simp only [hb] at R2
    clear hn hm
    go_enter Try.func5, Try.ntmps5
    go_wp2_with (first
      | (go_at_call 16; with_reducible refine (WK _).mono ?_; rintro e w1 ⟨rfl, b1⟩; have B1 := hid b1; clear b1; have R1' := R1.out w1 (HX.out.below B1.out))
      | (go_at_call 17; (first
        | (with_reducible refine R1'.mono ?_; rintro e w2 ⟨rfl, b2⟩; have B2 := hid (B1.out.trans (b2.mono B1.out.size)); clear b2 R1'; have R2' := R2.out w2 (HY.out.below B2.out))
        | (with_reducible refine R2'.mono ?_; rintro e w3 ⟨rfl, b3⟩; have B3 := hid (B2.out.trans (b3.mono B2.out.size)); clear b3)))
      | fail)
    go_ret
    exact ⟨rfl, B3.out⟩
  · simp only [ha] at R1
    simp only [hb] at R2
    have rx := all_right ha hn
    have ry := all_right hb hm
    have HC : Hid (compareBytes (encR xs ds) (encR ys ds) = cmpRow xs ys ds) := encR_cmp xs ys ds rx ry
    have E1 : Hid (∀ w, Row w p1 xs → Bits w q ds → Calls Try.prog 9 #[.slice p1 xs.length c1, .slice q ds.length d] w fun e w' => Below w.heap.size w w' ∧ ∃ v, e = .returned (.tuple #[v, .int .i64 0]) ∧ OwnB w' w.heap.size v (encR xs ds)) := fun w r1 r2 => encode_ok p1 q xs ds c1 d w r1 r2 rx (by omega) hL3
    have E2 : Hid (∀ w, Row w p2 ys → Bits w q ds → Calls Try.prog 9 #[.slice p2 ys.length c2, .slice q ds.length d] w fun e w' => Below w.heap.size w w' ∧ ∃ v, e = .returned (.tuple #[v, .int .i64 0]) ∧ OwnB w' w.heap.size v (encR ys ds)) := fun w r1 r2 => encode_ok p2 q ys ds c2 d w r1 r2 ry (by omega) hL3
    have RR : Hid (∀ w, Row w p1 xs → Row w p2 ys → Bits w q ds → Calls Try.prog 19 #[.slice p1 xs.length c1, .slice p2 ys.length c2, .slice q ds.length d] w fun e w' => e = .returned (.int .i64 (cmpRow xs ys ds)) ∧ Below w.heap.size w w') := fun w r1 r2 r3 => refRows_any xs ys ds p1 p2 q c1 c2 d w hL1 hL2 hL3 (fun v hv => by have := bulkR_mem xs v hv; unfold maxLen; omega) (fun v hv => by have := bulkR_mem ys v hv; unfold maxLen; omega) r1 r2 r3
    rw [← HC.out] at RR
    generalize encR xs ds = ex at *
    generalize encR ys ds = ey at *
    have OR : Hid (∀ (p1 p2 : Option Addr) (c1 c2 : Nat) (w : World), Byts w p1 ex → Byts w p2 ey → Calls Try.prog 18 #[.slice p1 ex.length c1, .slice p2 ey.length c2] w fun e w' => e = .returned (.int .i64 (compareBytes ex ey)) ∧ w' = w) := fun p1 p2 c1 c2 w r1 r2 => order_any p1 p2 ex ey c1 c2 w r1 r2
    generalize compareBytes ex ey = cmp at *
    have q1 : (cmp == cmp) = true := by simp
    clear HC rx ry hn hm ha hb
    go_enter Try.func5, Try.ntmps5
    go_wp2_with (first
      | (go_at_call 16; with_reducible refine (WK _).mono ?_; rintro e w1 ⟨rfl, b1⟩; have B1 := hid b1; clear b1; have R1' := R1.out w1 (HX.out.below B1.out))
      | (go_at_call 17; (first
        | (with_reducible refine R1'.mono ?_; rintro e w2 ⟨rfl, b2⟩; have B2 := hid (B1.out.trans (b2.mono B1.out.size)); clear b2 R1'; have R2' := R2.out w2 (HY.out.below B2.out))
        | (with_reducible refine R2'.mono ?_; rintro e w3 ⟨rfl, b3⟩; have B3 := hid (B2.out.trans (b3.mono B2.out.size)); clear b3; have E1' := E1.out w3 (HX.out.below B3.out) (HD.out.below B3.out))))
      | (go_at_call 9; (first
        | (with_reducible refine E1'.mono ?_; rintro e w4 ⟨b4, v4, he, o4⟩; subst he; have B4 := hid (B3.out.trans (b4.mono B3.out.size)); obtain ⟨p4, c4, hv4, r4, _, _⟩ := Byts.of_own o4; subst hv4; have RX := hid r4; clear b4 o4 r4 E1'; have E2' := E2.out w4 (HY.out.below B4.out) (HD.out.below B4.out))
        | (with_reducible refine E2'.mono ?_; rintro e w5 ⟨b5, v5, he, o5⟩; subst he; have B5 := hid (B4.out.trans (b5.mono B4.out.size)); obtain ⟨p5, c5, hv5, r5, _, _⟩ := Byts.of_own o5; subst hv5; have O5 := OR.out p4 p5 c4 c5 w5 (RX.out.below b5) r5; have RR5 := RR.out w5 (HX.out.below B5.out) (HY.out.below B5.out) (HD.out.below B5.out); clear b5 o5 r5)))
      | (go_at_call 18; with_reducible refine O5.mono ?_; rintro e w6 ⟨rfl, hw6⟩; subst hw6)
      | (go_at_call 19; with_reducible refine RR5.mono ?_; rintro e w7 ⟨rfl, b7⟩; have B7 := hid (B5.out.trans (b7.mono B5.out.size)); clear b7)
      | fail)
    go_ret
    exact ⟨ret_bool (by simp), B7.out⟩
end Go.Proofs.Ytpdfgifkommpdaa
