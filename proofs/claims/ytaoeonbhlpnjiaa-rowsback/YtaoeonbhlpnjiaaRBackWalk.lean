/- The law RowsBack returns true and writes nothing that was there. Conditions: the row and the bytes lie within the reach. -/
import Derived.Test.YtaoeonbhlpnjiaaRowLaws
namespace Go.Proofs.Ytaoeonbhlpnjiaa
open Go.RowKit Go.Lib Go.Sort
set_option linter.unusedVariables false

set_option maxHeartbeats 8000000 in
theorem rback_walk (xs : List Val) (l : List UInt8) (p1 p2 : Option Addr) (c1 c2 : Nat) (w : World) (hz : xs.length * 32 ≤ 140737488351232) (hl : l.length ≤ 140737488351232) (hc : l.length ≤ c2) (rX : Row w p1 xs) (rY : Byts w p2 l)
    (hn : ∀ v ∈ xs, -9223372036854775808 ≤ v.n ∧ v.n ≤ 9223372036854775807) :
    Calls Try.prog 5 #[.slice p1 xs.length c1, .slice p2 l.length c2] w fun e w' => e = .returned (.bool true) ∧ Below w.heap.size w w' := by
  have hL1 : xs.length ≤ maxLen := by unfold maxLen; omega
  have HX : Hid (Row w p1 xs) := rX
  have HY : Hid (Byts w p2 l) := rY
  have WK := fun w => worksW_any w
  have SH : Hid (∀ w, Row w p1 xs → Calls Try.prog 9 #[.slice p1 xs.length c1] w fun e w' => e = .returned (.bool (shortW xs)) ∧ w' = w) := fun w r => short_any p1 xs c1 w r hz
  have DD : Hid (∀ w, Byts w p2 l → Calls Try.prog 15 #[.slice p2 l.length c2] w (decEnd (decW l) w)) := fun w r => decodeW_any p2 l c2 w hc r hl
  clear rX rY
  cases hdec : decW l with
  | error n =>
    have D1 : Hid (∀ w, Byts w p2 l → Calls Try.prog 15 #[.slice p2 l.length c2] w fun e w' => Below w.heap.size w w' ∧ e = .returned (.tuple #[.slice none 0 0, .int .i64 n])) := fun w r => (DD.out w r).mono fun e w' h => by rw [hdec] at h; exact h
    have hn0 : (n == 0) = false := beq_eq_false_iff_ne.2 (decW_err hdec)
    clear DD hdec
    cases hsh : shortW xs
    · simp only [hsh] at SH
      clear hn
      go_enter Try.func5, Try.ntmps5
      go_wp2_with (first
        | (go_at_call 17; with_reducible refine (WK _).mono ?_; rintro e w1 ⟨rfl, b1⟩; have B1 := hid b1; clear b1; have D1' := D1.out w1 (HY.out.below B1.out))
        | (go_at_call 9; with_reducible refine SH'.mono ?_; rintro e w5 ⟨rfl, hw⟩; subst hw)
        | (go_at_call 15; with_reducible refine D1'.mono ?_; rintro e w2 ⟨b2, he⟩; subst he; have B4 := hid (B1.out.trans (b2.mono B1.out.size)); clear b2 D1'; have SH' := SH.out w2 (HX.out.below B4.out))
        | fail)
      go_ret
      exact ⟨rfl, B4.out⟩
    · simp only [hsh] at SH
      by_cases her : errE xs = 0
      · have hbk := shortW_bulk hsh
        have hlen := bulkR_len xs
        clear hsh
        obtain ⟨q1, q2, q3, q4⟩ := errE_ok her
        have hin := inV_of q1 hn (by omega)
        have hdd : decW (encW xs) = .ok xs := by
          have := decW_enc (xs := xs) [] hin (by simpa using q2)
          simpa using this
        have E1 : Hid (∀ w, Row w p1 xs → Calls Try.prog 10 #[.slice p1 xs.length c1] w fun e w' => Below w.heap.size w w' ∧ ∃ v, e = .returned (.tuple #[v, .int .i64 0]) ∧ OwnB w' w.heap.size v (encW xs)) := fun w r => (rencode_any p1 xs c1 w r hn (by omega)).mono fun e w' h => by
          obtain ⟨B, v, he, O⟩ := h.uni
          rw [q3] at O
          rw [her] at he
          exact ⟨B, v, he, O⟩
        have D2 : Hid (∀ p c w, (encW xs).length ≤ c → Byts w p (encW xs) → Calls Try.prog 15 #[.slice p (encW xs).length c] w fun e w' => Below w.heap.size w w' ∧ ∃ v, e = .returned (.tuple #[v, .int .i64 0]) ∧ OwnV w' w.heap.size v xs) := fun p c w h r => (decodeW_any p (encW xs) c w h r (by omega)).mono fun e w' h => by rw [hdd] at h; exact h
        have Z1 : Hid (∀ w, Row w p1 xs → Calls Try.prog 12 #[.slice p1 xs.length c1] w fun e w' => e = .returned (.int .i64 ((encW xs).length : Int)) ∧ Below w.heap.size w w') := fun w r => by
          have := rsize_any p1 xs c1 w r hn (by omega)
          rw [q4] at this
          exact this
        have SR : Hid (∀ (q : Option Addr) (cq : Nat) (w : World), Row w q xs → Row w p1 xs → Calls Try.prog 14 #[.slice q xs.length cq, .slice p1 xs.length c1] w fun e w' => e = .returned (.bool true) ∧ Below w.heap.size w w') := fun q cq w r1 r2 => sameRow_refl xs q p1 cq c1 w hL1 r1 r2
        generalize encW xs = ex at *
        clear hn her q1 q3 q4 hin hdd
        go_enter Try.func5, Try.ntmps5
        go_wp2_with (first
          | (go_at_call 17; with_reducible refine (WK _).mono ?_; rintro e w1 ⟨rfl, b1⟩; have B1 := hid b1; clear b1; have D1' := D1.out w1 (HY.out.below B1.out))
          | (go_at_call 9; with_reducible refine SH'.mono ?_; rintro e w5 ⟨rfl, hw⟩; subst hw; have E1' := E1.out _ (HX.out.below B4.out))
          | (go_at_call 14; with_reducible refine S7.mono ?_; rintro e w8 ⟨rfl, b8⟩; have B8 := hid (B7.out.trans (b8.mono B7.out.size)); clear b8; have Z1' := Z1.out w8 (HX.out.below B8.out))
          | (go_at_call 15; (first | (with_reducible refine D1'.mono ?_; rintro e w2 ⟨b2, he⟩; subst he; have B4 := hid (B1.out.trans (b2.mono B1.out.size)); clear b2 D1'; have SH' := SH.out w2 (HX.out.below B4.out)) | (with_reducible refine D2'.mono ?_; rintro e w7 ⟨b7, v7, he, o7⟩; subst he; have B7 := hid (B6.out.trans (b7.mono B6.out.size)); obtain ⟨p7, c7, hv7, r7, _, _⟩ := ownV_slice o7; subst hv7; have S7 := SR.out p7 c7 w7 r7 (HX.out.below B7.out); clear b7 o7 r7)))
          | (go_at_call 10; with_reducible refine E1'.mono ?_; rintro e w6 ⟨b6, v6, he, o6⟩; subst he; have B6 := hid (B4.out.trans (b6.mono B4.out.size)); obtain ⟨p6, c6, hv6, r6, _, _⟩ := Byts.of_own o6; subst hv6; have D2' := D2.out p6 c6 w6 (own_cap o6) r6; clear b6 o6 r6 E1')
          | (go_at_call 12; with_reducible refine Z1'.mono ?_; rintro e w9 ⟨rfl, b9⟩; have B9 := hid (B8.out.trans (b9.mono B8.out.size)); clear b9)
          | fail)
        go_ret
        exact ⟨rfl, B9.out⟩
      · have hbk := shortW_bulk hsh
        have hlen := bulkR_len xs
        clear hsh
        have E1 : Hid (∀ w, Row w p1 xs → Calls Try.prog 10 #[.slice p1 xs.length c1] w fun e w' => Below w.heap.size w w' ∧ ∃ p c, e = .returned (.tuple #[.slice p 0 c, .int .i64 (errE xs)])) := fun w r => (rencode_any p1 xs c1 w r hn (by omega)).mono fun e w' h => by
          obtain ⟨B, v, he, O⟩ := h.uni
          rw [bytE_bad her] at O
          obtain ⟨p, c, hv⟩ := own_form O 0 rfl
          subst hv
          exact ⟨B, p, c, he⟩
        have her0 : (errE xs != 0) = true := bne_iff_ne.2 her
        generalize errE xs = er at *
        clear hn her
        go_enter Try.func5, Try.ntmps5
        go_wp2_with (first
          | (go_at_call 17; with_reducible refine (WK _).mono ?_; rintro e w1 ⟨rfl, b1⟩; have B1 := hid b1; clear b1; have D1' := D1.out w1 (HY.out.below B1.out))
          | (go_at_call 9; with_reducible refine SH'.mono ?_; rintro e w5 ⟨rfl, hw⟩; subst hw; have E1' := E1.out _ (HX.out.below B4.out))
          | (go_at_call 15; with_reducible refine D1'.mono ?_; rintro e w2 ⟨b2, he⟩; subst he; have B4 := hid (B1.out.trans (b2.mono B1.out.size)); clear b2 D1'; have SH' := SH.out w2 (HX.out.below B4.out))
          | (go_at_call 10; with_reducible refine E1'.mono ?_; rintro e w6 ⟨b6, p6, c6, he⟩; subst he; have B6 := hid (B4.out.trans (b6.mono B4.out.size)); clear b6 E1')
          | fail)
        go_ret
        exact ⟨rfl, B6.out⟩
  | ok zs =>
    obtain ⟨k1, k2, k3⟩ := decW_back hdec
    have k4 := bulk_dec hdec
    have D1 : Hid (∀ w, Byts w p2 l → Calls Try.prog 15 #[.slice p2 l.length c2] w fun e w' => Below w.heap.size w w' ∧ ∃ v, e = .returned (.tuple #[v, .int .i64 0]) ∧ OwnV w' w.heap.size v zs) := fun w r => (DD.out w r).mono fun e w' h => by rw [hdec] at h; exact h
    have hnz : ∀ v ∈ zs, -9223372036854775808 ≤ v.n ∧ v.n ≤ 9223372036854775807 := fun v hv => ⟨(k1 v hv).2.1, (k1 v hv).2.2.1⟩
    have hall : zs.all Val.right = true := List.all_eq_true.2 (fun v hv => (k1 v hv).1)
    have E0 : Hid (∀ p c w, Row w p zs → Calls Try.prog 10 #[.slice p zs.length c] w fun e w' => Below w.heap.size w w' ∧ ∃ v, e = .returned (.tuple #[v, .int .i64 0]) ∧ OwnB w' w.heap.size v l) := fun p c w r => (rencode_any p zs c w r hnz (by omega)).mono fun e w' h => by
      obtain ⟨B, ⟨h, _⟩ | ⟨_, h, _⟩ | ⟨_, _, h⟩⟩ := h
      · rw [hall] at h; cases h
      · rw [k2] at h; omega
      · rw [k2] at h; exact ⟨B, h⟩
    have Z0 : Hid (∀ p c w, Row w p zs → Calls Try.prog 12 #[.slice p zs.length c] w fun e w' => e = .returned (.int .i64 (l.length : Int)) ∧ Below w.heap.size w w') := fun p c w r => (rsize_any p zs c w r hnz (by omega)).mono fun e w' h => by
      have e1 : sizeW zs = l.length := by unfold sizeW; rw [if_pos hall, k2]
      rw [e1] at h
      exact h
    clear DD hdec k1 k2 k4 hnz hall
    cases hsh : shortW xs
    · simp only [hsh] at SH
      clear hn
      go_enter Try.func5, Try.ntmps5
      go_wp2_with (first
        | (go_at_call 17; with_reducible refine (WK _).mono ?_; rintro e w1 ⟨rfl, b1⟩; have B1 := hid b1; clear b1; have D1' := D1.out w1 (HY.out.below B1.out))
        | (go_at_call 9; with_reducible refine SH'.mono ?_; rintro e w5 ⟨rfl, hw⟩; subst hw)
        | (go_at_call 15; with_reducible refine D1'.mono ?_; rintro e w2 ⟨b2, v2, he, o2⟩; subst he; have B2 := hid (B1.out.trans (b2.mono B1.out.size)); obtain ⟨p2', c2', hv2, r2, _, _⟩ := ownV_slice o2; subst hv2; have R2 := hid r2; have E0' := E0.out p2' c2' w2 r2; clear b2 o2 r2 D1')
        | (go_at_call 10; with_reducible refine E0'.mono ?_; rintro e w3 ⟨b3, v3, he, o3⟩; subst he; have B3 := hid (B2.out.trans (b3.mono B2.out.size)); have hc3 := conv_own o3; have hc4 := conv_byts c2 (HY.out.below B3.out); have Z0' := Z0.out p2' c2' w3 (R2.out.below b3); clear b3 o3 E0')
        | (go_at_call 12; with_reducible refine Z0'.mono ?_; rintro e w4 ⟨rfl, b4⟩; have B4 := hid (B3.out.trans (b4.mono B3.out.size)); clear b4 Z0'; have SH' := SH.out w4 (HX.out.below B4.out))
        | fail)
      go_ret
      exact ⟨rfl, B4.out⟩
    · simp only [hsh] at SH
      by_cases her : errE xs = 0
      · have hbk := shortW_bulk hsh
        have hlen := bulkR_len xs
        clear hsh
        obtain ⟨q1, q2, q3, q4⟩ := errE_ok her
        have hin := inV_of q1 hn (by omega)
        have hdd : decW (encW xs) = .ok xs := by
          have := decW_enc (xs := xs) [] hin (by simpa using q2)
          simpa using this
        have E1 : Hid (∀ w, Row w p1 xs → Calls Try.prog 10 #[.slice p1 xs.length c1] w fun e w' => Below w.heap.size w w' ∧ ∃ v, e = .returned (.tuple #[v, .int .i64 0]) ∧ OwnB w' w.heap.size v (encW xs)) := fun w r => (rencode_any p1 xs c1 w r hn (by omega)).mono fun e w' h => by
          obtain ⟨B, v, he, O⟩ := h.uni
          rw [q3] at O
          rw [her] at he
          exact ⟨B, v, he, O⟩
        have D2 : Hid (∀ p c w, (encW xs).length ≤ c → Byts w p (encW xs) → Calls Try.prog 15 #[.slice p (encW xs).length c] w fun e w' => Below w.heap.size w w' ∧ ∃ v, e = .returned (.tuple #[v, .int .i64 0]) ∧ OwnV w' w.heap.size v xs) := fun p c w h r => (decodeW_any p (encW xs) c w h r (by omega)).mono fun e w' h => by rw [hdd] at h; exact h
        have Z1 : Hid (∀ w, Row w p1 xs → Calls Try.prog 12 #[.slice p1 xs.length c1] w fun e w' => e = .returned (.int .i64 ((encW xs).length : Int)) ∧ Below w.heap.size w w') := fun w r => by
          have := rsize_any p1 xs c1 w r hn (by omega)
          rw [q4] at this
          exact this
        have SR : Hid (∀ (q : Option Addr) (cq : Nat) (w : World), Row w q xs → Row w p1 xs → Calls Try.prog 14 #[.slice q xs.length cq, .slice p1 xs.length c1] w fun e w' => e = .returned (.bool true) ∧ Below w.heap.size w w') := fun q cq w r1 r2 => sameRow_refl xs q p1 cq c1 w hL1 r1 r2
        generalize encW xs = ex at *
        clear hn her q1 q3 q4 hin hdd
        go_enter Try.func5, Try.ntmps5
        go_wp2_with (first
          | (go_at_call 17; with_reducible refine (WK _).mono ?_; rintro e w1 ⟨rfl, b1⟩; have B1 := hid b1; clear b1; have D1' := D1.out w1 (HY.out.below B1.out))
          | (go_at_call 9; with_reducible refine SH'.mono ?_; rintro e w5 ⟨rfl, hw⟩; subst hw; have E1' := E1.out _ (HX.out.below B4.out))
          | (go_at_call 14; with_reducible refine S7.mono ?_; rintro e w8 ⟨rfl, b8⟩; have B8 := hid (B7.out.trans (b8.mono B7.out.size)); clear b8; have Z1' := Z1.out w8 (HX.out.below B8.out))
          | (go_at_call 15; (first | (with_reducible refine D1'.mono ?_; rintro e w2 ⟨b2, v2, he, o2⟩; subst he; have B2 := hid (B1.out.trans (b2.mono B1.out.size)); obtain ⟨p2', c2', hv2, r2, _, _⟩ := ownV_slice o2; subst hv2; have R2 := hid r2; have E0' := E0.out p2' c2' w2 r2; clear b2 o2 r2 D1') | (with_reducible refine D2'.mono ?_; rintro e w7 ⟨b7, v7, he, o7⟩; subst he; have B7 := hid (B6.out.trans (b7.mono B6.out.size)); obtain ⟨p7, c7, hv7, r7, _, _⟩ := ownV_slice o7; subst hv7; have S7 := SR.out p7 c7 w7 r7 (HX.out.below B7.out); clear b7 o7 r7)))
          | (go_at_call 10; (first | (with_reducible refine E0'.mono ?_; rintro e w3 ⟨b3, v3, he, o3⟩; subst he; have B3 := hid (B2.out.trans (b3.mono B2.out.size)); have hc3 := conv_own o3; have hc4 := conv_byts c2 (HY.out.below B3.out); have Z0' := Z0.out p2' c2' w3 (R2.out.below b3); clear b3 o3 E0') | (with_reducible refine E1'.mono ?_; rintro e w6 ⟨b6, v6, he, o6⟩; subst he; have B6 := hid (B4.out.trans (b6.mono B4.out.size)); obtain ⟨p6, c6, hv6, r6, _, _⟩ := Byts.of_own o6; subst hv6; have D2' := D2.out p6 c6 w6 (own_cap o6) r6; clear b6 o6 r6 E1')))
          | (go_at_call 12; (first | (with_reducible refine Z0'.mono ?_; rintro e w4 ⟨rfl, b4⟩; have B4 := hid (B3.out.trans (b4.mono B3.out.size)); clear b4 Z0'; have SH' := SH.out w4 (HX.out.below B4.out)) | (with_reducible refine Z1'.mono ?_; rintro e w9 ⟨rfl, b9⟩; have B9 := hid (B8.out.trans (b9.mono B8.out.size)); clear b9)))
          | fail)
        go_ret
        exact ⟨rfl, B9.out⟩
      · have hbk := shortW_bulk hsh
        have hlen := bulkR_len xs
        clear hsh
        have E1 : Hid (∀ w, Row w p1 xs → Calls Try.prog 10 #[.slice p1 xs.length c1] w fun e w' => Below w.heap.size w w' ∧ ∃ p c, e = .returned (.tuple #[.slice p 0 c, .int .i64 (errE xs)])) := fun w r => (rencode_any p1 xs c1 w r hn (by omega)).mono fun e w' h => by
          obtain ⟨B, v, he, O⟩ := h.uni
          rw [bytE_bad her] at O
          obtain ⟨p, c, hv⟩ := own_form O 0 rfl
          subst hv
          exact ⟨B, p, c, he⟩
        have her0 : (errE xs != 0) = true := bne_iff_ne.2 her
        generalize errE xs = er at *
        clear hn her
        go_enter Try.func5, Try.ntmps5
        go_wp2_with (first
          | (go_at_call 17; with_reducible refine (WK _).mono ?_; rintro e w1 ⟨rfl, b1⟩; have B1 := hid b1; clear b1; have D1' := D1.out w1 (HY.out.below B1.out))
          | (go_at_call 9; with_reducible refine SH'.mono ?_; rintro e w5 ⟨rfl, hw⟩; subst hw; have E1' := E1.out _ (HX.out.below B4.out))
          | (go_at_call 15; with_reducible refine D1'.mono ?_; rintro e w2 ⟨b2, v2, he, o2⟩; subst he; have B2 := hid (B1.out.trans (b2.mono B1.out.size)); obtain ⟨p2', c2', hv2, r2, _, _⟩ := ownV_slice o2; subst hv2; have R2 := hid r2; have E0' := E0.out p2' c2' w2 r2; clear b2 o2 r2 D1')
          | (go_at_call 10; (first | (with_reducible refine E0'.mono ?_; rintro e w3 ⟨b3, v3, he, o3⟩; subst he; have B3 := hid (B2.out.trans (b3.mono B2.out.size)); have hc3 := conv_own o3; have hc4 := conv_byts c2 (HY.out.below B3.out); have Z0' := Z0.out p2' c2' w3 (R2.out.below b3); clear b3 o3 E0') | (with_reducible refine E1'.mono ?_; rintro e w6 ⟨b6, p6, c6, he⟩; subst he; have B6 := hid (B4.out.trans (b6.mono B4.out.size)); clear b6 E1')))
          | (go_at_call 12; with_reducible refine Z0'.mono ?_; rintro e w4 ⟨rfl, b4⟩; have B4 := hid (B3.out.trans (b4.mono B3.out.size)); clear b4 Z0'; have SH' := SH.out w4 (HX.out.below B4.out))
          | fail)
        go_ret
        exact ⟨rfl, B6.out⟩
end Go.Proofs.Ytaoeonbhlpnjiaa
