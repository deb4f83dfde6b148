/- The law KeysBack returns true and writes nothing that was there. Conditions: what the row holds, the bytes and the turned places are at most 1048576. -/
import Derived.Test.YtpdfgifkommpdaaKeysLaws
import Derived.Test.YtpdfgifkommpdaaKeysRefDec
import Derived.Test.YtpdfgifkommpdaaValSame
namespace Go.Proofs.Ytpdfgifkommpdaa
open Go.RowKit Go.Lib Go.Sort
set_option linter.unusedVariables false

theorem decR_err : ∀ (n : Nat) (l : List UInt8) (ds : List Bool) (e : Int), l.length ≤ n → decR n l ds = .error e → e ≠ 0
  | n, [], ds, e, _, h => by
    have : decR n [] ds = .ok [] := by cases n <;> rfl
    rw [this] at h
    cases h
  | 0, c :: l, ds, e, hn, h => by simp at hn
  | n + 1, c :: l, ds, e, hn, h => by
    unfold decR at h
    cases hv : valD ((c :: l).map (tb (ds.headD false))) with
    | error e' => rw [hv] at h; cases h; exact valD_err hv
    | ok x =>
      obtain ⟨v, r⟩ := x
      rw [hv] at h
      simp only [] at h
      obtain ⟨k, e1, e2, e3, _⟩ := valD_rest _ _ _ hv
      have hr : r.length ≤ l.length := by rw [e1]; simp; omega
      cases hx : decR n (r.map (tb (ds.headD false))) ds.tail with
      | error e' => rw [hx] at h; cases h; exact decR_err n _ _ _ (by simp at hn ⊢; omega) hx
      | ok ws => rw [hx] at h; cases h
theorem decL_err {l : List UInt8} {ds : List Bool} {e : Int} (h : decL l ds = .error e) : e ≠ 0 := decR_err _ _ _ _ (Nat.le_refl _) h
theorem all_right' {xs : List Val} (h : xs.all Val.right = true) (hn : ∀ v ∈ xs, -9223372036854775808 ≤ v.n ∧ v.n ≤ 9223372036854775807) : ∀ v ∈ xs, v.right = true ∧ InN v := fun v hv => ⟨List.all_eq_true.1 h v hv, hn v hv⟩

set_option maxHeartbeats 8000000 in
theorem kback_walk (xs : List Val) (l : List UInt8) (ds : List Bool) (p1 p2 q : Option Addr) (c1 c2 d : Nat) (w : World) (hA : bulkR xs ≤ 1048576) (hB : l.length ≤ 1048576) (hD : ds.length ≤ 1048576) (hc : l.length ≤ c2) (rX : Row w p1 xs) (rY : Byts w p2 l) (rD : Bits w q ds)
    (hn : ∀ v ∈ xs, -9223372036854775808 ≤ v.n ∧ v.n ≤ 9223372036854775807) :
    Calls Try.prog 6 #[.slice p1 xs.length c1, .slice p2 l.length c2, .slice q ds.length d] w fun e w' => e = .returned (.bool true) ∧ Below w.heap.size w w' := by
  have hl1 := bulkR_len xs
  have hL1 : xs.length ≤ maxLen := by unfold maxLen; omega
  have hL3 : ds.length ≤ maxLen := by unfold maxLen; omega
  have HX : Hid (Row w p1 xs) := rX
  have HY : Hid (Byts w p2 l) := rY
  have HD : Hid (Bits w q ds) := rD
  have WK := fun w => works_any w
  have R1 : Hid (∀ w, Row w p1 xs → Calls Try.prog 17 #[.slice p1 xs.length c1] w fun e w' => e = .returned (.bool (xs.all Val.right)) ∧ Below w.heap.size w w') := fun w r => right_any xs p1 c1 w hL1 r
  clear rX rY rD
  cases hdec : decL l ds with
  | error n =>
    have D1 : Hid (∀ w, Byts w p2 l → Bits w q ds → Calls Try.prog 12 #[.slice p2 l.length c2, .slice q ds.length d] w fun e w' => Below w.heap.size w w' ∧ e = .returned (.tuple #[.slice none 0 0, .int .i64 n])) := fun w r1 r2 => decode_no p2 q l ds c2 d n w hdec hc r1 r2 hL3 (by omega)
    have hn0 : (n == 0) = false := beq_eq_false_iff_ne.2 (decL_err hdec)
    cases ha : xs.all Val.right
    · simp only [ha] at R1
      clear hn hdec
      go_enter Try.func6, Try.ntmps6
      go_wp2_with (first
        | (go_at_call 16; with_reducible refine (WK _).mono ?_; rintro e w1 ⟨rfl, b1⟩; have B1 := hid b1; clear b1; have D1' := D1.out w1 (HY.out.below B1.out) (HD.out.below B1.out))
        | (go_at_call 12; with_reducible refine D1'.mono ?_; rintro e w2 ⟨b2, he⟩; subst he; have B2 := hid (B1.out.trans (b2.mono B1.out.size)); clear b2; have R1' := R1.out w2 (HX.out.below B2.out))
        | (go_at_call 17; with_reducible refine R1'.mono ?_; rintro e w3 ⟨rfl, b3⟩; have B3 := hid (B2.out.trans (b3.mono B2.out.size)); clear b3)
        | fail)
      go_ret
      exact ⟨rfl, B3.out⟩
    · simp only [ha] at R1
      have rx := all_right' ha hn
      have hbk := decL_encR xs ds rx
      have hel := encR_length xs ds
      have E1 : Hid (∀ w, Row w p1 xs → Bits w q ds → Calls Try.prog 9 #[.slice p1 xs.length c1, .slice q ds.length d] w fun e w' => Below w.heap.size w w' ∧ ∃ v, e = .returned (.tuple #[v, .int .i64 0]) ∧ OwnB w' w.heap.size v (encR xs ds)) := fun w r1 r2 => encode_ok p1 q xs ds c1 d w r1 r2 rx (by omega) hL3
      generalize encR xs ds = ex at *
      have D2 : Hid (∀ p c w, ex.length ≤ c → Byts w p ex → Bits w q ds → Calls Try.prog 12 #[.slice p ex.length c, .slice q ds.length d] w fun e w' => Below w.heap.size w w' ∧ ∃ v, e = .returned (.tuple #[v, .int .i64 0]) ∧ OwnV w' w.heap.size v xs) := fun p c w h r1 r2 => decode_ok p q ex ds c d xs w hbk h r1 r2 hL3 (by omega)
      have SR : Hid (∀ (q : Option Addr) (cq : Nat) (w : World), Row w q xs → Row w p1 xs → Calls Try.prog 11 #[.slice q xs.length cq, .slice p1 xs.length c1] w fun e w' => e = .returned (.bool true) ∧ Below w.heap.size w w') := fun q cq w r1 r2 => sameRow_refl xs q p1 cq c1 w hL1 r1 r2
      clear hn hdec hbk rx
      go_enter Try.func6, Try.ntmps6
      go_wp2_with (first
        | (go_at_call 16; with_reducible refine (WK _).mono ?_; rintro e w1 ⟨rfl, b1⟩; have B1 := hid b1; clear b1; have D1' := D1.out w1 (HY.out.below B1.out) (HD.out.below B1.out))
        | (go_at_call 12; (first
          | (with_reducible refine D1'.mono ?_; rintro e w2 ⟨b2, he⟩; subst he; have B2 := hid (B1.out.trans (b2.mono B1.out.size)); clear b2 D1'; have R1' := R1.out w2 (HX.out.below B2.out))
          | (with_reducible refine D2'.mono ?_; rintro e w5 ⟨b5, v5, he, o5⟩; subst he; have B5 := hid (B4.out.trans (b5.mono B4.out.size)); obtain ⟨p5, c5, hv5, r5, _, _⟩ := ownV_slice o5; subst hv5; have S5 := SR.out p5 c5 w5 r5 (HX.out.below B5.out); clear b5 o5 r5)))
        | (go_at_call 17; with_reducible refine R1'.mono ?_; rintro e w3 ⟨rfl, b3⟩; have B3 := hid (B2.out.trans (b3.mono B2.out.size)); clear b3; have E1' := E1.out w3 (HX.out.below B3.out) (HD.out.below B3.out))
        | (go_at_call 9; with_reducible refine E1'.mono ?_; rintro e w4 ⟨b4, v4, he, o4⟩; subst he; have B4 := hid (B3.out.trans (b4.mono B3.out.size)); obtain ⟨p4, c4, hv4, r4, _, _⟩ := Byts.of_own o4; subst hv4; have D2' := D2.out p4 c4 w4 (own_cap o4) r4 (HD.out.below B4.out); clear b4 o4 r4)
        | (go_at_call 11; with_reducible refine S5.mono ?_; rintro e w6 ⟨rfl, b6⟩; have B6 := hid (B5.out.trans (b6.mono B5.out.size)); clear b6)
        | fail)
      go_ret
      exact ⟨rfl, B6.out⟩
  | ok zs =>
    obtain ⟨k1, k2, k3⟩ := decL_back l ds zs hdec
    have D1 : Hid (∀ w, Byts w p2 l → Bits w q ds → Calls Try.prog 12 #[.slice p2 l.length c2, .slice q ds.length d] w fun e w' => Below w.heap.size w w' ∧ ∃ v, e = .returned (.tuple #[v, .int .i64 0]) ∧ OwnV w' w.heap.size v zs) := fun w r1 r2 => decode_ok p2 q l ds c2 d zs w hdec hc r1 r2 hL3 (by omega)
    have E0 : Hid (∀ p c w, Row w p zs → Bits w q ds → Calls Try.prog 9 #[.slice p zs.length c, .slice q ds.length d] w fun e w' => Below w.heap.size w w' ∧ ∃ v, e = .returned (.tuple #[v, .int .i64 0]) ∧ OwnB w' w.heap.size v l) := fun p c w r1 r2 => by
      have := encode_ok p q zs ds c d w r1 r2 k1 (by omega) hL3
      rw [k2] at this
      exact this
    cases ha : xs.all Val.right
    · simp only [ha] at R1
      clear hn hdec k1 k2 k3
      go_enter Try.func6, Try.ntmps6
      go_wp2_with (first
        | (go_at_call 16; with_reducible refine (WK _).mono ?_; rintro e w1 ⟨rfl, b1⟩; have B1 := hid b1; clear b1; have D1' := D1.out w1 (HY.out.below B1.out) (HD.out.below B1.out))
        | (go_at_call 12; with_reducible refine D1'.mono ?_; rintro e w2 ⟨b2, v2, he, o2⟩; subst he; have B2 := hid (B1.out.trans (b2.mono B1.out.size)); obtain ⟨p2', c2', hv2, r2, _, _⟩ := ownV_slice o2; subst hv2; have E0' := E0.out p2' c2' w2 r2 (HD.out.below B2.out); clear b2 o2 r2)
        | (go_at_call 9; with_reducible refine E0'.mono ?_; rintro e w3 ⟨b3, v3, he, o3⟩; subst he; have B3 := hid (B2.out.trans (b3.mono B2.out.size)); have hc3 := conv_own o3; have hc4 := conv_byts c2 (HY.out.below B3.out); have R1' := R1.out w3 (HX.out.below B3.out); clear b3 o3)
        | (go_at_call 17; with_reducible refine R1'.mono ?_; rintro e w4 ⟨rfl, b4⟩; have B4 := hid (B3.out.trans (b4.mono B3.out.size)); clear b4)
        | fail)
      go_ret
      exact ⟨rfl, B4.out⟩
    · simp only [ha] at R1
      have rx := all_right' ha hn
      have hbk := decL_encR xs ds rx
      have hel := encR_length xs ds
      have E1 : Hid (∀ w, Row w p1 xs → Bits w q ds → Calls Try.prog 9 #[.slice p1 xs.length c1, .slice q ds.length d] w fun e w' => Below w.heap.size w w' ∧ ∃ v, e = .returned (.tuple #[v, .int .i64 0]) ∧ OwnB w' w.heap.size v (encR xs ds)) := fun w r1 r2 => encode_ok p1 q xs ds c1 d w r1 r2 rx (by omega) hL3
      generalize encR xs ds = ex at *
      have D2 : Hid (∀ p c w, ex.length ≤ c → Byts w p ex → Bits w q ds → Calls Try.prog 12 #[.slice p ex.length c, .slice q ds.length d] w fun e w' => Below w.heap.size w w' ∧ ∃ v, e = .returned (.tuple #[v, .int .i64 0]) ∧ OwnV w' w.heap.size v xs) := fun p c w h r1 r2 => decode_ok p q ex ds c d xs w hbk h r1 r2 hL3 (by omega)
      have SR : Hid (∀ (q : Option Addr) (cq : Nat) (w : World), Row w q xs → Row w p1 xs → Calls Try.prog 11 #[.slice q xs.length cq, .slice p1 xs.length c1] w fun e w' => e = .returned (.bool true) ∧ Below w.heap.size w w') := fun q cq w r1 r2 => sameRow_refl xs q p1 cq c1 w hL1 r1 r2
      clear hn hdec hbk rx k1 k2 k3
      go_enter Try.func6, Try.ntmps6
      go_wp2_with (first
        | (go_at_call 16; with_reducible refine (WK _).mono ?_; rintro e w1 ⟨rfl, b1⟩; have B1 := hid b1; clear b1; have D1' := D1.out w1 (HY.out.below B1.out) (HD.out.below B1.out))
        | (go_at_call 12; (first
          | (with_reducible refine D1'.mono ?_; rintro e w2 ⟨b2, v2, he, o2⟩; subst he; have B2 := hid (B1.out.trans (b2.mono B1.out.size)); obtain ⟨p2', c2', hv2, r2, _, _⟩ := ownV_slice o2; subst hv2; have E0' := E0.out p2' c2' w2 r2 (HD.out.below B2.out); clear b2 o2 r2 D1')
          | (with_reducible refine D2'.mono ?_; rintro e w6 ⟨b6, v6, he, o6⟩; subst he; have B6 := hid (B5.out.trans (b6.mono B5.out.size)); obtain ⟨p6, c6, hv6, r6, _, _⟩ := ownV_slice o6; subst hv6; have S6 := SR.out p6 c6 w6 r6 (HX.out.below B6.out); clear b6 o6 r6)))
        | (go_at_call 9; (first
          | (with_reducible refine E0'.mono ?_; rintro e w3 ⟨b3, v3, he, o3⟩; subst he; have B3 := hid (B2.out.trans (b3.mono B2.out.size)); have hc3 := conv_own o3; have hc4 := conv_byts c2 (HY.out.below B3.out); have R1' := R1.out w3 (HX.out.below B3.out); clear b3 o3 E0')
          | (with_reducible refine E1'.mono ?_; rintro e w5 ⟨b5, v5, he, o5⟩; subst he; have B5 := hid (B4.out.trans (b5.mono B4.out.size)); obtain ⟨p5, c5, hv5, r5, _, _⟩ := Byts.of_own o5; subst hv5; have D2' := D2.out p5 c5 w5 (own_cap o5) r5 (HD.out.below B5.out); clear b5 o5 r5)))
        | (go_at_call 17; with_reducible refine R1'.mono ?_; rintro e w4 ⟨rfl, b4⟩; have B4 := hid (B3.out.trans (b4.mono B3.out.size)); clear b4; have E1' := E1.out w4 (HX.out.below B4.out) (HD.out.below B4.out))
        | (go_at_call 11; with_reducible refine S6.mono ?_; rintro e w7 ⟨rfl, b7⟩; have B7 := hid (B6.out.trans (b7.mono B6.out.size)); clear b7)
        | fail)
      go_ret
      exact ⟨rfl, B7.out⟩
end Go.Proofs.Ytpdfgifkommpdaa
