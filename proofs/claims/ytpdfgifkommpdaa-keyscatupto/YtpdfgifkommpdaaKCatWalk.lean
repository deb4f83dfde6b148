/- The law KeysCat returns true and writes nothing that was there. Conditions: what the rows hold is at most 1048576. -/
import Derived.Test.YtpdfgifkommpdaaKeysLaws
import Derived.Test.YtpdfgifkommpdaaKeysRow
namespace Go.Proofs.Ytpdfgifkommpdaa
open Go.RowKit Go.Lib Go.Sort
set_option linter.unusedVariables false

theorem encR_append : ∀ (xs ys : List Val), encR (xs ++ ys) [] = encR xs [] ++ encR ys []
  | [], ys => rfl
  | a :: xs, ys => by simp only [List.cons_append, encR, List.tail_nil, encR_append xs ys, List.append_assoc]
theorem cellsV_append : ∀ (xs ys : List Val), cellsV xs ++ cellsV ys = cellsV (xs ++ ys)
  | [], ys => rfl
  | x :: xs, ys => by simp only [cellsV, List.cons_append, cellsV_append xs ys]
theorem own_litV (w : World) : OwnV (w.alloc (.cells #[] 43)) w.heap.size (.slice (some ⟨w.heap.size, 0, none⟩) 0 0) [] := World.ownsRow_made w #[] 0 (Nat.le_refl _) (Nat.zero_le _) rfl

/-- append(s, x...) of a row of values onto an owned one. -/
theorem appVs {ops : Array Oper} {rest : List Oper} {o : Oper} {a : Act} {w : World} {Q : Exit → Act → World → Prop} (base : Nat) (s x : Operand) (v : Value) (xs ys : List Val) (p : Option Addr) (c : Nat) (hgd : o.guard = none)
    (ho : o.op = .call { callee := .builtin .append, args := #[s, x], argTypes := #[22, 22] }) (hs : a.eval s = v) (hx : a.eval x = .slice p ys.length c)
    (O : OwnV w base v xs) (hp : p = none → ys.length = 0 ∧ c = 0) (rY : Row w p ys) (hl : (xs.length + ys.length) * 32 ≤ 140737488351232) (hb : base ≤ w.heap.size)
    (h : ∀ v' w', OwnV w' base v' (xs ++ ys) → Below base w w' → wpList Try.prog ops Q rest (a.put o.dst v') w') :
    wpList Try.prog ops Q (o :: rest) a w := by
  obtain ⟨i0, hi, hz0, hz1, hz2⟩ := info_parts infoV
  cases p with
  | none =>
    obtain ⟨h0, rfl⟩ := hp rfl
    obtain rfl : ys = [] := List.length_eq_zero_iff.1 h0
    refine wpList_append_own_none hgd s x 22 ho base 43 i0 3 Try.underlying22 hi v _ _ hs O hx (h v w ?_ (Below.refl _ _))
    rw [List.append_nil]
    exact O
  | some ad =>
    refine wpList_append_own w hgd s x 22 ho base 43 i0 _ 3 32 Try.underlying22 hi hz0 hz1 hz2 rfl (by decide) v _ _ hs O ad ys.length c (cellsV ys) hx (cellsV_length ys) (rY.cells ad rfl) (cellsV_one ys) (by unfold maxLen; omega) (by omega) hb ?_
    intro v' w' h2 h3 _
    refine h v' w' ?_ ((Below.refl base w).grown h3 hb (fun k hk => (O.lt k hk).1))
    unfold OwnV
    rw [List.length_append, ← cellsV_append]
    exact h2

set_option maxHeartbeats 8000000 in
theorem kcat_walk (xs ys : List Val) (p1 p2 : Option Addr) (c1 c2 : Nat) (w : World) (hA : bulkR xs ≤ 1048576) (hB : bulkR ys ≤ 1048576) (n1 : p1 = none → xs.length = 0 ∧ c1 = 0) (n2 : p2 = none → ys.length = 0 ∧ c2 = 0) (rX : Row w p1 xs) (rY : Row w p2 ys)
    (hn : ∀ v ∈ xs, -9223372036854775808 ≤ v.n ∧ v.n ≤ 9223372036854775807) (hm : ∀ v ∈ ys, -9223372036854775808 ≤ v.n ∧ v.n ≤ 9223372036854775807) :
    Calls Try.prog 8 #[.slice p1 xs.length c1, .slice p2 ys.length c2] w fun e w' => e = .returned (.bool true) ∧ Below w.heap.size w w' := by
  have hl1 := bulkR_len xs
  have hl2 := bulkR_len ys
  have hL1 : xs.length ≤ maxLen := by unfold maxLen; omega
  have hL2 : ys.length ≤ maxLen := by unfold maxLen; omega
  have HX : Hid (Row w p1 xs) := rX
  have HY : Hid (Row w p2 ys) := rY
  have HnX : Hid (p1 = none → xs.length = 0 ∧ c1 = 0) := n1
  have HnY : Hid (p2 = none → ys.length = 0 ∧ c2 = 0) := n2
  have WK := fun w => works_any w
  have R1 : Hid (∀ w, Row w p1 xs → Calls Try.prog 17 #[.slice p1 xs.length c1] w fun e w' => e = .returned (.bool (xs.all Val.right)) ∧ Below w.heap.size w w') := fun w r => right_any xs p1 c1 w hL1 r
  have R2 : Hid (∀ w, Row w p2 ys → Calls Try.prog 17 #[.slice p2 ys.length c2] w fun e w' => e = .returned (.bool (ys.all Val.right)) ∧ Below w.heap.size w w') := fun w r => right_any ys p2 c2 w hL2 r
  clear rX rY n1 n2
  cases ha : xs.all Val.right
  · simp only [ha] at R1
    clear R2 hn hm
    go_enter Try.func8, Try.ntmps8
    go_wp2_with (first
      | (go_at_call 16; with_reducible refine (WK _).mono ?_; rintro e w1 ⟨rfl, b1⟩; have B1 := hid b1; clear b1; have R1' := R1.out w1 (HX.out.below B1.out))
      | (go_at_call 17; with_reducible refine R1'.mono ?_; rintro e w2 ⟨rfl, b2⟩; have B2 := hid (B1.out.trans (b2.mono B1.out.size)); clear b2)
      | fail)
    go_ret
    exact ⟨rfl, B2.out⟩
  cases hb : ys.all Val.right
  · simp only [ha] at R1
    simp only [hb] at R2
    clear hn hm
    go_enter Try.func8, Try.ntmps8
    go_wp2_with (first
      | (go_at_call 16; with_reducible refine (WK _).mono ?_; rintro e w1 ⟨rfl, b1⟩; have B1 := hid b1; clear b1; have R1' := R1.out w1 (HX.out.below B1.out))
      | (go_at_call 17; (first
        | (with_reducible refine R1'.mono ?_; rintro e w2 ⟨rfl, b2⟩; have B2 := hid (B1.out.trans (b2.mono B1.out.size)); clear b2 R1'; have R2' := R2.out w2 (HY.out.below B2.out))
        | (with_reducible refine R2'.mono ?_; rintro e w3 ⟨rfl, b3⟩; have B3 := hid (B2.out.trans (b3.mono B2.out.size)); clear b3)))
      | fail)
    go_ret
    exact ⟨rfl, B3.out⟩
  · simp only [ha] at R1
    simp only [hb] at R2
    have rx : ∀ v ∈ xs, v.right = true ∧ InN v := fun v hv => ⟨List.all_eq_true.1 ha v hv, hn v hv⟩
    have ry : ∀ v ∈ ys, v.right = true ∧ InN v := fun v hv => ⟨List.all_eq_true.1 hb v hv, hm v hv⟩
    have rxy : ∀ v ∈ xs ++ ys, v.right = true ∧ InN v := fun v hv => (List.mem_append.1 hv).elim (rx v) (ry v)
    have hD0 : ([] : List Bool).length ≤ maxLen := by unfold maxLen; simp
    have hbul : bulkR (xs ++ ys) ≤ 2097152 := by rw [bulkR_append]; omega
    have E1 : Hid (∀ w, Row w p1 xs → Calls Try.prog 9 #[.slice p1 xs.length c1, .slice none 0 0] w fun e w' => Below w.heap.size w w' ∧ ∃ v, e = .returned (.tuple #[v, .int .i64 0]) ∧ OwnB w' w.heap.size v (encR xs [])) := fun w r1 => encode_ok p1 none xs [] c1 0 w r1 (bits_none _ _) rx (by omega) hD0
    have E2 : Hid (∀ w, Row w p2 ys → Calls Try.prog 9 #[.slice p2 ys.length c2, .slice none 0 0] w fun e w' => Below w.heap.size w w' ∧ ∃ v, e = .returned (.tuple #[v, .int .i64 0]) ∧ OwnB w' w.heap.size v (encR ys [])) := fun w r1 => encode_ok p2 none ys [] c2 0 w r1 (bits_none _ _) ry (by omega) hD0
    have E3 : Hid (∀ p c w, Row w p (xs ++ ys) → Calls Try.prog 9 #[.slice p (xs.length + ys.length) c, .slice none 0 0] w fun e w' => Below w.heap.size w w' ∧ ∃ v, e = .returned (.tuple #[v, .int .i64 0]) ∧ OwnB w' w.heap.size v (encR xs [] ++ encR ys [])) := fun p c w r1 => by
      have := encode_ok p none (xs ++ ys) [] c 0 w r1 (bits_none _ _) rxy (by omega) hD0
      rw [encR_append, List.length_append] at this
      exact this
    have hel := encR_length xs []
    have hem := encR_length ys []
    generalize encR xs [] = ex at *
    generalize encR ys [] = ey at *
    have NE : Hid (∀ p c w, ex.length ≤ c → Byts w p ex → Calls Try.prog 14 #[.slice p ex.length c] w (nextEnd ex w)) := fun p c w h r => next_any p ex c w (by omega) h r
    unfold nextEnd at NE
    have NB := next_begins ex (ex ++ ey)
    rw [← nextB_eq, begins_append] at NB
    clear rx ry rxy hn hm ha hb
    have hta : ((⟨ex.toArray⟩ : ByteArray) ++ (⟨ey.toArray⟩ : ByteArray)).toList = ex ++ ey := by
      rw [ByteArray.toList_eq, ByteArray.data_append]
      simp
    have hz1 : (⟨ex.toArray⟩ : ByteArray).size = ex.length := by simp [ByteArray.size]
    have hz2 : (⟨ey.toArray⟩ : ByteArray).size = ey.length := by simp [ByteArray.size]
    have hz3 : ex.length + ey.length ≤ 9223372036854775807 := by omega
    have hz4 : (⟨ex.toArray⟩ : ByteArray).size + (⟨ey.toArray⟩ : ByteArray).size ≤ 9223372036854775807 := by rw [hz1, hz2]; exact hz3
    have hlxy : (xs ++ ys).length = xs.length + ys.length := List.length_append
    by_cases h0 : nextB ex = []
    · have hb1 : Op.bytesLess (ex ++ ey) ex = false := by have := NB.1 h0; simpa using this.symm
      simp only [h0, ne_eq, not_true_eq_false, false_and, or_false, true_and] at NE
      clear NB h0
      go_enter Try.func8, Try.ntmps8
      go_wp2_with (first
        | (go_at_call 16; with_reducible refine (WK _).mono ?_; rintro e w1 ⟨rfl, b1⟩; have B1 := hid b1; clear b1; have R1' := R1.out w1 (HX.out.below B1.out))
        | (go_at_call 17; (first
          | (with_reducible refine R1'.mono ?_; rintro e w2 ⟨rfl, b2⟩; have B2 := hid (B1.out.trans (b2.mono B1.out.size)); clear b2 R1'; have R2' := R2.out w2 (HY.out.below B2.out))
          | (with_reducible refine R2'.mono ?_; rintro e w3 ⟨rfl, b3⟩; have B3 := hid (B2.out.trans (b3.mono B2.out.size)); clear b3; have E1' := E1.out w3 (HX.out.below B3.out))))
        | (at_builtin; (first
          | (refine appVs w5.heap.size _ _ _ [] xs p1 c1 rfl rfl rfl rfl (own_litV w5) HnX.out ((HX.out.below B5.out).below (alloc_below w5 _)) (by simp; omega) (by simp) ?_; intro v6 w6 o6 b6; have O6 := hid o6; have B56 := hid ((alloc_below w5 _).trans b6); have B6 := hid (B5.out.trans (B56.out.mono B5.out.size)); clear o6 b6)
          | (refine appVs w5.heap.size _ _ _ xs ys p2 c2 rfl rfl rfl rfl O6.out HnY.out (HY.out.below B6.out) (by omega) B56.out.size ?_; intro v7 w7 o7 b7; have B57 := hid (B56.out.trans b7); have B7 := hid (B5.out.trans (B57.out.mono B5.out.size)); obtain ⟨p7, c7, hv7, r7, _, _⟩ := ownV_slice o7; subst hv7; have E3' := E3.out p7 c7 w7 r7; clear o7 b7 r7)))
        | (go_at_call 9; (first
          | (with_reducible refine E1'.mono ?_; rintro e w4 ⟨b4, v4, he, o4⟩; subst he; have B4 := hid (B3.out.trans (b4.mono B3.out.size)); obtain ⟨p4, c4, hv4, r4, _, _⟩ := Byts.of_own o4; subst hv4; have RX := hid r4; have hcx := own_cap o4; clear b4 o4 r4 E1'; have E2' := E2.out w4 (HY.out.below B4.out))
          | (with_reducible refine E2'.mono ?_; rintro e w5 ⟨b5, v5, he, o5⟩; subst he; have B5 := hid (B4.out.trans (b5.mono B4.out.size)); obtain ⟨p5, c5, hv5, r5, _, _⟩ := Byts.of_own o5; subst hv5; have RY := hid r5; have RX5 := hid (RX.out.below b5); clear b5 o5 r5 E2')
          | (with_reducible refine E3'.mono ?_; rintro e w8 ⟨b8, v8, he, o8⟩; subst he; have B8 := hid (B7.out.trans (b8.mono B7.out.size)); have O8 := hid o8; have B58 := hid (B57.out.trans (b8.mono B57.out.size)); have RX8 := hid (RX5.out.below B58.out); have RY8 := hid (RY.out.below B58.out); have k1 := conv_byts c4 RX8.out; have k2 := conv_byts c5 RY8.out; have k3 := conv_own o8; have NE' := NE.out p4 c4 w8 hcx RX8.out; clear b8 o8)))
        | (go_at_call 14; with_reducible refine NE'.mono ?_; rintro e w9 ⟨b9, he⟩; subst he; have B9 := hid (B8.out.trans (b9.mono B8.out.size)); have k4 := conv_byts c4 (RX8.out.below b9); have k5 := conv_own (O8.out.below b9); clear b9)
        | fail)
      go_ret
      exact ⟨ret_bool (by simp), B9.out⟩
    · have hb0 := NB.2 h0
      have hb1 : Op.bytesLess (ex ++ ey) ex = false := by
        cases hq : Op.bytesLess (ex ++ ey) ex
        · rfl
        · rw [hq] at hb0; cases hb0
      have hb2 : Op.bytesLess (ex ++ ey) (nextB ex) = true := by
        rw [hb1] at hb0
        exact hb0.symm
      simp only [h0, ne_eq, not_false_eq_true, false_and, false_or, true_and] at NE
      clear hb0
      clear NB h0
      go_enter Try.func8, Try.ntmps8
      go_wp2_with (first
        | (go_at_call 16; with_reducible refine (WK _).mono ?_; rintro e w1 ⟨rfl, b1⟩; have B1 := hid b1; clear b1; have R1' := R1.out w1 (HX.out.below B1.out))
        | (go_at_call 17; (first
          | (with_reducible refine R1'.mono ?_; rintro e w2 ⟨rfl, b2⟩; have B2 := hid (B1.out.trans (b2.mono B1.out.size)); clear b2 R1'; have R2' := R2.out w2 (HY.out.below B2.out))
          | (with_reducible refine R2'.mono ?_; rintro e w3 ⟨rfl, b3⟩; have B3 := hid (B2.out.trans (b3.mono B2.out.size)); clear b3; have E1' := E1.out w3 (HX.out.below B3.out))))
        | (at_builtin; (first
          | (refine appVs w5.heap.size _ _ _ [] xs p1 c1 rfl rfl rfl rfl (own_litV w5) HnX.out ((HX.out.below B5.out).below (alloc_below w5 _)) (by simp; omega) (by simp) ?_; intro v6 w6 o6 b6; have O6 := hid o6; have B56 := hid ((alloc_below w5 _).trans b6); have B6 := hid (B5.out.trans (B56.out.mono B5.out.size)); clear o6 b6)
          | (refine appVs w5.heap.size _ _ _ xs ys p2 c2 rfl rfl rfl rfl O6.out HnY.out (HY.out.below B6.out) (by omega) B56.out.size ?_; intro v7 w7 o7 b7; have B57 := hid (B56.out.trans b7); have B7 := hid (B5.out.trans (B57.out.mono B5.out.size)); obtain ⟨p7, c7, hv7, r7, _, _⟩ := ownV_slice o7; subst hv7; have E3' := E3.out p7 c7 w7 r7; clear o7 b7 r7)))
        | (go_at_call 9; (first
          | (with_reducible refine E1'.mono ?_; rintro e w4 ⟨b4, v4, he, o4⟩; subst he; have B4 := hid (B3.out.trans (b4.mono B3.out.size)); obtain ⟨p4, c4, hv4, r4, _, _⟩ := Byts.of_own o4; subst hv4; have RX := hid r4; have hcx := own_cap o4; clear b4 o4 r4 E1'; have E2' := E2.out w4 (HY.out.below B4.out))
          | (with_reducible refine E2'.mono ?_; rintro e w5 ⟨b5, v5, he, o5⟩; subst he; have B5 := hid (B4.out.trans (b5.mono B4.out.size)); obtain ⟨p5, c5, hv5, r5, _, _⟩ := Byts.of_own o5; subst hv5; have RY := hid r5; have RX5 := hid (RX.out.below b5); clear b5 o5 r5 E2')
          | (with_reducible refine E3'.mono ?_; rintro e w8 ⟨b8, v8, he, o8⟩; subst he; have B8 := hid (B7.out.trans (b8.mono B7.out.size)); have O8 := hid o8; have B58 := hid (B57.out.trans (b8.mono B57.out.size)); have RX8 := hid (RX5.out.below B58.out); have RY8 := hid (RY.out.below B58.out); have k1 := conv_byts c4 RX8.out; have k2 := conv_byts c5 RY8.out; have k3 := conv_own o8; have NE' := NE.out p4 c4 w8 hcx RX8.out; clear b8 o8)))
        | (go_at_call 14; with_reducible refine NE'.mono ?_; rintro e w9 ⟨b9, v9, he, o9⟩; subst he; have k6 := conv_own o9; have B9 := hid (B8.out.trans (b9.mono B8.out.size)); have k4 := conv_byts c4 (RX8.out.below b9); have k5 := conv_own (O8.out.below b9); clear b9 o9)
        | fail)
      go_ret
      exact ⟨ret_bool (by simp), B9.out⟩
end Go.Proofs.Ytpdfgifkommpdaa
