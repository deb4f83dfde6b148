/- The law KeysTurned returns true and writes nothing that was there. Conditions: the texts are at most 1048576 bytes. -/
import Derived.Test.YtpdfgifkommpdabKeysLaws
import Derived.Deep.QuietTactic
namespace Go.Proofs.Ytpdfgifkommpdab
open Go.RowKit Go.Lib Go.Sort
set_option linter.unusedVariables false

/-- A boxed value. -/
def Bx (w : World) (b : Nat) (a : Val) : Prop := w.cell? ⟨b, 0, none⟩ = some (.int .i64 a.k) ∧ w.cell? ⟨b, 1, none⟩ = some (.int .i64 a.n) ∧ w.cell? ⟨b, 2, none⟩ = some (.string a.s)
theorem Bx.below {w w' : World} {b : Nat} {a : Val} (h : Bx w b a) (B : Below w.heap.size w w') : Bx w' b a := ⟨below_cell B h.1, below_cell B h.2.1, below_cell B h.2.2⟩
theorem Bx.get {w : World} {b : Nat} {k n : Int} {s : ByteArray} (h : Bx w b ⟨k, n, s⟩) : w.cell? ⟨b, 0, none⟩ = some (.int .i64 k) ∧ w.cell? ⟨b, 1, none⟩ = some (.int .i64 n) ∧ w.cell? ⟨b, 2, none⟩ = some (.string s) := h
theorem Bx.new (w : World) (k n : Int) (s : ByteArray) (t : TypeId) : Bx (w.alloc (.cells #[.int .i64 k, .int .i64 n, .string s] t)) w.heap.size ⟨k, n, s⟩ := by
  refine ⟨?_, ?_, ?_⟩ <;> go_simp
theorem row_lit2 (w : World) (k1 n1 k2 n2 : Int) (s1 s2 : ByteArray) (t : TypeId) : Row (w.alloc (.cells #[.int .i64 k1, .int .i64 n1, .string s1, .int .i64 k2, .int .i64 n2, .string s2] t)) (some ⟨w.heap.size, 0, none⟩) [⟨k1, n1, s1⟩, ⟨k2, n2, s2⟩] := by
  refine Or.inr ⟨_, _, rfl, fun i hi => ?_⟩
  have : i = 0 ∨ i = 1 := by simp at hi; omega
  rcases this with rfl | rfl <;> refine ⟨?_, ?_, ?_⟩ <;> go_simp

theorem enc_one (a : Val) : encR [a] [] = bytesV a := by
  have e : tb false = id := by funext c; rfl
  simp [encR, e]
theorem enc_turned (a : Val) : encR [a] [true] = (bytesV a).map (tb true) := by simp [encR]
theorem cmp_turned (a b : Val) (ha : a.right = true ∧ InN a) (hb : b.right = true ∧ InN b) : compareBytes (bytesV a) (bytesV b) = -(compareBytes ((bytesV a).map (tb true)) ((bytesV b).map (tb true))) := by
  have h1 := encR_cmp [a] [b] [] (by simpa using ha) (by simpa using hb)
  have h2 := encR_cmp [a] [b] [true] (by simpa using ha) (by simpa using hb)
  rw [enc_one, enc_one] at h1
  rw [enc_turned, enc_turned] at h2
  rw [h1, h2]
  unfold cmpRow
  split
  · rfl
  · simp
theorem xor_255 (c : UInt8) : bits .xor .u8 (c.toNat : Int) ((tb true c).toNat : Int) = 255 := by
  have : ∀ n : Fin 256, bits .xor .u8 (((UInt8.ofNat n.val).toNat : Nat) : Int) ((tb true (UInt8.ofNat n.val)).toNat : Int) = 255 := by decide +kernel
  have h := this ⟨c.toNat, UInt8.toNat_lt c⟩
  simpa using h

set_option maxHeartbeats 8000000 in
theorem kturned_walk (a b : Val) (w : World) (hA : a.s.size ≤ 1048576) (hB : b.s.size ≤ 1048576) (na : a.s.size ≤ maxLen ∧ -9223372036854775808 ≤ a.n ∧ a.n ≤ 9223372036854775807) (nb : b.s.size ≤ maxLen ∧ -9223372036854775808 ≤ b.n ∧ b.n ≤ 9223372036854775807) :
    Calls Try.prog 3 #[a.v, b.v] w fun e w' => e = .returned (.bool true) ∧ Below w.heap.size w w' := by
  have WK := fun w => works_any w
  have RR : Hid (∀ w : World, Calls Try.prog 5 #[.slice (some ⟨w.heap.size, 0, none⟩) 2 2] (w.alloc (.cells #[.int .i64 a.k, .int .i64 a.n, .string a.s, .int .i64 b.k, .int .i64 b.n, .string b.s] 23)) fun e w' => e = .returned (.bool ([a, b].all Val.right)) ∧ Below (w.alloc (.cells #[.int .i64 a.k, .int .i64 a.n, .string a.s, .int .i64 b.k, .int .i64 b.n, .string b.s] 23)).heap.size (w.alloc (.cells #[.int .i64 a.k, .int .i64 a.n, .string a.s, .int .i64 b.k, .int .i64 b.n, .string b.s] 23)) w') := fun w => right_any [a, b] _ 2 _ (by unfold maxLen; simp) (row_lit2 w a.k a.n b.k b.n a.s b.s _)
  have XA : Hid (∀ w w1, Below (((w : World).alloc (.cells #[.int .i64 a.k, .int .i64 a.n, .string a.s] 23)).alloc (.cells #[.int .i64 b.k, .int .i64 b.n, .string b.s] 23)).heap.size ((w.alloc (.cells #[.int .i64 a.k, .int .i64 a.n, .string a.s] 23)).alloc (.cells #[.int .i64 b.k, .int .i64 b.n, .string b.s] 23)) w1 → Bx w1 w.heap.size a ∧ Bx w1 (w.heap.size + 1) b) := fun w w1 B => by
    refine ⟨((Bx.new w a.k a.n a.s 23).below (alloc_below _ _)).below B, ?_⟩
    have := Bx.new (w.alloc (.cells #[.int .i64 a.k, .int .i64 a.n, .string a.s] 23)) b.k b.n b.s 23
    have e : (w.alloc (.cells #[.int .i64 a.k, .int .i64 a.n, .string a.s] 23)).heap.size = w.heap.size + 1 := by simp
    rw [e] at this
    exact this.below B
  cases hr : [a, b].all Val.right
  · simp only [hr] at RR
    obtain ⟨ka, ma, sa⟩ := a
    obtain ⟨kb, mb, sb⟩ := b
    unfold Val.v
    simp only [] at RR XA
    clear hA hB na nb hr
    go_enter Try.func3, Try.ntmps3
    go_wp2_with (first
      | (go_at_call 4; with_reducible refine (WK _).mono ?_; rintro e w1 ⟨rfl, b1⟩; obtain ⟨ba, bb⟩ := XA.out w w1 b1; obtain ⟨a0, a1, a2⟩ := ba.get; obtain ⟨d0, d1, d2⟩ := bb.get; have B1 := hid (below_new2 b1); clear b1)
      | (go_at_call 5; with_reducible refine (RR.out w1).mono ?_; rintro e w2 ⟨rfl, b2⟩; have B2 := hid (B1.out.trans ((below_new b2).mono B1.out.size)); clear b2)
      | fail)
    go_ret
    exact ⟨rfl, B2.out⟩
  · simp only [hr] at RR
    have hr2 : a.right = true ∧ b.right = true := by simpa using hr
    have ra : a.right = true ∧ InN a := ⟨hr2.1, na.2⟩
    have rb : b.right = true ∧ InN b := ⟨hr2.2, nb.2⟩
    have HC : Hid (compareBytes (bytesV a) (bytesV b) = -(compareBytes ((bytesV a).map (tb true)) ((bytesV b).map (tb true)))) := cmp_turned a b ra rb
    have hbd := compareBytes_bd ((bytesV a).map (tb true)) ((bytesV b).map (tb true))
    have hla := bytesV_length a
    have hD1 : [true].length ≤ maxLen := by unfold maxLen; simp
    have hD0 : ([] : List Bool).length ≤ maxLen := by unfold maxLen; simp
    have EO : Hid (∀ (x : Val) (w : World), x.s.size ≤ 1048576 → (x.right = true ∧ InN x) → Calls Try.prog 6 #[.slice (some ⟨w.heap.size, 0, none⟩) 1 1, .slice none 0 0] (w.alloc (.cells #[.int .i64 x.k, .int .i64 x.n, .string x.s] 23)) fun e w' => Below (w.alloc (.cells #[.int .i64 x.k, .int .i64 x.n, .string x.s] 23)).heap.size (w.alloc (.cells #[.int .i64 x.k, .int .i64 x.n, .string x.s] 23)) w' ∧ ∃ v, e = .returned (.tuple #[v, .int .i64 0]) ∧ OwnB w' (w.alloc (.cells #[.int .i64 x.k, .int .i64 x.n, .string x.s] 23)).heap.size v (bytesV x)) := fun x w hx rx => by
      have := encode_ok (some ⟨w.heap.size, 0, none⟩) none [x] [] 1 0 _ (row_lit w x.k x.n x.s 23) (bits_none _ _) (by simpa using rx) (by simp only [bulkR]; omega) hD0
      rw [enc_one] at this
      exact this
    have ET : Hid (∀ (x : Val) (w : World), x.s.size ≤ 1048576 → (x.right = true ∧ InN x) → Calls Try.prog 6 #[.slice (some ⟨w.heap.size, 0, none⟩) 1 1, .slice (some ⟨w.heap.size + 1, 0, none⟩) 1 1] ((w.alloc (.cells #[.int .i64 x.k, .int .i64 x.n, .string x.s] 23)).alloc (.cells #[.bool true] 4)) fun e w' => Below ((w.alloc (.cells #[.int .i64 x.k, .int .i64 x.n, .string x.s] 23)).alloc (.cells #[.bool true] 4)).heap.size ((w.alloc (.cells #[.int .i64 x.k, .int .i64 x.n, .string x.s] 23)).alloc (.cells #[.bool true] 4)) w' ∧ ∃ v, e = .returned (.tuple #[v, .int .i64 0]) ∧ OwnB w' ((w.alloc (.cells #[.int .i64 x.k, .int .i64 x.n, .string x.s] 23)).alloc (.cells #[.bool true] 4)).heap.size v ((bytesV x).map (tb true))) := fun x w hx rx => by
      have hb := bits_lit (w.alloc (.cells #[.int .i64 x.k, .int .i64 x.n, .string x.s] 23)) true 4
      have e : (w.alloc (.cells #[.int .i64 x.k, .int .i64 x.n, .string x.s] 23)).heap.size = w.heap.size + 1 := by simp
      rw [e] at hb
      have := encode_ok (some ⟨w.heap.size, 0, none⟩) (some ⟨w.heap.size + 1, 0, none⟩) [x] [true] 1 1 _ ((row_lit w x.k x.n x.s 23).below (alloc_below _ _)) hb (by simpa using rx) (by simp only [bulkR]; omega) hD1
      rw [enc_turned] at this
      exact this
    have EA := hid (fun w => EO.out a w hA ra)
    have EB := hid (fun w => EO.out b w hB rb)
    have TA := hid (fun w => ET.out a w hA ra)
    have TB := hid (fun w => ET.out b w hB rb)
    clear EO ET
    generalize bytesV a = la at *
    generalize bytesV b = lb at *
    have hlm : (la.map (tb true)).length = la.length := List.length_map _
    have hget : ∀ i (h : i < la.length) (h' : i < (la.map (tb true)).length), (la.map (tb true))[i]'h' = tb true (la[i]'h) := fun i h h' => List.getElem_map _
    generalize la.map (tb true) = ta at *
    generalize lb.map (tb true) = tb' at *
    have OX : Hid (∀ (p1 p2 : Option Addr) (c1 c2 : Nat) (w : World), Byts w p1 la → Byts w p2 lb → Calls Try.prog 7 #[.slice p1 la.length c1, .slice p2 lb.length c2] w fun e w' => e = .returned (.int .i64 (compareBytes la lb)) ∧ w' = w) := fun p1 p2 c1 c2 w r1 r2 => order_any p1 p2 la lb c1 c2 w r1 r2
    have OY : Hid (∀ (p1 p2 : Option Addr) (c1 c2 : Nat) (w : World), Byts w p1 ta → Byts w p2 tb' → Calls Try.prog 7 #[.slice p1 ta.length c1, .slice p2 tb'.length c2] w fun e w' => e = .returned (.int .i64 (compareBytes ta tb')) ∧ w' = w) := fun p1 p2 c1 c2 w r1 r2 => order_any p1 p2 ta tb' c1 c2 w r1 r2
    rw [HC.out] at OX
    generalize compareBytes ta tb' = cmp at *
    have HG := hid hget
    clear hget HC hr hr2 hA hB na nb
    obtain ⟨ka, ma, sa⟩ := a
    obtain ⟨kb, mb, sb⟩ := b
    unfold Val.v
    simp only [] at RR XA EA EB TA TB hla
    rw [hlm] at OY
    clear ra rb
    go_enter Try.func3, Try.ntmps3
    go_wp2_with (first
      | (go_at_call 4; with_reducible refine (WK _).mono ?_; rintro e w1 ⟨rfl, b1⟩; obtain ⟨ba, bb⟩ := XA.out w w1 b1; have BA := hid ba; have BB := hid bb; obtain ⟨a0, a1, a2⟩ := ba.get; obtain ⟨d0, d1, d2⟩ := bb.get; have B1 := hid (below_new2 b1); clear b1)
      | (go_at_call 5; with_reducible refine (RR.out w1).mono ?_; rintro e w2 ⟨rfl, b2⟩; have b2' := below_new b2; have B2 := hid (B1.out.trans (b2'.mono B1.out.size)); have BA2 := hid (BA.out.below b2'); have BB2 := hid (BB.out.below b2'); obtain ⟨a0', a1', a2'⟩ := BA2.out.get; clear b2 b2' BA BB; have E1 := EA.out w2)
      | (go_at_call 6; (first
        | (with_reducible refine E1.mono ?_; rintro e w3 ⟨b3, v3, he, o3⟩; subst he; have b3' := below_new b3; have B3 := hid (B2.out.trans (b3'.mono B2.out.size)); have BA3 := hid (BA2.out.below b3'); have BB3 := hid (BB2.out.below b3'); obtain ⟨p3, c3, hv3, r3, _, hmx⟩ := Byts.of_own o3; subst hv3; have RX := hid r3; obtain ⟨e0, e1, e2⟩ := BA3.out.get; clear b3 b3' BA2 BB2 o3 r3 E1; have E2 := TA.out w3)
        | (with_reducible refine E2.mono ?_; rintro e w4 ⟨b4, v4, he, o4⟩; subst he; have b4' := below_new2 b4; have B4 := hid (B3.out.trans (b4'.mono B3.out.size)); have BB4 := hid (BB3.out.below b4'); have RX4 := hid (RX.out.below b4'); obtain ⟨p4, c4, hv4, r4, _, _⟩ := Byts.of_own o4; subst hv4; have RT := hid r4; obtain ⟨f0, f1, f2⟩ := BB4.out.get; clear b4 b4' BA3 BB3 o4 r4 RX E2; have E3 := EB.out w4)
        | (with_reducible refine E3.mono ?_; rintro e w5 ⟨b5, v5, he, o5⟩; subst he; have b5' := below_new b5; have B5 := hid (B4.out.trans (b5'.mono B4.out.size)); have BB5 := hid (BB4.out.below b5'); have RX5 := hid (RX4.out.below b5'); have RT5 := hid (RT.out.below b5'); obtain ⟨p5, c5, hv5, r5, _, _⟩ := Byts.of_own o5; subst hv5; have RU := hid r5; obtain ⟨g0, g1, g2⟩ := BB5.out.get; clear b5 b5' BB4 o5 r5 RX4 RT E3; have E4 := TB.out w5)
        | (with_reducible refine E4.mono ?_; rintro e w6 ⟨b6, v6, he, o6⟩; subst he; have b6' := below_new2 b6; have B6 := hid (B5.out.trans (b6'.mono B5.out.size)); have RX6 := hid (RX5.out.below b6'); have RT6 := hid (RT5.out.below b6'); have RU6 := hid (RU.out.below b6'); obtain ⟨p6, c6, hv6, r6, _, _⟩ := Byts.of_own o6; subst hv6; have RV6 := hid r6; clear b6 b6' BB5 o6 r6 RX5 RT5 RU E4)))
      | fail)
    clear WK RR XA EA EB TA TB
    have hll : la.length ≤ 9223372036854775807 := by unfold maxLen at hmx; exact hmx
    have HL : Hid (ta.length = la.length) := hlm
    clear hlm hmx
    obtain ⟨hb1, hb2⟩ := hbd
    go_loopw [13] (fun i wr => ∃ k : Nat, k ≤ la.length ∧ i = .int .i64 k ∧ ∃ n, wr = w6.drewN n) (fun i _ => la.length - (RowKit.intOf i).toNat)
    case atStart => exact ⟨0, Nat.zero_le _, rfl, 0, rfl⟩
    case round =>
      obtain ⟨k, hk, rfl, n, rfl⟩ := hrel
      by_cases hx : k < la.length
      · obtain ⟨b1, o1, rfl, c0⟩ := RX6.out.at hx
        obtain ⟨b2, o2, rfl, c1⟩ := RT6.out.at (show k < ta.length by rw [HL.out]; exact hx)
        have hxo := xor_255 (la[k]'hx)
        rw [← HG.out k hx (by rw [HL.out]; exact hx)] at hxo
        generalize (la[k]'hx).toNat = y at *
        generalize (ta[k]'(by rw [HL.out]; exact hx)).toNat = z at *
        go_wp2
        go_quiet (fail)
        go_wp2
        go_roundw
        case rel => exact ⟨k + 1, by omega, by go_num, _, rfl⟩
        case measure => simp [RowKit.intOf]; omega
      · have BD : Below w6.heap.size w6 (w6.drewN n) := ⟨rfl, rfl, rfl, Nat.le_refl _, fun _ _ => rfl⟩
        have X1 := OX.out p3 p5 c3 c5 (w6.drewN n) (RX6.out.below BD) (RU6.out.below BD)
        have X2 := OY.out p4 p6 c4 c6 (w6.drewN n) (RT6.out.below BD) (RV6.out.below BD)
        have HBD : Hid (Below w.heap.size w (w6.drewN n)) := B6.out.trans (BD.mono B6.out.size)
        clear BD OX OY
        generalize w6.drewN n = W at *
        have hq : (-cmp == -cmp) = true := by simp
        go_wp2_with (first
          | (go_at_call 7; (first
            | (with_reducible refine X1.mono ?_; rintro e w7 ⟨rfl, hw7⟩; subst hw7; clear X1)
            | (with_reducible refine X2.mono ?_; rintro e w8 ⟨rfl, hw8⟩; subst hw8)))
          | fail)
        go_ret
        exact ⟨ret_bool (by simp), HBD.out⟩
end Go.Proofs.Ytpdfgifkommpdab
