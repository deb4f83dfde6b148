/- What (*reader).number and (*reader).text do. Condition: the bytes lie within the reach. -/
import Derived.Test.YtpdfgifkommpdabKeysTake
import Derived.Test.YtpdfgifkommpdabKeysDec
namespace Go.Proofs.Ytpdfgifkommpdab
open Go.RowKit Go.Lib Go.Sort
set_option linter.unusedVariables false

theorem or_byte (N c : Nat) (hN : N < 72057594037927936) (hc : c < 256) : bits .or .u64 ((N : Int) * 256) (c : Int) = ((N * 256 + c : Nat) : Int) := by
  have h := u64_or_nat (N * 256) c (by omega) (by omega)
  rw [show (((N * 256 : Nat) : Int)) = (N : Int) * 256 by simp] at h
  rw [h]
  congr 1
  have := Nat.shiftLeft_add_eq_or_of_lt (i := 8) (b := c) hc N
  rw [Nat.shiftLeft_eq] at this
  exact this.symm
theorem xor_low (N : Nat) (h : N < 18446744073709551616) : IntKind.i64.wrap (bits .xor .u64 (N : Int) 9223372036854775808) = (N : Int) - 9223372036854775808 := by
  have e0 := u64_xor_nat N 9223372036854775808 h (by decide)
  have e1 : (9223372036854775808 : Nat) = 2 ^ 63 := by decide
  have e : bits .xor .u64 (N : Int) 9223372036854775808 = ((N ^^^ 2 ^ 63 : Nat) : Int) := by
    rw [← e1]
    simpa using e0
  rw [e]
  by_cases hl : N < 2 ^ 63
  · rw [xor_top hl]
    simp [IntKind.wrap, IntKind.signed, IntKind.bits]
    omega
  · have h1 : N = 2 ^ 63 + (N - 2 ^ 63) := by omega
    have h2 : N ^^^ 2 ^ 63 = N - 2 ^ 63 := by
      conv => lhs; rw [h1, ← xor_top (by omega), Nat.xor_assoc, Nat.xor_self, Nat.xor_zero]
    rw [h2]
    simp [IntKind.wrap, IntKind.signed, IntKind.bits]
    omega

theorem Rd.below {w w' : World} {rb base : Nat} {t : Bool} {u : List UInt8} (h : Rd w rb t u) (B : Below base w w') (hb : rb < base) : Rd w' rb t u := by
  obtain ⟨p, c, h0, h1, f0, f1, hc, hm⟩ := h
  refine ⟨p, c, (B.cell (p := ⟨rb, 0, none⟩) hb).trans h0, (B.cell (p := ⟨rb, 1, none⟩) hb).trans h1, (B.frozen (p := ⟨rb, 0, none⟩) hb).trans f0, (B.frozen (p := ⟨rb, 1, none⟩) hb).trans f1, hc, ?_⟩
  rcases hm with hm | ⟨b, off, hp, hlt, hcells⟩
  · exact Or.inl hm
  · exact Or.inr ⟨b, off, hp, hlt, fun i hi => (B.cell (p := ⟨b, off + i, none⟩) (Nat.lt_trans hlt hb)).trans (hcells i hi)⟩
theorem Only.then {rb : Nat} {w a b : World} (h : Only rb w a) (B : Below w.heap.size a b) : Only rb w b :=
  ⟨B.os.trans h.os, B.tape.trans h.tape, B.output.trans h.output, Nat.le_trans h.size B.size, fun k hk hn ho => (B.block k hk).trans (h.block k hk hn ho), fun _ _ h => h⟩
theorem OwnB.only {rb base : Nat} {w w' : World} {v : Value} {l : List UInt8} (o : OwnB w base v l) (h : Only rb w w') (hb : rb < base) : OwnB w' base v l := by
  obtain ⟨h1, h2⟩ := o
  refine ⟨h1, ?_⟩
  rcases h2 with h2 | ⟨g, cap, cur, hv, hg, hh, r⟩
  · exact Or.inl h2
  · exact Or.inr ⟨g, cap, cur, hv, hg, by rw [h.block g (Array.getElem?_eq_some_iff.1 hh).1 (by omega) (by simp [nilB, Value.ownBlock])]; exact hh, r⟩

/-- The ending of a number that is read. -/
def numEnd (rb : Nat) (t : Bool) (u : List UInt8) (w : World) (e : Ending) (w' : World) : Prop :=
  Only rb w w' ∧ ((8 ≤ u.length ∧ e = .returned (.int .i64 ((numN (u.take 8) : Int) - 9223372036854775808)) ∧ Rd w' rb t (u.drop 8)) ∨ (u.length < 8 ∧ e = .panicked (thr 1)))

set_option maxHeartbeats 4000000 in
theorem rnumber_any (rb : Nat) (t : Bool) (u : List UInt8) (w : World) (hR : Rd w rb t u) (hl : u.length ≤ maxLen) :
    Calls Try.prog 26 #[.pointer (some ⟨rb, 0, none⟩)] w (numEnd rb t u w) := by
  have HR : Hid (Rd w rb t u) := hR
  clear hR
  go_enter Try.func26, Try.ntmps26
  go_wp2
  go_loopw [3, 4] (fun b i wr => ∃ k : Nat, k ≤ 8 ∧ k ≤ u.length ∧ i = .int .i64 k ∧ b = .int .u64 (numN (u.take k) : Int) ∧ Rd wr rb t (u.drop k) ∧ Only rb w wr) (fun _ i _ => 8 - (RowKit.intOf i).toNat)
  case atStart => exact ⟨0, Nat.zero_le _, Nat.zero_le _, rfl, rfl, by simpa using HR.out, Only.refl _ _⟩
  case round =>
    clear HR
    obtain ⟨k, hks, hku, rfl, rfl, hR, hO⟩ := hrel
    by_cases hx : k < 8
    · by_cases hy : k < u.length
      · rw [List.drop_eq_getElem_cons hy] at hR
        have T := take_some rb t u[k] (u.drop (k + 1)) wr hR (by simp; omega)
        have HT : Hid (numN (u.take (k + 1)) = numN (u.take k) * 256 + u[k].toNat) := by
          show _ = _
          rw [List.take_succ_eq_append_getElem hy, numN_snoc]
        have hN : numN (u.take k) < 256 ^ k := by
          have := numN_lt (u.take k)
          rw [List.length_take, Nat.min_eq_left hku] at this
          exact this
        have hc := UInt8.toNat_lt u[k]
        generalize u[k].toNat = y at *
        generalize numN (u.take k) = N at *
        have hN7 : N < 72057594037927936 := Nat.lt_of_lt_of_le hN (Nat.le_trans (Nat.pow_le_pow_right (by decide) (show k ≤ 7 by omega)) (by decide))
        have hor := or_byte N y hN7 hc
        clear hN hR
        go_wp2_with (go_at_call 24; with_reducible refine T.mono ?_; rintro e w2 ⟨rfl, R2, O2⟩)
        go_roundw
        case rel => exact ⟨k + 1, by omega, by omega, by go_num, by rw [HT.out]; simp, R2, hO.trans O2⟩
        case measure => simp [RowKit.intOf]; omega
      · obtain rfl : k = u.length := by omega
        rw [List.drop_length] at hR
        have T := take_none rb t wr hR
        have hN : numN (u.take u.length) < 256 ^ u.length := by
          have := numN_lt (u.take u.length)
          rwa [List.take_length] at this ⊢
        generalize numN (u.take u.length) = N at *
        have hN7 : N < 72057594037927936 := Nat.lt_of_lt_of_le hN (Nat.le_trans (Nat.pow_le_pow_right (by decide) (show u.length ≤ 7 by omega)) (by decide))
        clear hN
        go_wp2_with (go_at_call 24; with_reducible refine T.mono ?_; rintro e w2 ⟨rfl, hw⟩; subst hw)
        exact ⟨rfl, hO, Or.inr ⟨hx, rfl⟩⟩
    · obtain rfl : k = 8 := by omega
      have hN : numN (u.take 8) < 18446744073709551616 := by
        have := numN_lt (u.take 8)
        rw [List.length_take, Nat.min_eq_left hku] at this
        exact this
      generalize hNN : numN (u.take 8) = N at *
      have hxl := xor_low N hN
      go_wp2
      go_ret
      refine ⟨hO, Or.inl ⟨hku, ?_, hR⟩⟩
      rw [hNN]
      rfl
end Go.Proofs.Ytpdfgifkommpdab
