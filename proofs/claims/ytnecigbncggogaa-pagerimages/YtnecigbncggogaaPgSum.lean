/- What the project's Sum and the document's answer: the plain sum. Condition: the bytes lie within the reach. -/
import Derived.Test.YtnecigbncggogaaDkLast
import Derived.Test.YtnecigbncggogaaPgPlain
import Derived.Laws.BitsAllLaws
namespace Go.Proofs.Ytnecigbncggogaa
open Go.RowKit
set_option linter.unusedVariables false
set_option maxRecDepth 20000

theorem and_one32 (n : Nat) (h : n < 4294967296) : bits .and .u32 (n : Int) 1 = ((n % 2 : Nat) : Int) := by
  have := u32_and_nat n 1 h (by decide)
  rw [Nat.and_one_is_mod] at this
  exact this
theorem and_ones32 : bits .and .u32 4294967295 3988292384 = 3988292384 := by decide
theorem and_none32 : bits .and .u32 0 3988292384 = 0 := by decide
theorem xor_ones32 (n : Nat) (h : n < 4294967296) : bits .xor .u32 (n : Int) 4294967295 = ((n ^^^ 4294967295 : Nat) : Int) := u32_xor_nat n 4294967295 h (by decide)
theorem xor_poly32 (n : Nat) (h : n < 4294967296) : bits .xor .u32 (n : Int) 3988292384 = ((n ^^^ poly : Nat) : Int) := u32_xor_nat n 3988292384 h (by decide)
theorem xor_none32 (n : Nat) (h : n < 4294967296) : bits .xor .u32 (n : Int) 0 = (n : Int) := by
  have := u32_xor_nat n 0 h (by decide)
  rwa [Nat.xor_zero] at this
theorem prog_step (X y : Nat) (hX : X < 4294967296) (hy : y < 4294967296) :
    bits .xor .u32 ((X : Int) / 2) (bits .and .u32 (-bits .and .u32 (bits .xor .u32 (X : Int) (y : Int)) 1 % 4294967296) 3988292384) = ((if (X ^^^ y) % 2 = 1 then (X / 2) ^^^ poly else X / 2 : Nat) : Int) := by
  have e : (X : Int) / 2 = ((X / 2 : Nat) : Int) := by omega
  rw [u32_xor_nat X y hX hy, and_one32 _ (xor_lt32 hX hy), e]
  split
  · rename_i h
    rw [h]
    show bits .xor .u32 _ (bits .and .u32 4294967295 3988292384) = _
    rw [and_ones32, xor_poly32 _ (by omega)]
  · rename_i h
    have h0 : (X ^^^ y) % 2 = 0 := by omega
    rw [h0]
    show bits .xor .u32 _ (bits .and .u32 0 3988292384) = _
    rw [and_none32, xor_none32 _ (by omega)]
theorem prog_step' {X1 X q : Nat} {v : Int} (hn : X1 = if (X ^^^ q) % 2 = 1 then (X / 2) ^^^ poly else X / 2) (hX : X < 4294967296) (hq : q < 4294967296) (hv : v = (q : Int)) :
    bits .xor .u32 ((X : Int) / 2) (bits .and .u32 (-bits .and .u32 (bits .xor .u32 (X : Int) v) 1 % 4294967296) 3988292384) = (X1 : Int) := by
  rw [hv, hn]
  exact prog_step X q hX hq
theorem ones_xor32 (n : Nat) (h : n < 4294967296) : bits .xor .u32 IntKind.u32.max (n : Int) = ((n ^^^ 4294967295 : Nat) : Int) := by
  rw [Nat.xor_comm]
  exact u32_xor_nat 4294967295 n (by decide) h
theorem ret32 {a b : Int} (h : a = b) : Ending.returned (Value.int .u32 a) = Ending.returned (Value.int .u32 b) := by rw [h]
theorem u32_eq {a b : Int} (h : a = b) : Value.int .u32 a = Value.int .u32 b := by rw [h]
set_option maxHeartbeats 1000000 in
theorem psum_any (p : Option Addr) (l : List UInt8) (c : Nat) (w : World) (hl : l.length ≤ 140737488351232) (h : Byts w p l) :
    Calls Try.prog 9 #[.slice p l.length c] w fun e w' => e = .returned (.int .u32 (crc l : Int)) ∧ w' = w := by
  have HB := hid h
  clear h
  go_enter Try.func9, Try.ntmps9
  go_wp2
  go_loopw [3, 10] (fun s i wr => wr = w ∧ ∃ k : Nat, k ≤ l.length ∧ i = .int .i64 (k : Int) ∧ s = .int .u32 (crcFrom 4294967295 (l.take k) : Int)) (fun _ i _ => l.length - (RowKit.intOf i).toNat)
  case atStart => exact ⟨rfl, 0, Nat.zero_le _, rfl, rfl⟩
  case round =>
    obtain ⟨rfl, k, hk, rfl, rfl⟩ := hrel
    by_cases hx : k < l.length
    · obtain ⟨b, off, rfl, hc⟩ := HB.out.resolve_left (by rintro rfl; simp at hx)
      have hck := hc k hx
      have HT := hid (crcFrom_take 4294967295 l k hx)
      have hS := crcFrom_lt (l.take k) (s := 4294967295) (by decide)
      generalize crcFrom 4294967295 (l.take k) = S at *
      generalize l[k] = z at *
      have hz := z.toNat_lt
      clear hc
      go_wp2
      go_loopw [3, 14] (fun s j wq => wq = wr ∧ ∃ m : Nat, m ≤ 8 ∧ j = .int .i64 (m : Int) ∧ s = .int .u32 (crcProg S z.toNat m : Int)) (fun _ j _ => 8 - (RowKit.intOf j).toNat)
      case atStart => exact ⟨rfl, 0, Nat.zero_le _, rfl, by rw [crcProg_zero]⟩
      case round =>
        obtain ⟨rfl, m, hm, rfl, rfl⟩ := hrel
        by_cases hy : m < 8
        · have HN := hid (crcProg_next S z.toNat m)
          have hX := crcProg_lt hS hz m
          generalize crcProg S z.toNat m = X at *
          generalize z.toNat = y at *
          have hm8 : m = 0 ∨ m = 1 ∨ m = 2 ∨ m = 3 ∨ m = 4 ∨ m = 5 ∨ m = 6 ∨ m = 7 := by omega
          rcases hm8 with rfl | rfl | rfl | rfl | rfl | rfl | rfl | rfl
          all_goals
            have hn := HN.out
            simp only [Nat.reducePow, Nat.div_one, Nat.reduceAdd] at hn
            have HN2 := hid hn
            clear hn
            go_wp2
            go_roundw
            case rel => exact ⟨trivial, _, by decide, rfl, u32_eq (prog_step' HN2.out hX (by omega) (by omega))⟩
            case measure => simp [RowKit.intOf]
        · obtain rfl : m = 8 := by omega
          have HE := hid (crcProg_eight (s := S) hz)
          generalize crcProg S z.toNat 8 = X at *
          go_wp2
          go_roundw
          case rel => exact ⟨trivial, k + 1, hx, rfl, by rw [HE.out, HT.out]; rfl⟩
          case measure => simp [RowKit.intOf]; omega
    · obtain rfl : k = l.length := by omega
      have hS := crcFrom_lt l (s := 4294967295) (by decide)
      have HC := hid (crc_of l)
      rw [List.take_of_length_le (Nat.le_refl _)]
      generalize crcFrom 4294967295 l = S at *
      go_wp2
      go_ret
      exact ⟨ret32 (by rw [HC.out]; exact ones_xor32 S hS), rfl⟩
set_option maxHeartbeats 1000000 in
theorem rsum_any (p : Option Addr) (l : List UInt8) (c : Nat) (w : World) (hl : l.length ≤ 140737488351232) (h : Byts w p l) :
    Calls Try.prog 10 #[.slice p l.length c] w fun e w' => e = .returned (.int .u32 (crc l : Int)) ∧ w' = w := by
  have HB := hid h
  clear h
  go_enter Try.func10, Try.ntmps10
  go_wp2
  go_loopw [3, 4] (fun s i wr => wr = w ∧ ∃ k : Nat, k ≤ l.length ∧ i = .int .i64 (k : Int) ∧ s = .int .u32 (crcFrom 4294967295 (l.take k) : Int)) (fun _ i _ => l.length - (RowKit.intOf i).toNat)
  case atStart => exact ⟨rfl, 0, Nat.zero_le _, rfl, rfl⟩
  case round =>
    obtain ⟨rfl, k, hk, rfl, rfl⟩ := hrel
    by_cases hx : k < l.length
    · obtain ⟨b, off, rfl, hc⟩ := HB.out.resolve_left (by rintro rfl; simp at hx)
      have hck := hc k hx
      have HT := hid (crcFrom_take 4294967295 l k hx)
      have hS := crcFrom_lt (l.take k) (s := 4294967295) (by decide)
      generalize crcFrom 4294967295 (l.take k) = S at *
      generalize l[k] = z at *
      have hz := z.toNat_lt
      have hxr := u32_xor_nat S z.toNat hS (by omega)
      have hXb := xor_lt32 hS (show z.toNat < 4294967296 by omega)
      clear hc
      go_wp2
      go_loopw [3, 5] (fun s j wq => wq = wr ∧ ∃ m : Nat, m ≤ 8 ∧ j = .int .i64 (m : Int) ∧ s = .int .u32 (crcBits m (S ^^^ z.toNat) : Int)) (fun _ j _ => 8 - (RowKit.intOf j).toNat)
      case atStart => exact ⟨rfl, 0, Nat.zero_le _, rfl, rfl⟩
      case round =>
        obtain ⟨rfl, m, hm, rfl, rfl⟩ := hrel
        clear hxr
        by_cases hy : m < 8
        · have hX := crcBits_lt hXb m
          have HN : Hid (crcBits (m + 1) (S ^^^ z.toNat) = crcBit (crcBits m (S ^^^ z.toNat))) := rfl
          generalize crcBits m (S ^^^ z.toNat) = X at *
          have HP := hid (xor_poly32 (X / 2) (by omega))
          by_cases ho : X % 2 = 1
          · have HX : Hid (crcBit X = (X / 2) ^^^ poly) := by show _ = _; unfold crcBit; rw [if_pos ho]
            go_wp2
            go_roundw
            case rel => exact ⟨trivial, m + 1, hy, rfl, u32_eq (by rw [HN.out, HX.out, ← HP.out]; congr 1)⟩
            case measure => simp [RowKit.intOf]; omega
          · have HX : Hid (crcBit X = X / 2) := by show _ = _; unfold crcBit; rw [if_neg ho]
            have ho' : X % 2 = 0 := by omega
            go_wp2
            go_roundw
            case rel => exact ⟨trivial, m + 1, hy, rfl, u32_eq (by rw [HN.out, HX.out]; omega)⟩
            case measure => simp [RowKit.intOf]; omega
        · obtain rfl : m = 8 := by omega
          go_wp2
          go_roundw
          case rel => exact ⟨trivial, k + 1, hx, rfl, by rw [HT.out]; rfl⟩
          case measure => simp [RowKit.intOf]; omega
    · obtain rfl : k = l.length := by omega
      have hS := crcFrom_lt l (s := 4294967295) (by decide)
      have HC := hid (crc_of l)
      rw [List.take_of_length_le (Nat.le_refl _)]
      generalize crcFrom 4294967295 l = S at *
      have hpx := xor_ones32 S hS
      go_wp2
      go_ret
      exact ⟨ret32 (by rw [HC.out]), rfl⟩
end Go.Proofs.Ytnecigbncggogaa
