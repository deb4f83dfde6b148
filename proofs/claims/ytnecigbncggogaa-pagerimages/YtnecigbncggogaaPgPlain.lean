/- Plain mathematics of sums, of pages with sums, of heads: no program is named here. No conditions. -/
import Derived.Test.YtnecigbncggogaaDkPlain
namespace Go.Proofs.Ytnecigbncggogaa
set_option linter.unusedVariables false

/-! ### The sum -/
def poly : Nat := 3988292384
def crcBit (s : Nat) : Nat := if s % 2 = 1 then (s / 2) ^^^ poly else s / 2
def crcBits : Nat → Nat → Nat
  | 0, s => s
  | k + 1, s => crcBit (crcBits k s)
def crcByte (s : Nat) (c : UInt8) : Nat := crcBits 8 (s ^^^ c.toNat)
def crcFrom (s : Nat) (l : List UInt8) : Nat := l.foldl crcByte s
def crc (l : List UInt8) : Nat := crcFrom 4294967295 l ^^^ 4294967295
theorem xor_lt32 {a b : Nat} (ha : a < 4294967296) (hb : b < 4294967296) : a ^^^ b < 4294967296 := Nat.xor_lt_two_pow (n := 32) ha hb
theorem crcBit_lt {s : Nat} (h : s < 4294967296) : crcBit s < 4294967296 := by
  unfold crcBit
  split
  · exact xor_lt32 (by omega) (by decide)
  · omega
theorem crcBits_lt {s : Nat} (h : s < 4294967296) : ∀ k, crcBits k s < 4294967296
  | 0 => h
  | k + 1 => crcBit_lt (crcBits_lt h k)
theorem crcByte_lt {s : Nat} (h : s < 4294967296) (c : UInt8) : crcByte s c < 4294967296 := crcBits_lt (xor_lt32 h (by have := c.toNat_lt; omega)) 8
theorem crcFrom_lt : ∀ (l : List UInt8) {s : Nat}, s < 4294967296 → crcFrom s l < 4294967296
  | [], s, h => h
  | c :: r, s, h => crcFrom_lt r (crcByte_lt h c)
theorem crc_lt (l : List UInt8) : crc l < 4294967296 := xor_lt32 (crcFrom_lt l (by decide)) (by decide)
theorem crcFrom_snoc (s : Nat) (l : List UInt8) (c : UInt8) : crcFrom s (l ++ [c]) = crcByte (crcFrom s l) c := by simp [crcFrom]
theorem crcFrom_take (s : Nat) (l : List UInt8) (k : Nat) (h : k < l.length) : crcFrom s (l.take (k + 1)) = crcByte (crcFrom s (l.take k)) l[k] := by
  rw [List.take_succ_eq_append_getElem h, crcFrom_snoc]
theorem crc_of (l : List UInt8) : crc l = crcFrom 4294967295 l ^^^ 4294967295 := rfl
/-- The state of the sum that takes the byte's bits one by one. -/
def crcProg (s c k : Nat) : Nat := crcBits k (s ^^^ c) ^^^ (c / 2 ^ k)
theorem crcProg_zero (s c : Nat) : crcProg s c 0 = s := by
  unfold crcProg
  simp [crcBits, Nat.xor_assoc]
theorem crcProg_eight {s c : Nat} (h : c < 256) : crcProg s c 8 = crcBits 8 (s ^^^ c) := by
  unfold crcProg
  rw [Nat.div_eq_of_lt (by omega), Nat.xor_zero]
theorem crcProg_lt {s c : Nat} (hs : s < 4294967296) (hc : c < 256) (k : Nat) : crcProg s c k < 4294967296 :=
  xor_lt32 (crcBits_lt (xor_lt32 hs (by omega)) k) (Nat.lt_of_le_of_lt (Nat.div_le_self ..) (by omega))
theorem crcProg_back (s c k : Nat) : crcProg s c k ^^^ (c / 2 ^ k) = crcBits k (s ^^^ c) := by
  unfold crcProg
  rw [Nat.xor_assoc, Nat.xor_self, Nat.xor_zero]
theorem half_xor (a b : Nat) : (a ^^^ b) / 2 = a / 2 ^^^ b / 2 := by
  have := Nat.shiftRight_xor_distrib (a := a) (b := b) (i := 1)
  simpa [Nat.shiftRight_succ] using this
theorem crcProg_next (s c k : Nat) : crcProg s c (k + 1) = if (crcProg s c k ^^^ (c / 2 ^ k)) % 2 = 1 then (crcProg s c k / 2) ^^^ poly else crcProg s c k / 2 := by
  rw [crcProg_back]
  have e : c / 2 ^ (k + 1) = c / 2 ^ k / 2 := by rw [Nat.pow_succ, Nat.div_div_eq_div_mul]
  unfold crcProg
  rw [e, half_xor]
  show crcBit _ ^^^ _ = _
  unfold crcBit
  split
  · rw [Nat.xor_assoc, Nat.xor_comm poly, ← Nat.xor_assoc]
  · rfl
/-! ### One step is one-to-one -/
theorem xor_cancel_right {a b c : Nat} (h : a ^^^ c = b ^^^ c) : a = b := by
  have : (a ^^^ c) ^^^ c = (b ^^^ c) ^^^ c := by rw [h]
  rwa [Nat.xor_assoc, Nat.xor_assoc, Nat.xor_self, Nat.xor_zero, Nat.xor_zero] at this
theorem xor_cancel_left {a b c : Nat} (h : c ^^^ a = c ^^^ b) : a = b := xor_cancel_right (c := c) (by rw [Nat.xor_comm a, Nat.xor_comm b]; exact h)
theorem crcBit_top {s : Nat} (h : s < 4294967296) : (crcBit s).testBit 31 = decide (s % 2 = 1) := by
  have h0 : (s / 2).testBit 31 = false := Nat.testBit_lt_two_pow (by omega)
  unfold crcBit
  split
  · rename_i h1
    rw [Nat.testBit_xor, h0]
    simp [h1]
    decide
  · rename_i h1
    rw [h0]
    simp [h1]
theorem crcBit_inj {s t : Nat} (hs : s < 4294967296) (ht : t < 4294967296) (h : crcBit s = crcBit t) : s = t := by
  have e : decide (s % 2 = 1) = decide (t % 2 = 1) := by rw [← crcBit_top hs, ← crcBit_top ht, h]
  unfold crcBit at h
  by_cases h1 : s % 2 = 1
  · have h2 : t % 2 = 1 := by simpa [h1] using e.symm
    rw [if_pos h1, if_pos h2] at h
    have := xor_cancel_right h
    omega
  · have h2 : ¬ t % 2 = 1 := by simpa [h1] using e.symm
    rw [if_neg h1, if_neg h2] at h
    omega
theorem crcBits_inj {s t : Nat} (hs : s < 4294967296) (ht : t < 4294967296) : ∀ k, crcBits k s = crcBits k t → s = t
  | 0, h => h
  | k + 1, h => crcBits_inj hs ht k (crcBit_inj (crcBits_lt hs k) (crcBits_lt ht k) h)
theorem crcByte_inj {s t : Nat} (hs : s < 4294967296) (ht : t < 4294967296) {c : UInt8} (h : crcByte s c = crcByte t c) : s = t := by
  have hc := c.toNat_lt
  exact xor_cancel_right (crcBits_inj (xor_lt32 hs (by omega)) (xor_lt32 ht (by omega)) 8 h)
theorem crcByte_inj2 {s : Nat} (hs : s < 4294967296) {c e : UInt8} (h : crcByte s c = crcByte s e) : c = e := by
  have hc := c.toNat_lt
  have he := e.toNat_lt
  exact UInt8.toNat_inj.1 (xor_cancel_left (crcBits_inj (xor_lt32 hs (by omega)) (xor_lt32 hs (by omega)) 8 h))
theorem crcFrom_inj : ∀ (l : List UInt8) {s t : Nat}, s < 4294967296 → t < 4294967296 → crcFrom s l = crcFrom t l → s = t
  | [], _, _, _, _, h => h
  | c :: r, _, _, hs, ht, h => crcByte_inj hs ht (crcFrom_inj r (crcByte_lt hs c) (crcByte_lt ht c) h)
/-- A byte that differs makes the sum differ. -/
theorem crc_differs (a r : List UInt8) {c e : UInt8} (h : crc (a ++ c :: r) = crc (a ++ e :: r)) : c = e := by
  have h1 := xor_cancel_right h
  unfold crcFrom at h1
  rw [List.foldl_append, List.foldl_append] at h1
  have hs : a.foldl crcByte 4294967295 < 4294967296 := crcFrom_lt a (by decide)
  exact crcByte_inj2 hs (crcFrom_inj r (crcByte_lt hs c) (crcByte_lt hs e) h1)
theorem crc_set (l : List UInt8) (i : Nat) (hi : i < l.length) (e : UInt8) (h : crc (l.set i e) = crc l) : e = l[i] := by
  have e1 : l = l.take i ++ l[i] :: l.drop (i + 1) := by rw [List.getElem_cons_drop, List.take_append_drop]
  have e2 : l.set i e = l.take i ++ e :: l.drop (i + 1) := by rw [List.set_eq_take_append_cons_drop, if_pos hi]
  rw [e2] at h
  conv at h => rhs; rw [e1]
  exact crc_differs _ _ h
theorem crc_nil : crc [] = 0 := by decide
set_option maxRecDepth 20000 in
theorem crc_check : crc [49, 50, 51, 52, 53, 54, 55, 56, 57] = 3421780262 := by decide +kernel
end Go.Proofs.Ytnecigbncggogaa
