/- What value.Type and the document's own Type and Number answer. Condition: the number fits 64 bits. -/
import Derived.Test.YtkokpimabocobaaDoorValLit
import Derived.Lib.ItoaLen
namespace Go.Proofs.YtkokpimabocobaaDoor
open Go.RowKit Go.Lib Go.Sort
set_option linter.unusedVariables false

def typeL (t : Int) : List UInt8 := if t = 0 then [78, 85, 76, 76] else if t = 1 then [66, 79, 79, 76] else if t = 2 then [73, 78, 84] else if t = 3 then [84, 69, 88, 84] else if t = 4 then [66, 76, 79, 66] else []

/-- The last digit. -/
def dgt (v : Nat) : UInt8 := UInt8.ofNat (48 + v % 10)
/-- What is left to write, and what is written. -/
def Tail (u v : Nat) (l : List UInt8) : Prop := decDigits u = if v = 0 then l else decDigits v ++ l
theorem Tail.start (u : Nat) : Tail u (u / 10) [dgt u] := by
  unfold Tail dgt
  by_cases h : u < 10
  · rw [if_pos (by omega), decDigits_one h, Nat.mod_eq_of_lt h]
  · rw [if_neg (by omega), decDigits, dif_neg h]
theorem Tail.next {u v : Nat} {l : List UInt8} (h : Tail u v l) (hv : 0 < v) : Tail u (v / 10) (dgt v :: l) := by
  unfold Tail at *
  rw [h, if_neg (by omega)]
  have := Tail.start v
  unfold Tail at this
  rw [this]
  by_cases h0 : v / 10 = 0
  · rw [if_pos h0, if_pos h0]; rfl
  · rw [if_neg h0, if_neg h0, List.append_assoc]; rfl
theorem Tail.short {u v : Nat} {l : List UInt8} (h : Tail u v l) (hu : u < 18446744073709551616) : l.length ≤ 20 := by
  have h1 := nDigits_le20 u hu
  rw [← decDigits_length] at h1
  unfold Tail at h
  rw [h] at h1
  split at h1
  · exact h1
  · rw [List.length_append] at h1; omega

theorem one_byte_text (v : Nat) (w : World) : (convert 38 9 (.slice (some ⟨w.heap.size, 0, none⟩) 1 1)).run Tryd.prog (w.alloc (.cells #[.int .u8 (48 + (v : Int) % 10)] 5)) = .ok (.string ⟨#[dgt v]⟩) (w.alloc (.cells #[.int .u8 (48 + (v : Int) % 10)] 5)) := by
  have h := run_convert_bytes_back (P := Tryd.prog) (w.alloc (.cells #[.int .u8 (48 + (v : Int) % 10)] 5)) 38 9 5 ⟨w.heap.size, 0, none⟩ 1 [UInt8.ofNat (48 + v % 10)] Tryd.underlying38 Tryd.underlying5 Tryd.underlying9 (fun j hj => by
    have hj0 : j = 0 := by simp at hj; omega
    subst hj0
    have e : ((UInt8.ofNat (48 + v % 10)).toNat : Int) = 48 + (v : Int) % 10 := by simp [UInt8.toNat_ofNat']; omega
    simp only [List.getElem_cons_zero]
    rw [e]
    simp [Addr.add])
  exact h

set_option maxHeartbeats 1000000 in
theorem digits_any (u : Nat) (w : World) (hu : u < 18446744073709551616) :
    Calls Tryd.prog 19 #[.int .u64 u] w fun e w' => e = .returned (.string ⟨(decDigits u).toArray⟩) ∧ Below w.heap.size w w' := by
  have hc := one_byte_text u
  go_enter Tryd.func19, Tryd.ntmps19
  go_wp2
  clear hc
  go_loopw [0, 3] (fun n s wr => ∃ (v : Nat) (l : List UInt8), n = .int .u64 v ∧ s = .string ⟨l.toArray⟩ ∧ v < 18446744073709551616 ∧ Tail u v l ∧ Below w.heap.size w wr) (fun n _ _ => (RowKit.intOf n).toNat)
  case atStart => exact ⟨u / 10, _, by go_num, rfl, by omega, Tail.start u, by go_grown⟩
  case round =>
    obtain ⟨v, l, rfl, rfl, hv, ht, bel⟩ := hrel
    have hl := ht.short hu
    by_cases h0 : v = 0
    · have HT : Hid (decDigits u = l) := ht.trans (if_pos h0)
      have h0' : ¬ 0 < v := by omega
      clear ht h0
      go_wp2
      go_ret
      exact ⟨ret_str (show (⟨l.toArray⟩ : ByteArray).data.toList = decDigits u from HT.out.symm), bel⟩
    · have hpos : 0 < v := by omega
      have HN : Hid (Tail u (v / 10) (dgt v :: l)) := ht.next hpos
      have hsz : (⟨l.toArray⟩ : ByteArray).size ≤ 20 := by simpa [ByteArray.size] using hl
      have hc := one_byte_text v
      have HJ : Hid ((⟨#[dgt v]⟩ ++ ⟨l.toArray⟩ : ByteArray) = ⟨(dgt v :: l).toArray⟩) := by
        show _ = _
        apply congrArg ByteArray.mk
        simp
      clear ht hl
      generalize (⟨l.toArray⟩ : ByteArray) = r at *
      go_wp2
      go_roundw
      case rel => exact ⟨v / 10, dgt v :: l, by go_num, congrArg Value.string HJ.out, by omega, HN.out, bel.alloc bel.size _⟩
      case measure => simp [RowKit.intOf]; omega

set_option maxHeartbeats 1000000 in
theorem number_any (n : Int) (w : World) (h0 : -9223372036854775808 ≤ n) (h1 : n ≤ 9223372036854775807) :
    Calls Tryd.prog 12 #[.int .i64 n] w fun e w' => e = .returned (.string ⟨(itoa n).toArray⟩) ∧ Below w.heap.size w w' := by
  by_cases hn : n < 0
  · have e : itoa n = 45 :: decDigits n.natAbs := by unfold itoa; rw [if_pos hn]
    have hd := fun w => digits_any n.natAbs w (by omega)
    have hl := nDigits_le20 n.natAbs (by omega)
    rw [← decDigits_length] at hl
    rw [e]
    have hr : (⟨(decDigits n.natAbs).toArray⟩ : ByteArray).size ≤ 20 := by simpa [ByteArray.size] using hl
    have e4 : ∀ l : List UInt8, (45 :: l).toArray = (⟨#[45]⟩ ++ ⟨l.toArray⟩ : ByteArray).data := by intro l; simp
    rw [e4]
    generalize (⟨(decDigits n.natAbs).toArray⟩ : ByteArray) = r at *
    have ew : IntKind.u64.wrap (-IntKind.u64.wrap n) = (n.natAbs : Int) := by simp only [IntKind.wrap_u64]; omega
    rw [← ew] at hd
    have HD : Hid (∀ w, Calls Tryd.prog 19 #[.int .u64 (IntKind.u64.wrap (-IntKind.u64.wrap n))] w fun e w' => e = .returned (.string r) ∧ Below w.heap.size w w') := hd
    clear hd e e4 hl ew
    go_enter Tryd.func12, Tryd.ntmps12
    go_wp2_with fail
    refine (HD.out _).mono ?_
    rintro e w1 ⟨rfl, B1⟩
    go_wp2
    go_ret
    exact ⟨rfl, B1⟩
  · have e : itoa n = decDigits n.toNat := by unfold itoa; rw [if_neg hn]
    rw [e]
    have HD : Hid (∀ w, Calls Tryd.prog 19 #[.int .u64 n] w fun e w' => e = .returned (.string ⟨(decDigits n.toNat).toArray⟩) ∧ Below w.heap.size w w') := fun w => by
      have := digits_any n.toNat w (by omega)
      rw [show ((n.toNat : Nat) : Int) = n by omega] at this
      exact this
    generalize (⟨(decDigits n.toNat).toArray⟩ : ByteArray) = r at *
    clear e
    go_enter Tryd.func12, Tryd.ntmps12
    go_wp2_with fail
    refine (HD.out _).mono ?_
    rintro e w1 ⟨rfl, B1⟩
    go_wp2
    go_ret
    exact ⟨rfl, B1⟩
end Go.Proofs.YtkokpimabocobaaDoor
