/- The laws' own works, right and order. Condition: the slices' lengths are Go's. -/
import Derived.Test.YtpdfgifkommpdabKeysDecode
import Derived.Test.YtpdfgifkommpdabKeysBegins
import Derived.Test.YtpdfgifkommpdabKeysTrip
import Derived.Test.YtpdfgifkommpdabRefCheck
import Derived.Laws.Cover1
namespace Go.Proofs.Ytpdfgifkommpdab
open Go.RowKit Go.Lib Go.Sort
set_option linter.unusedVariables false

/-- What Encode answers of a row of right values. -/
theorem encode_ok (p q : Option Addr) (xs : List Val) (ds : List Bool) (cx cd : Nat) (w : World) (rX : Row w p xs) (rD : Bits w q ds) (hn : ∀ v ∈ xs, v.right = true ∧ InN v) (hb : 9 * bulkR xs ≤ 140737488351232) (hD : ds.length ≤ maxLen) :
    Calls Try.prog 6 #[.slice p xs.length cx, .slice q ds.length cd] w fun e w' => Below w.heap.size w w' ∧ ∃ v, e = .returned (.tuple #[v, .int .i64 0]) ∧ OwnB w' w.heap.size v (encR xs ds) :=
  (encode_any p q xs ds cx cd w rX rD (fun v h => (hn v h).2) hb hD).mono fun e w' h => by
    obtain ⟨B, ⟨_, h⟩ | ⟨h, _⟩⟩ := h
    · exact ⟨B, h⟩
    · rw [List.all_eq_true.2 (fun v hv => (hn v hv).1)] at h
      cases h
/-- What Decode answers of bytes that are a row. -/
theorem decode_ok (p q : Option Addr) (l : List UInt8) (ds : List Bool) (c d : Nat) (xs : List Val) (w : World) (hx : decL l ds = .ok xs) (hc : l.length ≤ c) (rB : Byts w p l) (rD : Bits w q ds) (hD : ds.length ≤ maxLen) (hl : l.length * 32 ≤ 140737488351232) :
    Calls Try.prog 8 #[.slice p l.length c, .slice q ds.length d] w fun e w' => Below w.heap.size w w' ∧ ∃ v, e = .returned (.tuple #[v, .int .i64 0]) ∧ OwnV w' w.heap.size v xs :=
  (decode_any p q l ds c d w hc rB rD hD hl).mono fun e w' h => by
    rw [hx] at h
    exact h
theorem decode_no (p q : Option Addr) (l : List UInt8) (ds : List Bool) (c d : Nat) (n : Int) (w : World) (hx : decL l ds = .error n) (hc : l.length ≤ c) (rB : Byts w p l) (rD : Bits w q ds) (hD : ds.length ≤ maxLen) (hl : l.length * 32 ≤ 140737488351232) :
    Calls Try.prog 8 #[.slice p l.length c, .slice q ds.length d] w fun e w' => Below w.heap.size w w' ∧ e = .returned (.tuple #[.slice none 0 0, .int .i64 n]) :=
  (decode_any p q l ds c d w hc rB rD hD hl).mono fun e w' h => by
    rw [hx] at h
    exact h

theorem OwnB.up {w : World} {base : Nat} {v : Value} {l : List UInt8} (h : OwnB w base v l) (o : Obj) : OwnB (w.alloc o) base v l := World.ownsRow.alloc h o
theorem row_lit (w : World) (k n : Int) (s : ByteArray) (t : TypeId) : Row (w.alloc (.cells #[.int .i64 k, .int .i64 n, .string s] t)) (some ⟨w.heap.size, 0, none⟩) [⟨k, n, s⟩] := by
  refine Or.inr ⟨_, _, rfl, fun i hi => ?_⟩
  obtain rfl : i = 0 := by simp at hi; omega
  refine ⟨?_, ?_, ?_⟩ <;> go_simp
theorem bits_lit (w : World) (b : Bool) (t : TypeId) : Bits (w.alloc (.cells #[.bool b] t)) (some ⟨w.heap.size, 0, none⟩) [b] := by
  refine Or.inr ⟨_, _, rfl, fun i hi => ?_⟩
  obtain rfl : i = 0 := by simp at hi; omega
  go_simp
theorem bits_none (w : World) (p : Option Addr) : Bits w p [] := Or.inl rfl

theorem enc_lit : encR [(⟨3, 0, ⟨#[97]⟩⟩ : Val)] [true] = [251, 158, 255, 254] := by decide
theorem dec_lit : decL [2, 2] [] = .error 3 := rfl
theorem next_lit : nextB [1, 255] = [2] := by decide

set_option maxHeartbeats 4000000 in
theorem works_any (w : World) : Calls Try.prog 4 #[] w fun e w' => e = .returned (.bool true) ∧ Below w.heap.size w w' := by
  have E := fun (w : World) => encode_ok (some ⟨w.heap.size, 0, none⟩) (some ⟨w.heap.size + 1, 0, none⟩) [⟨3, 0, ⟨#[97]⟩⟩] [true] 1 1 ((w.alloc (.cells #[.int .i64 3, .int .i64 0, .string ⟨#[97]⟩] 23)).alloc (.cells #[.bool true] 4)) ((row_lit w 3 0 ⟨#[97]⟩ _).below (alloc_below _ _)) (by have := bits_lit (w.alloc (.cells #[.int .i64 3, .int .i64 0, .string ⟨#[97]⟩] 23)) true 4; simpa using this) (by intro v hv; simp at hv; subst hv; exact ⟨by decide, by unfold InN; simp⟩) (by decide) (by unfold maxLen; simp)
  rw [enc_lit] at E
  simp only [List.length_cons, List.length_nil] at E
  have D := fun (w : World) => decode_no (some ⟨w.heap.size, 0, none⟩) none [2, 2] [] 2 0 3 (w.alloc (.cells #[.int .u8 2, .int .u8 2] 5)) dec_lit (by decide) (by obtain ⟨p, c, h, r, _⟩ := Byts.of_own (own_lits w 0 (Nat.zero_le _) [2, 2] #[.int .u8 2, .int .u8 2] rfl (by unfold maxLen; simp)); cases h; exact r) (bits_none _ _) (by unfold maxLen; simp) (by decide)
  simp only [List.length_cons, List.length_nil] at D
  have N := fun (w : World) => (next_any (some ⟨w.heap.size, 0, none⟩) [1, 255] 2 (w.alloc (.cells #[.int .u8 1, .int .u8 255] 5)) (by decide) (by decide) (by obtain ⟨p, c, h, r, _⟩ := Byts.of_own (own_lits w 0 (Nat.zero_le _) [1, 255] #[.int .u8 1, .int .u8 255] rfl (by unfold maxLen; simp)); cases h; exact r)).mono (R' := fun e w' => Below (w.alloc (.cells #[.int .u8 1, .int .u8 255] 5)).heap.size (w.alloc (.cells #[.int .u8 1, .int .u8 255] 5)) w' ∧ ∃ v, e = .returned (.tuple #[v, .bool true]) ∧ OwnB w' (w.alloc (.cells #[.int .u8 1, .int .u8 255] 5)).heap.size v [2]) (by
    rintro e w' ⟨B, ⟨h, _⟩ | ⟨_, h⟩⟩
    · rw [next_lit] at h; cases h
    · rw [next_lit] at h; exact ⟨B, h⟩)
  simp only [List.length_cons, List.length_nil] at N
  have L4 := fun (w : World) => conv_own (own_lits w 0 (Nat.zero_le _) [251, 158, 255, 254] #[.int .u8 251, .int .u8 158, .int .u8 255, .int .u8 254] rfl (by unfold maxLen; simp))
  have L1 := fun (w : World) => conv_own (own_lits w 0 (Nat.zero_le _) [2] #[.int .u8 2] rfl (by unfold maxLen; simp))
  simp only [List.length_cons, List.length_nil] at L4 L1
  have L1b : ∀ (w : World) (o : Obj), (convert 27 9 (.slice (some ⟨w.heap.size + 1, 0, none⟩) 1 1)).run Try.prog ((w.alloc o).alloc (.cells #[.int .u8 2] 5)) = .ok (.string ⟨#[2]⟩) ((w.alloc o).alloc (.cells #[.int .u8 2] 5)) := by
    intro w o
    have h := L1 (w.alloc o)
    have e : (w.alloc o).heap.size = w.heap.size + 1 := by simp
    rw [e] at h
    exact h
  have HE := hid E
  have HD := hid D
  have HN := hid N
  clear E D N
  go_enter Try.func4, Try.ntmps4
  go_wp2_with (first
    | (go_at_call 6; with_reducible refine (HE.out w).mono ?_; rintro e w1 ⟨b1, v1, he, o1⟩; subst he; have O1 := hid o1; have B1 := hid (below_new2 b1); clear o1 b1)
    | (go_at_call 8; with_reducible refine (HD.out w1).mono ?_; rintro e w2 ⟨b2, he⟩; subst he; have B2 := hid (below_new b2); clear b2)
    | (go_at_call 9; with_reducible refine (HN.out w2).mono ?_; rintro e w3 ⟨b3, v3, he, o3⟩; subst he; have B3 := hid (below_new b3); have hc1 := conv_own ((O1.out.below B2.out).below B3.out); have hc3 := fun o => conv_own (OwnB.up o3 o); clear o3 b3)
    | fail)
  go_ret
  refine ⟨?_, ?_⟩
  · rfl
  · have hB3 : Below w.heap.size w w3 := (B1.out.trans (B2.out.mono B1.out.size)).trans (B3.out.mono (Nat.le_trans B1.out.size B2.out.size))
    have hs := hB3.size
    exact hB3.trans (by have B := Below.refl w.heap.size w3; go_grown)
end Go.Proofs.Ytpdfgifkommpdab
