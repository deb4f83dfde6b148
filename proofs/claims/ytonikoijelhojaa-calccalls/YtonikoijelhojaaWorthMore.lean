/- What calc.worth answers at Length, Abs, Upper, Lower. Conditions: the number is within the numbers, the text's length is Go's. -/
import Derived.Test.YtonikoijelhojaaCalcExch
import Derived.Test.YtonikoijelhojaaCallSub
namespace Go.Proofs.Ytonikoijelhojaa
open Go.RowKit Go.Lib Go.Sort
set_option linter.unusedVariables false

set_option maxHeartbeats 1000000 in
theorem worth_length (p : Option Addr) (c : Nat) (k1 n1 : Int) (s1 : ByteArray) (w : World) (hR : Row w p [⟨k1, n1, s1⟩]) :
    Calls Try.prog 48 #[.int .i64 1, .slice p 1 c] w fun e w' => e = .returned (.agg #[.int .i64 2, .int .i64 (s1.size : Int), .string ⟨#[]⟩]) ∧ Below w.heap.size w w' := by
  have T := fun w => number_any (s1.size : Int) w
  have bR := (Box.new w 0 0 ⟨#[]⟩ 23).alloc (.cells #[.int .i64 k1, .int .i64 n1, .string s1] 23)
  have hB : Below w.heap.size w ((w.alloc (.cells #[.int .i64 0, .int .i64 0, .string ⟨#[]⟩] 23)).alloc (.cells #[.int .i64 k1, .int .i64 n1, .string s1] 23)) := ((Below.refl _ _).alloc (Nat.le_refl _) _).alloc (by simp) _
  obtain ⟨b, off, rfl, c10, c11, c12⟩ := hR.at (i := 0) (by simp)
  have hb := cell_lt c10
  simp only [List.getElem_cons_zero, Nat.zero_mul, Nat.add_zero] at c10 c11 c12 hb
  clear hR
  go_enter Try.func48, Try.ntmps48
  go_wp2_with (first
    | (go_at_call 43; with_reducible refine (T _).mono ?_; rintro e w2 ⟨rfl, b2⟩; obtain ⟨r0, r1, r2, f0, f1, f2⟩ := (bR.below b2).out; have B2 := hB.trans (b2.mono hB.size)))
  refine bodyPost_ret (by simp [results, Try.results48, go_sem, r0, r1, r2]; try rfl) rfl ?_
  exact ⟨rfl, by go_grown⟩

set_option maxHeartbeats 1000000 in
theorem worth_upper (p : Option Addr) (c : Nat) (k1 n1 : Int) (s1 : ByteArray) (w : World) (hR : Row w p [⟨k1, n1, s1⟩]) (hs : s1.size ≤ maxLen) :
    Calls Try.prog 48 #[.int .i64 3, .slice p 1 c] w fun e w' => e = .returned (.agg #[.int .i64 3, .int .i64 0, .string (exV 97 65 s1)]) ∧ Below w.heap.size w w' := by
  have X : ∀ w, Calls Try.prog 63 #[.string s1, .int .u8 97, .int .u8 65] w fun e w' => e = .returned (.string (exV 97 65 s1)) ∧ Below w.heap.size w w' := fun w => exchanged_any 97 65 s1 w hs (by omega) (by omega)
  have T := fun w => text_any (exV 97 65 s1) w
  have bR := (Box.new w 0 0 ⟨#[]⟩ 23).alloc (.cells #[.int .i64 k1, .int .i64 n1, .string s1] 23)
  have hB : Below w.heap.size w ((w.alloc (.cells #[.int .i64 0, .int .i64 0, .string ⟨#[]⟩] 23)).alloc (.cells #[.int .i64 k1, .int .i64 n1, .string s1] 23)) := ((Below.refl _ _).alloc (Nat.le_refl _) _).alloc (by simp) _
  obtain ⟨b, off, rfl, c10, c11, c12⟩ := hR.at (i := 0) (by simp)
  have hb := cell_lt c10
  simp only [List.getElem_cons_zero, Nat.zero_mul, Nat.add_zero] at c10 c11 c12 hb
  clear hR hs
  go_enter Try.func48, Try.ntmps48
  go_wp2_with (first
    | (go_at_call 63; with_reducible refine (X _).mono ?_; rintro e w1 ⟨rfl, b1⟩; replace bR := bR.below b1; replace hB := hB.trans (b1.mono hB.size))
    | (go_at_call 56; with_reducible refine (T _).mono ?_; rintro e w2 ⟨rfl, b2⟩; obtain ⟨r0, r1, r2, f0, f1, f2⟩ := (bR.below b2).out; have B2 := hB.trans (b2.mono hB.size)))
  refine bodyPost_ret (by simp [results, Try.results48, go_sem, r0, r1, r2]; try rfl) rfl ?_
  exact ⟨rfl, by go_grown⟩

set_option maxHeartbeats 1000000 in
theorem worth_lower (p : Option Addr) (c : Nat) (k1 n1 : Int) (s1 : ByteArray) (w : World) (hR : Row w p [⟨k1, n1, s1⟩]) (hs : s1.size ≤ maxLen) :
    Calls Try.prog 48 #[.int .i64 4, .slice p 1 c] w fun e w' => e = .returned (.agg #[.int .i64 3, .int .i64 0, .string (exV 65 97 s1)]) ∧ Below w.heap.size w w' := by
  have X : ∀ w, Calls Try.prog 63 #[.string s1, .int .u8 65, .int .u8 97] w fun e w' => e = .returned (.string (exV 65 97 s1)) ∧ Below w.heap.size w w' := fun w => exchanged_any 65 97 s1 w hs (by omega) (by omega)
  have T := fun w => text_any (exV 65 97 s1) w
  have bR := (Box.new w 0 0 ⟨#[]⟩ 23).alloc (.cells #[.int .i64 k1, .int .i64 n1, .string s1] 23)
  have hB : Below w.heap.size w ((w.alloc (.cells #[.int .i64 0, .int .i64 0, .string ⟨#[]⟩] 23)).alloc (.cells #[.int .i64 k1, .int .i64 n1, .string s1] 23)) := ((Below.refl _ _).alloc (Nat.le_refl _) _).alloc (by simp) _
  obtain ⟨b, off, rfl, c10, c11, c12⟩ := hR.at (i := 0) (by simp)
  have hb := cell_lt c10
  simp only [List.getElem_cons_zero, Nat.zero_mul, Nat.add_zero] at c10 c11 c12 hb
  clear hR hs
  go_enter Try.func48, Try.ntmps48
  go_wp2_with (first
    | (go_at_call 63; with_reducible refine (X _).mono ?_; rintro e w1 ⟨rfl, b1⟩; replace bR := bR.below b1; replace hB := hB.trans (b1.mono hB.size))
    | (go_at_call 56; with_reducible refine (T _).mono ?_; rintro e w2 ⟨rfl, b2⟩; obtain ⟨r0, r1, r2, f0, f1, f2⟩ := (bR.below b2).out; have B2 := hB.trans (b2.mono hB.size)))
  refine bodyPost_ret (by simp [results, Try.results48, go_sem, r0, r1, r2]; try rfl) rfl ?_
  exact ⟨rfl, by go_grown⟩

/-- A function of one value, which it takes. -/
theorem call_one (f : Int) (p : Option Addr) (c : Nat) (v : Val) (x : Ans) (w : World) (h1 : argsV f = 1) (h6 : f ≠ 6) (hk : v.k ≠ 0) (ht : takesV f 0 v.k = true) (hR : Row w p [v])
    (hW : ∀ w1, Row w1 p [v] → Calls Try.prog 48 #[.int .i64 f, .slice p [v].length c] w1 fun e w' => endW x e ∧ Below w1.heap.size w1 w') :
    Calls Try.prog 16 #[.int .i64 f, .slice p 1 c] w fun e w' => e = .returned x.out ∧ Below w.heap.size w w' := by
  have good : ∀ j (h : j < [v].length), badV f j [v][j] = false := by
    intro j h
    obtain rfl : j = 0 := by simp at h; omega
    simp [badV, ht]
  refine call_main f p [v] c x w (by rw [h1]; decide) h6 (by rw [h1]; rfl) (by unfold maxLen; simp) hR ?_ ?_ ?_
  · rintro ⟨j, h, hb⟩
    rw [good j h] at hb
    exact absurd hb (by decide)
  · intro _ hn
    simp [isNull] at hn
    exact absurd hn hk
  · intro _ _
    exact caught_call w.heap.size f p _ c x hW
end Go.Proofs.Ytonikoijelhojaa
