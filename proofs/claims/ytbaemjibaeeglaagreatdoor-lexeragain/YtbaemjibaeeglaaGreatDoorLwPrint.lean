/- What the project's Print answers: a word as it stands in a text. Conditions: the text is shorter than 2 to the 31st bytes, the number fits 64 bits; the library's table lies in memory as its text lays it. -/
import Derived.Test.YtbaemjibaeeglaaGreatDoorValLit
namespace Go.Proofs.YtbaemjibaeeglaaGreatDoor
open Go.RowKit Go.Lib Go.Sort
set_option linter.unusedVariables false
set_option maxRecDepth 20000

theorem hidW {p : Prop} (h : p) : Hid p := h
/-- What is written. -/
def prtL (k n : Int) (s : ByteArray) : List UInt8 :=
  if k = 1 ∨ k = 5 then s.data.toList else if k = 2 then itoa n else if k = 3 then litV ⟨3, 0, s⟩ else if k = 4 then litV ⟨4, 0, s⟩ else []

set_option maxHeartbeats 1000000 in
theorem xprint_any (k i n : Int) (s : ByteArray) (w : World) (hw : Ready w) (hs : s.size ≤ 2147483648) (hn0 : -9223372036854775808 ≤ n) (hn1 : n ≤ 9223372036854775807) :
    Calls Tryz.prog 12 #[.agg #[.int .i64 k, .string s, .int .i64 i, .int .i64 n]] w fun e w' => e = .returned (.string ⟨(prtL k n s).toArray⟩) ∧ Below w.heap.size w w' := by
  by_cases h15 : k = 1 ∨ k = 5
  · rcases h15 with rfl | rfl
    · go_enter Tryz.func12, Tryz.ntmps12
      go_wp2_with fail
      go_ret
      exact ⟨rfl, by go_grown⟩
    · go_enter Tryz.func12, Tryz.ntmps12
      go_wp2_with fail
      go_ret
      exact ⟨rfl, by go_grown⟩
  by_cases h2 : k = 2
  · subst h2
    have HT := fun w hw => Tryz.strconv_FormatInt_10 n hn0 hn1 w hw
    show Calls _ _ _ _ fun e w' => e = .returned (.string ⟨(itoa n).toArray⟩) ∧ _
    generalize (⟨(itoa n).toArray⟩ : ByteArray) = r at *
    have H3 : Hid (∀ w, Lib.TabIs Tryz.prog w "internal/strconv.uint64pow10" .u64 Lib.pow10Tab → Calls Tryz.prog 20 #[.int .i64 n, .int .i64 10] w fun e w' => e = .returned (.string r) ∧ ∃ k os, w' = grow (w.drewN k) os) := HT
    have B0 : Below w.heap.size w (w.alloc (.cells #[.int .i64 2, .string s, .int .i64 i, .int .i64 n] 38)) := (Below.refl _ _).alloc (Nat.le_refl _) _
    have HP := hidW (hw.below B0).pow
    clear HT hn0 hn1 hw
    go_enter Tryz.func12, Tryz.ntmps12
    go_wp2_with (go_at_call 20; refine (H3.out _ HP.out).mono ?_; rintro e w2 ⟨rfl, kq, osq, hw2⟩; have B2 := hidW (by rw [hw2]; exact below_regrown _ _ osq : Below (w.alloc (.cells #[.int .i64 2, .string s, .int .i64 i, .int .i64 n] 38)).heap.size (w.alloc (.cells #[.int .i64 2, .string s, .int .i64 i, .int .i64 n] 38)) w2); clear hw2)
    go_ret
    exact ⟨rfl, B0.trans (B2.out.mono B0.size)⟩
  by_cases h3 : k = 3
  · subst h3
    have B0 : Below w.heap.size w (w.alloc (.cells #[.int .i64 3, .string s, .int .i64 i, .int .i64 n] 38)) := (Below.refl _ _).alloc (Nat.le_refl _) _
    have H3 := hidW (literal_any ⟨3, 0, s⟩ (w.alloc (.cells #[.int .i64 3, .string s, .int .i64 i, .int .i64 n] 38)) (hw.below B0) hs (show (-9223372036854775808 : Int) ≤ 0 by decide) (show (0 : Int) ≤ 9223372036854775807 by decide))
    have e3 : (⟨3, 0, s⟩ : Val).v = .agg #[.int .i64 3, .int .i64 0, .string s] := rfl
    rw [e3] at H3
    show Calls _ _ _ _ fun e w' => e = .returned (.string ⟨(litV ⟨3, 0, s⟩).toArray⟩) ∧ _
    generalize (⟨(litV ⟨3, 0, s⟩).toArray⟩ : ByteArray) = r at *
    clear hn0 hn1 e3 hw
    go_enter Tryz.func12, Tryz.ntmps12
    go_wp2_with (go_at_call 21; refine H3.out.mono ?_; rintro e w2 ⟨rfl, b2⟩; have B2 := hid b2; clear b2)
    go_ret
    exact ⟨rfl, B0.trans (B2.out.mono B0.size)⟩
  by_cases h4 : k = 4
  · subst h4
    have B0 : Below w.heap.size w (w.alloc (.cells #[.int .i64 4, .string s, .int .i64 i, .int .i64 n] 38)) := (Below.refl _ _).alloc (Nat.le_refl _) _
    have H3 := hidW (literal_any ⟨4, 0, s⟩ (w.alloc (.cells #[.int .i64 4, .string s, .int .i64 i, .int .i64 n] 38)) (hw.below B0) hs (show (-9223372036854775808 : Int) ≤ 0 by decide) (show (0 : Int) ≤ 9223372036854775807 by decide))
    have e3 : (⟨4, 0, s⟩ : Val).v = .agg #[.int .i64 4, .int .i64 0, .string s] := rfl
    rw [e3] at H3
    show Calls _ _ _ _ fun e w' => e = .returned (.string ⟨(litV ⟨4, 0, s⟩).toArray⟩) ∧ _
    generalize (⟨(litV ⟨4, 0, s⟩).toArray⟩ : ByteArray) = r at *
    clear hn0 hn1 e3 hw
    go_enter Tryz.func12, Tryz.ntmps12
    go_wp2_with (go_at_call 21; refine H3.out.mono ?_; rintro e w2 ⟨rfl, b2⟩; have B2 := hid b2; clear b2)
    go_ret
    exact ⟨rfl, B0.trans (B2.out.mono B0.size)⟩
  have e : prtL k n s = [] := by unfold prtL; rw [if_neg h15, if_neg h2, if_neg h3, if_neg h4]
  rw [e]
  have e1 : (k == 1) = false := beq_eq_false_iff_ne.2 (by omega)
  have e5 : (k == 5) = false := beq_eq_false_iff_ne.2 (by omega)
  have e2 : (k == 2) = false := beq_eq_false_iff_ne.2 h2
  have e3 : (k == 3) = false := beq_eq_false_iff_ne.2 h3
  have e4 : (k == 4) = false := beq_eq_false_iff_ne.2 h4
  clear h15 h2 h3 h4 e
  go_enter Tryz.func12, Tryz.ntmps12
  go_wp2_with fail
  go_ret
  exact ⟨rfl, by go_grown⟩
end Go.Proofs.YtbaemjibaeeglaaGreatDoor
