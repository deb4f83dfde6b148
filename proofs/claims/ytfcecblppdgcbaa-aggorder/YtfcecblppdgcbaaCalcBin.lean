/- What calc.Binary answers, whole: arithmetic (what is thrown is caught) and comparisons beside the rest. Conditions: the numbers are within the numbers; the texts' lengths together are Go's. -/
import Derived.Test.YtfcecblppdgcbaaCalcBinary
import Derived.Test.YtfcecblppdgcbaaCalcCmp
namespace Go.Proofs.Ytfcecblppdgcbaa
open Go.RowKit Go.Lib Go.Sort
set_option linter.unusedVariables false
set_option maxRecDepth 20000

theorem enters_binary1 (args : Array Value) (w : World) : (callFunc 63 args).run Try.prog w = .ok (.enter 63 args) w := by
  first | (simp [go_sem]; done) | kernel_rfl

set_option maxHeartbeats 400000 in
theorem binary1_any (b : Nat) (op : Int) (x y r : Val) (w : World) (hB : Boxes w b op x y r) (h1 : 11 ≤ op) (h2 : op ≤ 15) (hx : inR x.n) (hy : inR y.n) :
    Calls Try.prog 63 #[.pointer (some ⟨b, 0, none⟩), .pointer (some ⟨b + 1, 0, none⟩), .pointer (some ⟨b + 1 + 1, 0, none⟩)] w fun e w' => endA (sumV op x.n y.n) e ∧ Below w.heap.size w w' := by
  obtain ⟨k1, n1, s1⟩ := x
  obtain ⟨k2, n2, s2⟩ := y
  have Q := fun w => sum_any op n1 n2 w h1 h2 hx hy
  have hB' := hB.below ((Below.refl _ _).alloc (Nat.le_refl _) (.cells #[.int .i64 0, .int .i64 0, .string ⟨#[]⟩] 32))
  have o0 := hB'.op
  obtain ⟨a0, a1, a2, _⟩ := hB'.a.out
  obtain ⟨d0, d1, d2, _⟩ := hB'.b.out
  simp only [] at *
  generalize sumV op n1 n2 = x at *
  clear hB hB' hx hy h1 h2
  obtain ⟨⟨k', n', s'⟩, er⟩ := x
  go_enter Try.func63, Try.ntmps63
  go_wp2_with fail
  refine (Q _).mono ?_
  rintro e w1 ⟨he, b1⟩
  obtain ⟨r0, r1, r2, f0, f1, f2⟩ := cells3 b1
  have B1 := below_new b1
  have he' := he
  rcases endA_out he with rfl | ⟨rfl, hv, hx⟩
  · go_wp2
    refine bodyPost_ret (by simp [results, Try.results63, go_sem, r0, r1, r2]; try rfl) rfl ?_
    exact ⟨Or.inl rfl, by go_grown⟩
  · go_wp2
    exact ⟨rfl, Or.inr ⟨rfl, hv, hx⟩, by go_grown⟩

set_option maxHeartbeats 800000 in
theorem binary_sum (op : Int) (a b : Val) (w : World) (h1 : 11 ≤ op) (h2 : op ≤ 15) (h0 : a.k ≠ 0) (h3 : b.k ≠ 0) (hx : inR a.n) (hy : inR b.n) (hf : fitV op a b = true) :
    Calls Try.prog 54 #[.int .i64 op, a.v, b.v] w fun e w' => e = .returned (sumV op a.n b.n).out ∧ Below w.heap.size w w' := by
  have hmf : ∀ (fn : Fn) (first cap : Array Value) (w : World), (Instr.makeFunc fn first cap).run Try.prog w = .ok (.func fn first cap) w := fun _ _ _ _ => rfl
  obtain ⟨k1, n1, s1⟩ := a
  obtain ⟨k2, n2, s2⟩ := b
  have X := boxes4 w op k1 n1 k2 n2 s1 s2
  have C := fun w => fit_any op ⟨k1, n1, s1⟩ ⟨k2, n2, s2⟩ w (by omega)
  rw [hf] at C
  clear hf
  have e0 : (k1 == 0) = false := beq_eq_false_iff_ne.2 h0
  have e1 : (k2 == 0) = false := beq_eq_false_iff_ne.2 h3
  have Q : Hid (∀ w1, Boxes w1 w.heap.size op ⟨k1, n1, s1⟩ ⟨k2, n2, s2⟩ ⟨0, 0, ⟨#[]⟩⟩ → Calls Try.prog 62 #[.func (.func 63) #[] #[.pointer (some ⟨w.heap.size, 0, none⟩), .pointer (some ⟨w.heap.size + 1, 0, none⟩), .pointer (some ⟨w.heap.size + 1 + 1, 0, none⟩)]] w1 fun e w' => e = .returned (.tuple #[.agg #[.int .i64 (sumV op n1 n2).v.k, .int .i64 (sumV op n1 n2).v.n, .string (sumV op n1 n2).v.s], .int .i64 (sumV op n1 n2).e]) ∧ Below w1.heap.size w1 w') :=
    fun w1 hw1 => caught_any 63 _ (sumV op n1 n2) _ (enters_binary1 _) (fun w0 b0 => binary1_any w.heap.size op _ _ _ w0 (hw1.below b0) h1 h2 hx hy)
  unfold Val.v at *
  rw [Ans.out_eq]
  simp only [] at *
  generalize sumV op n1 n2 = r at *
  obtain ⟨⟨k', n', s'⟩, er⟩ := r
  simp only [] at *
  clear h0 h3 hx hy
  go_enter Try.func54, Try.ntmps54
  go_wp2_with (first
    | (go_at_call 55; with_reducible refine (C _).mono ?_; rintro e w1 ⟨rfl, b1⟩; have X1 := X.below b1; have o0 := X1.op; obtain ⟨a0, a1, a2, _⟩ := X1.a.out; obtain ⟨d0, d1, d2, _⟩ := X1.b.out; obtain ⟨r0, r1, r2, f0, f1, f2⟩ := X1.r.out; have B1 := below_new4 b1)
    | (go_at_call 62; with_reducible refine (Q.out _ X1).mono ?_; rintro e w2 ⟨rfl, b2⟩; obtain ⟨r0, r1, r2, f0, f1, f2⟩ := (X1.below b2).r.out; have B2 := B1.trans (b2.mono B1.size)))
  refine bodyPost_ret (by simp [results, Try.results54, go_sem, r0, r1, r2]; try rfl) rfl ?_
  exact ⟨rfl, by go_grown⟩

theorem binary_any (op : Int) (a b : Val) (w : World) (hx : inR a.n) (hy : inR b.n) (hl : a.s.size + b.s.size ≤ maxLen) :
    Calls Try.prog 54 #[.int .i64 op, a.v, b.v] w fun e w' => e = .returned (binV op a b).out ∧ Below w.heap.size w w' := by
  unfold binV
  by_cases h1 : op < 3 ∨ 16 < op
  · rw [if_pos h1]; exact binary_kind op a b w h1
  rw [if_neg h1]
  cases hf : fitV op a b
  · rw [if_pos rfl]; exact binary_type op a b w (by omega) (by omega) hf
  rw [if_neg (by decide)]
  by_cases h4 : op = 4
  · rw [if_pos h4]; exact binary_and op a b w h4 hf
  rw [if_neg h4]
  by_cases h3 : op = 3
  · rw [if_pos h3]; exact binary_or op a b w h3 hf
  rw [if_neg h3]
  by_cases ha : a.k = 0
  · rw [if_pos (Or.inl ha)]; exact binary_null1 op a b w (by omega) (by omega) ha hf
  by_cases hb : b.k = 0
  · rw [if_pos (Or.inr hb)]; exact binary_null2 op a b w (by omega) (by omega) ha hb hf
  rw [if_neg (by omega)]
  by_cases h10 : op ≤ 10
  · rw [if_pos h10]; exact binary_cmp op a b w (by omega) h10 ha hb hf
  rw [if_neg h10]
  by_cases h16 : op = 16
  · rw [if_pos h16]; exact binary_cat op a b w h16 ha hb hl hf
  rw [if_neg h16]
  exact binary_sum op a b w (by omega) (by omega) ha hb hx hy hf
end Go.Proofs.Ytfcecblppdgcbaa
