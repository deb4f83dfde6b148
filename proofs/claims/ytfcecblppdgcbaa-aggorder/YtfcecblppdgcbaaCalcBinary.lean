/- What calc.Binary answers. Conditions: the numbers are within the numbers; the texts' lengths together are Go's. -/
import Derived.Test.YtfcecblppdgcbaaCalcUnary
import Derived.Test.YtfcecblppdgcbaaValWalks
import Derived.Deep.RegionWith
namespace Go.Proofs.Ytfcecblppdgcbaa
open Go.RowKit Go.Lib Go.Sort
set_option linter.unusedVariables false
set_option maxRecDepth 20000

set_option maxHeartbeats 400000 in
theorem joined_any (s t : ByteArray) (w : World) (h : s.size + t.size ≤ maxLen) :
    Calls Try.prog 61 #[.string s, .string t] w fun e w' => e = .returned (joinV s t).out ∧ Below w.heap.size w w' := by
  unfold maxLen at h
  by_cases hs : 2048 < s.size + t.size
  · rw [show joinV s t = ⟨nullV, 8⟩ from if_pos hs]
    go_enter Try.func61, Try.ntmps61
    go_wp2
    go_returns
    exact ⟨rfl, by go_grown⟩
  · rw [show joinV s t = ⟨textV (s ++ t), 0⟩ from if_neg hs]
    go_enter Try.func61, Try.ntmps61
    go_wp2_with (go_at_call 70; with_reducible refine (text_any _ _).mono ?_; rintro e w1 ⟨rfl, b1⟩; obtain ⟨r0, r1, r2, f0, f1, f2⟩ := cells3 b1; have B1 := below_new b1)
    refine bodyPost_ret (by simp [results, Try.results61, go_sem, r0, r1, r2]; try rfl) rfl ?_
    exact ⟨rfl, by go_grown⟩

/-- The variables of Binary. -/
def Boxes (w : World) (b : Nat) (op : Int) (x y r : Val) : Prop := w.cell? ⟨b, 0, none⟩ = some (.int .i64 op) ∧ Box w (b + 1) x ∧ Box w (b + 1 + 1) y ∧ Box w (b + 1 + 1 + 1) r
theorem Boxes.below {w w' : World} {b : Nat} {op : Int} {x y r : Val} (h : Boxes w b op x y r) (k : Below w.heap.size w w') : Boxes w' b op x y r :=
  ⟨below_cell k h.1, h.2.1.below k, h.2.2.1.below k, h.2.2.2.below k⟩
theorem boxes4 (w : World) (op k1 n1 k2 n2 : Int) (s1 s2 : ByteArray) :
    Boxes ((((w.alloc (.cells #[.int .i64 op] 3)).alloc (.cells #[.int .i64 k1, .int .i64 n1, .string s1] 32)).alloc (.cells #[.int .i64 k2, .int .i64 n2, .string s2] 32)).alloc (.cells #[.int .i64 0, .int .i64 0, .string ⟨#[]⟩] 32)) w.heap.size op ⟨k1, n1, s1⟩ ⟨k2, n2, s2⟩ ⟨0, 0, ⟨#[]⟩⟩ :=
  ⟨by go_simp, ((Box.at (by simp) k1 n1 s1 32).alloc _).alloc _, (Box.at (by simp) k2 n2 s2 32).alloc _, Box.at (by simp) 0 0 ⟨#[]⟩ 32⟩
theorem Boxes.op {w : World} {b : Nat} {op : Int} {x y r : Val} (h : Boxes w b op x y r) : w.cell? ⟨b, 0, none⟩ = some (.int .i64 op) := h.1
theorem Boxes.a {w : World} {b : Nat} {op : Int} {x y r : Val} (h : Boxes w b op x y r) : Box w (b + 1) x := h.2.1
theorem Boxes.b {w : World} {b : Nat} {op : Int} {x y r : Val} (h : Boxes w b op x y r) : Box w (b + 1 + 1) y := h.2.2.1
theorem Boxes.r {w : World} {b : Nat} {op : Int} {x y r : Val} (h : Boxes w b op x y r) : Box w (b + 1 + 1 + 1) r := h.2.2.2

set_option maxHeartbeats 400000 in
theorem binary_kind (op : Int) (a b : Val) (w : World) (h : op < 3 ∨ 16 < op) :
    Calls Try.prog 54 #[.int .i64 op, a.v, b.v] w fun e w' => e = .returned (⟨nullV, 5⟩ : Ans).out ∧ Below w.heap.size w w' := by
  obtain ⟨k1, n1, s1⟩ := a
  obtain ⟨k2, n2, s2⟩ := b
  unfold Val.v
  rcases h with h | h
  all_goals
    go_enter Try.func54, Try.ntmps54
    go_wp2
    go_returns
    exact ⟨rfl, by go_grown⟩

set_option maxHeartbeats 800000 in
theorem binary_type (op : Int) (a b : Val) (w : World) (h1 : 3 ≤ op) (h2 : op ≤ 16) (hf : fitV op a b = false) :
    Calls Try.prog 54 #[.int .i64 op, a.v, b.v] w fun e w' => e = .returned (⟨nullV, 35⟩ : Ans).out ∧ Below w.heap.size w w' := by
  obtain ⟨k1, n1, s1⟩ := a
  obtain ⟨k2, n2, s2⟩ := b
  have X := boxes4 w op k1 n1 k2 n2 s1 s2
  have C := fun w => fit_any op ⟨k1, n1, s1⟩ ⟨k2, n2, s2⟩ w (by omega)
  rw [hf] at C
  clear hf
  unfold Val.v at *
  simp only [] at *
  go_enter Try.func54, Try.ntmps54
  go_wp2_with (first
    | (go_at_call 55; with_reducible refine (C _).mono ?_; rintro e w1 ⟨rfl, b1⟩; have X1 := X.below b1; have o0 := X1.op; obtain ⟨a0, a1, a2, _⟩ := X1.a.out; obtain ⟨d0, d1, d2, _⟩ := X1.b.out; obtain ⟨r0, r1, r2, f0, f1, f2⟩ := X1.r.out; have B1 := below_new4 b1)
    | fail)
  refine bodyPost_ret (by simp [results, Try.results54, go_sem, r0, r1, r2]; try rfl) rfl ?_
  exact ⟨rfl, by go_grown⟩

set_option maxHeartbeats 800000 in
theorem binary_and (op : Int) (a b : Val) (w : World) (h : op = 4) (hf : fitV op a b = true) :
    Calls Try.prog 54 #[.int .i64 op, a.v, b.v] w fun e w' => e = .returned (⟨andV a b, 0⟩ : Ans).out ∧ Below w.heap.size w w' := by
  obtain ⟨k1, n1, s1⟩ := a
  obtain ⟨k2, n2, s2⟩ := b
  have X := boxes4 w op k1 n1 k2 n2 s1 s2
  have C := fun w => fit_any op ⟨k1, n1, s1⟩ ⟨k2, n2, s2⟩ w (by omega)
  rw [hf] at C
  clear hf
  unfold Val.v at *
  simp only [] at *
  have D := fun w => and_any ⟨k1, n1, s1⟩ ⟨k2, n2, s2⟩ w
  rw [Ans.out_eq]
  unfold Val.v at D
  simp only [] at *
  generalize andV ⟨k1, n1, s1⟩ ⟨k2, n2, s2⟩ = r at *
  obtain ⟨k', n', s'⟩ := r
  simp only [] at *
  subst h
  go_enter Try.func54, Try.ntmps54
  go_wp2_with (first
    | (go_at_call 55; with_reducible refine (C _).mono ?_; rintro e w1 ⟨rfl, b1⟩; have X1 := X.below b1; have o0 := X1.op; obtain ⟨a0, a1, a2, _⟩ := X1.a.out; obtain ⟨d0, d1, d2, _⟩ := X1.b.out; obtain ⟨r0, r1, r2, f0, f1, f2⟩ := X1.r.out; have B1 := below_new4 b1)
    | (go_at_call 56; with_reducible refine (D _).mono ?_; rintro e w2 ⟨rfl, b2⟩; obtain ⟨r0, r1, r2, f0, f1, f2⟩ := (X1.below b2).r.out; have B2 := B1.trans (b2.mono B1.size)))
  refine bodyPost_ret (by simp [results, Try.results54, go_sem, r0, r1, r2]; try rfl) rfl ?_
  exact ⟨rfl, by go_grown⟩

set_option maxHeartbeats 800000 in
theorem binary_or (op : Int) (a b : Val) (w : World) (h : op = 3) (hf : fitV op a b = true) :
    Calls Try.prog 54 #[.int .i64 op, a.v, b.v] w fun e w' => e = .returned (⟨orV a b, 0⟩ : Ans).out ∧ Below w.heap.size w w' := by
  obtain ⟨k1, n1, s1⟩ := a
  obtain ⟨k2, n2, s2⟩ := b
  have X := boxes4 w op k1 n1 k2 n2 s1 s2
  have C := fun w => fit_any op ⟨k1, n1, s1⟩ ⟨k2, n2, s2⟩ w (by omega)
  rw [hf] at C
  clear hf
  unfold Val.v at *
  simp only [] at *
  have D := fun w => or_any ⟨k1, n1, s1⟩ ⟨k2, n2, s2⟩ w
  rw [Ans.out_eq]
  unfold Val.v at D
  simp only [] at *
  generalize orV ⟨k1, n1, s1⟩ ⟨k2, n2, s2⟩ = r at *
  obtain ⟨k', n', s'⟩ := r
  simp only [] at *
  subst h
  go_enter Try.func54, Try.ntmps54
  go_wp2_with (first
    | (go_at_call 55; with_reducible refine (C _).mono ?_; rintro e w1 ⟨rfl, b1⟩; have X1 := X.below b1; have o0 := X1.op; obtain ⟨a0, a1, a2, _⟩ := X1.a.out; obtain ⟨d0, d1, d2, _⟩ := X1.b.out; obtain ⟨r0, r1, r2, f0, f1, f2⟩ := X1.r.out; have B1 := below_new4 b1)
    | (go_at_call 57; with_reducible refine (D _).mono ?_; rintro e w2 ⟨rfl, b2⟩; obtain ⟨r0, r1, r2, f0, f1, f2⟩ := (X1.below b2).r.out; have B2 := B1.trans (b2.mono B1.size)))
  refine bodyPost_ret (by simp [results, Try.results54, go_sem, r0, r1, r2]; try rfl) rfl ?_
  exact ⟨rfl, by go_grown⟩

set_option maxHeartbeats 800000 in
theorem binary_null1 (op : Int) (a b : Val) (w : World) (h : 4 < op) (h2 : op ≤ 16) (h0 : a.k = 0) (hf : fitV op a b = true) :
    Calls Try.prog 54 #[.int .i64 op, a.v, b.v] w fun e w' => e = .returned (⟨nullV, 0⟩ : Ans).out ∧ Below w.heap.size w w' := by
  obtain ⟨k1, n1, s1⟩ := a
  obtain ⟨k2, n2, s2⟩ := b
  have X := boxes4 w op k1 n1 k2 n2 s1 s2
  have C := fun w => fit_any op ⟨k1, n1, s1⟩ ⟨k2, n2, s2⟩ w (by omega)
  rw [hf] at C
  clear hf
  unfold Val.v at *
  simp only [] at *
  subst h0
  go_enter Try.func54, Try.ntmps54
  go_wp2_with (first
    | (go_at_call 55; with_reducible refine (C _).mono ?_; rintro e w1 ⟨rfl, b1⟩; have X1 := X.below b1; have o0 := X1.op; obtain ⟨a0, a1, a2, _⟩ := X1.a.out; obtain ⟨d0, d1, d2, _⟩ := X1.b.out; obtain ⟨r0, r1, r2, f0, f1, f2⟩ := X1.r.out; have B1 := below_new4 b1)
    | fail)
  refine bodyPost_ret (by simp [results, Try.results54, go_sem, r0, r1, r2]; try rfl) rfl ?_
  exact ⟨rfl, by go_grown⟩

set_option maxHeartbeats 800000 in
theorem binary_null2 (op : Int) (a b : Val) (w : World) (h : 4 < op) (h2 : op ≤ 16) (h0 : a.k ≠ 0) (h3 : b.k = 0) (hf : fitV op a b = true) :
    Calls Try.prog 54 #[.int .i64 op, a.v, b.v] w fun e w' => e = .returned (⟨nullV, 0⟩ : Ans).out ∧ Below w.heap.size w w' := by
  obtain ⟨k1, n1, s1⟩ := a
  obtain ⟨k2, n2, s2⟩ := b
  have X := boxes4 w op k1 n1 k2 n2 s1 s2
  have C := fun w => fit_any op ⟨k1, n1, s1⟩ ⟨k2, n2, s2⟩ w (by omega)
  rw [hf] at C
  clear hf
  unfold Val.v at *
  simp only [] at *
  have e0 : (k1 == 0) = false := beq_eq_false_iff_ne.2 h0
  subst h3
  clear h0
  go_enter Try.func54, Try.ntmps54
  go_wp2_with (first
    | (go_at_call 55; with_reducible refine (C _).mono ?_; rintro e w1 ⟨rfl, b1⟩; have X1 := X.below b1; have o0 := X1.op; obtain ⟨a0, a1, a2, _⟩ := X1.a.out; obtain ⟨d0, d1, d2, _⟩ := X1.b.out; obtain ⟨r0, r1, r2, f0, f1, f2⟩ := X1.r.out; have B1 := below_new4 b1)
    | fail)
  refine bodyPost_ret (by simp [results, Try.results54, go_sem, r0, r1, r2]; try rfl) rfl ?_
  exact ⟨rfl, by go_grown⟩

set_option maxHeartbeats 800000 in
theorem binary_cat (op : Int) (a b : Val) (w : World) (h : op = 16) (h0 : a.k ≠ 0) (h3 : b.k ≠ 0) (hl : a.s.size + b.s.size ≤ maxLen) (hf : fitV op a b = true) :
    Calls Try.prog 54 #[.int .i64 op, a.v, b.v] w fun e w' => e = .returned (joinV a.s b.s).out ∧ Below w.heap.size w w' := by
  obtain ⟨k1, n1, s1⟩ := a
  obtain ⟨k2, n2, s2⟩ := b
  have X := boxes4 w op k1 n1 k2 n2 s1 s2
  have C := fun w => fit_any op ⟨k1, n1, s1⟩ ⟨k2, n2, s2⟩ w (by omega)
  rw [hf] at C
  clear hf
  unfold Val.v at *
  simp only [] at *
  have e0 : (k1 == 0) = false := beq_eq_false_iff_ne.2 h0
  have e1 : (k2 == 0) = false := beq_eq_false_iff_ne.2 h3
  have D := fun w => joined_any s1 s2 w hl
  clear h0 h3 hl
  subst h
  rw [Ans.out_eq] at *
  generalize joinV s1 s2 = r at *
  obtain ⟨⟨k', n', s'⟩, er⟩ := r
  simp only [] at *
  go_enter Try.func54, Try.ntmps54
  go_wp2_with (first
    | (go_at_call 55; with_reducible refine (C _).mono ?_; rintro e w1 ⟨rfl, b1⟩; have X1 := X.below b1; have o0 := X1.op; obtain ⟨a0, a1, a2, _⟩ := X1.a.out; obtain ⟨d0, d1, d2, _⟩ := X1.b.out; obtain ⟨r0, r1, r2, f0, f1, f2⟩ := X1.r.out; have B1 := below_new4 b1)
    | (go_at_call 61; with_reducible refine (D _).mono ?_; rintro e w2 ⟨rfl, b2⟩; obtain ⟨r0, r1, r2, f0, f1, f2⟩ := (X1.below b2).r.out; have B2 := B1.trans (b2.mono B1.size)))
  refine bodyPost_ret (by simp [results, Try.results54, go_sem, r0, r1, r2]; try rfl) rfl ?_
  exact ⟨rfl, by go_grown⟩
end Go.Proofs.Ytfcecblppdgcbaa
