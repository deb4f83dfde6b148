/- What calc.Call answers at Coalesce; what calc.worth answers at Abs. Condition: the number is within the numbers. -/
import Derived.Test.YtonikoijelhojaaWorthMore
import Derived.Test.YtonikoijelhojaaBoxHeld
namespace Go.Proofs.Ytonikoijelhojaa
open Go.RowKit Go.Lib Go.Sort
set_option linter.unusedVariables false

def absV (n : Int) : Ans := if n < 0 then over (0 - n) else ⟨numV n, 0⟩

set_option maxHeartbeats 1000000 in
theorem worth_abs (p : Option Addr) (c : Nat) (k1 n1 : Int) (s1 : ByteArray) (w : World) (hR : Row w p [⟨k1, n1, s1⟩]) (hn : inR n1) :
    Calls Try.prog 48 #[.int .i64 2, .slice p 1 c] w fun e w' => endW (absV n1) e ∧ Below w.heap.size w w' := by
  have Q := fun w => difference_any 0 n1 w (by decide) hn
  have bR := (Box.new w 0 0 ⟨#[]⟩ 23).alloc (.cells #[.int .i64 k1, .int .i64 n1, .string s1] 23)
  have hB : Below w.heap.size w ((w.alloc (.cells #[.int .i64 0, .int .i64 0, .string ⟨#[]⟩] 23)).alloc (.cells #[.int .i64 k1, .int .i64 n1, .string s1] 23)) := ((Below.refl _ _).alloc (Nat.le_refl _) _).alloc (by simp) _
  obtain ⟨b, off, rfl, c10, c11, c12⟩ := hR.at (i := 0) (by simp)
  have hb := cell_lt c10
  simp only [List.getElem_cons_zero, Nat.zero_mul, Nat.add_zero] at c10 c11 c12 hb
  clear hR
  by_cases h0 : n1 < 0
  · by_cases h : inR (0 - n1)
    · rw [show absV n1 = ⟨numV (0 - n1), 0⟩ from (if_pos h0).trans (if_pos h)]
      rw [endN_in h] at Q
      have T := fun w => number_any (0 - n1) w
      generalize 0 - n1 = m at *
      clear h hn
      go_enter Try.func48, Try.ntmps48
      go_wp2_with (first
        | (go_at_call 44; with_reducible refine (Q _).mono ?_; rintro e wn ⟨rfl, rfl⟩)
        | (go_at_call 43; with_reducible refine (T _).mono ?_; rintro e w2 ⟨rfl, b2⟩; obtain ⟨r0, r1, r2, f0, f1, f2⟩ := (bR.below b2).out; have B2 := hB.trans (b2.mono hB.size)))
      refine bodyPost_ret (by simp [results, Try.results48, go_sem, r0, r1, r2]; try rfl) rfl ?_
      exact ⟨Or.inl ⟨rfl, rfl⟩, by go_grown⟩
    · rw [show absV n1 = ⟨nullV, 40⟩ from (if_pos h0).trans (if_neg h)]
      rw [endN_out h] at Q
      clear h hn
      go_enter Try.func48, Try.ntmps48
      go_wp2_with (first
        | (go_at_call 44; with_reducible refine (Q _).mono ?_; rintro e wn ⟨rfl, rfl⟩))
      exact ⟨rfl, Or.inr ⟨rfl, rfl, rfl⟩, by go_grown⟩
  · rw [show absV n1 = ⟨numV n1, 0⟩ from if_neg h0]
    have T := fun w => number_any n1 w
    clear hn Q
    go_enter Try.func48, Try.ntmps48
    go_wp2_with (first
      | (go_at_call 43; with_reducible refine (T _).mono ?_; rintro e w2 ⟨rfl, b2⟩; obtain ⟨r0, r1, r2, f0, f1, f2⟩ := (bR.below b2).out; have B2 := hB.trans (b2.mono hB.size)))
    refine bodyPost_ret (by simp [results, Try.results48, go_sem, r0, r1, r2]; try rfl) rfl ?_
    exact ⟨Or.inl ⟨rfl, rfl⟩, by go_grown⟩

/-- The cells that the call of coalesce reads. -/
def CS (w : World) (v : Nat) (rb off : Nat) (c : Nat) (k1 n1 : Int) (s1 : ByteArray) (k2 n2 : Int) (s2 : ByteArray) : Prop :=
  w.cell? ⟨v, 0, none⟩ = some (.slice (some ⟨rb, off, none⟩) 2 c) ∧ w.cell? ⟨rb, off, none⟩ = some (.int .i64 k1) ∧ w.cell? ⟨rb, off + 1, none⟩ = some (.int .i64 n1) ∧ w.cell? ⟨rb, off + 2, none⟩ = some (.string s1) ∧
  w.cell? ⟨rb, off + 3, none⟩ = some (.int .i64 k2) ∧ w.cell? ⟨rb, off + 3 + 1, none⟩ = some (.int .i64 n2) ∧ w.cell? ⟨rb, off + 3 + 2, none⟩ = some (.string s2)
theorem CS.all {w : World} {v rb off c : Nat} {k1 n1 k2 n2 : Int} {s1 s2 : ByteArray} (h : CS w v rb off c k1 n1 s1 k2 n2 s2) :
  w.cell? ⟨v, 0, none⟩ = some (.slice (some ⟨rb, off, none⟩) 2 c) ∧ w.cell? ⟨rb, off, none⟩ = some (.int .i64 k1) ∧ w.cell? ⟨rb, off + 1, none⟩ = some (.int .i64 n1) ∧ w.cell? ⟨rb, off + 2, none⟩ = some (.string s1) ∧
  w.cell? ⟨rb, off + 3, none⟩ = some (.int .i64 k2) ∧ w.cell? ⟨rb, off + 3 + 1, none⟩ = some (.int .i64 n2) ∧ w.cell? ⟨rb, off + 3 + 2, none⟩ = some (.string s2) := h
theorem CS.below {w w' : World} {v rb off c : Nat} {k1 n1 k2 n2 : Int} {s1 s2 : ByteArray} (h : CS w v rb off c k1 n1 s1 k2 n2 s2) (k : Below w.heap.size w w') : CS w' v rb off c k1 n1 s1 k2 n2 s2 :=
  ⟨below_cell k h.1, below_cell k h.2.1, below_cell k h.2.2.1, below_cell k h.2.2.2.1, below_cell k h.2.2.2.2.1, below_cell k h.2.2.2.2.2.1, below_cell k h.2.2.2.2.2.2⟩
theorem CS.drew {w : World} {v rb off c : Nat} {k1 n1 k2 n2 : Int} {s1 s2 : ByteArray} (h : CS w v rb off c k1 n1 s1 k2 n2 s2) : CS w.drew v rb off c k1 n1 s1 k2 n2 s2 := h.below ((Below.refl _ _).drew)
theorem far3 {w : World} {d : Nat} {a : Addr} (hd : d ≠ a.block) (x y z : Value) : (((w.setCell ⟨d, 0, none⟩ x).setCell ⟨d, 1, none⟩ y).setCell ⟨d, 2, none⟩ z).cell? a = w.cell? a := by
  rw [World.cell?_setCell_far _ _ _ _ hd, World.cell?_setCell_far _ _ _ _ hd, World.cell?_setCell_far _ _ _ _ hd]
theorem CS.put3 {w : World} {v rb off c d : Nat} {k1 n1 k2 n2 : Int} {s1 s2 : ByteArray} (h : CS w v rb off c k1 n1 s1 k2 n2 s2) (hv : d ≠ v) (hr : d ≠ rb) (x y z : Value) : CS (((w.setCell ⟨d, 0, none⟩ x).setCell ⟨d, 1, none⟩ y).setCell ⟨d, 2, none⟩ z) v rb off c k1 n1 s1 k2 n2 s2 := by
  unfold CS
  rw [far3 hv, far3 hr, far3 hr, far3 hr, far3 hr, far3 hr, far3 hr]
  exact h

set_option maxRecDepth 100000 in
set_option maxHeartbeats 4000000 in
theorem call_coal (p : Option Addr) (c : Nat) (k1 n1 k2 n2 : Int) (s1 s2 : ByteArray) (w : World) (hR : Row w p [⟨k1, n1, s1⟩, ⟨k2, n2, s2⟩]) :
    Calls Try.prog 16 #[.int .i64 6, .slice p 2 c] w fun e w' => e = .returned (coalV ⟨k1, n1, s1⟩ ⟨k2, n2, s2⟩).out ∧ Below w.heap.size w w' := by
  have A := fun w => args_any 6 w
  rw [show argsV 6 = 2 from rfl] at A
  have K := fun w => coalesce_any ⟨k1, n1, s1⟩ ⟨k2, n2, s2⟩ w
  unfold Val.v at K
  rw [Ans.out_eq] at *
  generalize coalV ⟨k1, n1, s1⟩ ⟨k2, n2, s2⟩ = r at *
  obtain ⟨⟨k', n', s'⟩, er⟩ := r
  simp only [] at K
  have X := cb_new w 6 p [⟨k1, n1, s1⟩, ⟨k2, n2, s2⟩] c
  have hb0 : Below w.heap.size w (((w.alloc (.cells #[.int .i64 6] 3)).alloc (.cells #[.slice p [(⟨k1, n1, s1⟩ : Val), ⟨k2, n2, s2⟩].length c] 31)).alloc (.cells #[.int .i64 0, .int .i64 0, .string ⟨#[]⟩] 23)) := (((Below.refl _ _).alloc (Nat.le_refl _) _).alloc (by simp) _).alloc (by simp; omega) _
  have hR1 := hR.below hb0
  obtain ⟨rb, off, e0, c10, c11, c12⟩ := hR1.at (i := 0) (by simp)
  obtain ⟨rb', off', e1, c20, c21, c22⟩ := hR1.at (i := 1) (by simp)
  obtain ⟨rb2, off2, e2, d10, _, _⟩ := hR.at (i := 0) (by simp)
  have hrb : rb2 < w.heap.size := cell_lt d10
  subst e0
  obtain ⟨rfl, rfl⟩ : rb = rb' ∧ off = off' := by simpa using e1
  obtain ⟨rfl, rfl⟩ : rb = rb2 ∧ off = off2 := by simpa using e2
  clear e1 e2 d10 hR hR1
  simp only [List.getElem_cons_zero, List.getElem_cons_succ, Nat.zero_mul, Nat.one_mul, Nat.add_zero] at c10 c11 c12 c20 c21 c22
  have hS : CS _ (w.heap.size + 1) rb off c k1 n1 s1 k2 n2 s2 := ⟨X.out.2.1, c10, c11, c12, c20, c21, c22⟩
  clear c10 c11 c12 c20 c21 c22
  simp only [List.length_cons, List.length_nil, Nat.zero_add, Nat.reduceAdd] at X hS hb0
  have AH : Hid (∀ d os, Calls Try.prog 18 #[.int .i64 6] (grow (redrawn (((w.alloc (.cells #[.int .i64 6] 3)).alloc (.cells #[.slice (some ⟨rb, off, none⟩) 2 c] 31)).alloc (.cells #[.int .i64 0, .int .i64 0, .string ⟨#[]⟩] 23)) d) os) fun e w'' => e = .returned (.int .i64 2) ∧ ∃ q : Regrown, w'' = grow (redrawn (((w.alloc (.cells #[.int .i64 6] 3)).alloc (.cells #[.slice (some ⟨rb, off, none⟩) 2 c] 31)).alloc (.cells #[.int .i64 0, .int .i64 0, .string ⟨#[]⟩] 23)) q.d) q.os) :=
    fun d os => Calls.regrown_of ((A _).mono (by rintro e w' ⟨rfl, rfl⟩; exact ⟨rfl, Below.refl _ _⟩))
  obtain ⟨o0, o1, _⟩ := X.out
  have g0 := cell_regrown o0
  have g1 := cell_regrown o1
  clear o0 o1
  go_enter Try.func16, Try.ntmps16
  go_wp2_with (go_at_call 18; with_reducible refine (A _).mono ?_; rintro e w' ⟨rfl, rfl⟩)
  refine wp_region_quiet_below (by kernel_rfl) (by kernel_rfl) ?_
  repeat (quiet_step (first | (go_at_call 18; with_reducible exact AH.out _ _)))
  refine wpQuiet_nil ?_
  intro _ hw'
  obtain ⟨⟨dq, osq⟩, hw''⟩ := hw'
  subst hw''
  simp only []
  have b1 := below_regrown (((w.alloc (.cells #[.int .i64 6] 3)).alloc (.cells #[.slice (some ⟨rb, off, none⟩) 2 c] 31)).alloc (.cells #[.int .i64 0, .int .i64 0, .string ⟨#[]⟩] 23)) dq osq
  replace X := X.below b1
  replace hS := hS.below b1
  have B := hb0.trans (b1.mono hb0.size)
  generalize grow (redrawn (((w.alloc (.cells #[.int .i64 6] 3)).alloc (.cells #[.slice (some ⟨rb, off, none⟩) 2 c] 31)).alloc (.cells #[.int .i64 0, .int .i64 0, .string ⟨#[]⟩] 23)) dq) osq = W at *
  clear b1 g0 g1 AH A hb0
  obtain ⟨o0, o1, l0, l1, l2⟩ := X.out
  have R := X.r
  have q1 : w.heap.size + 1 + 1 ≠ w.heap.size + 1 := by omega
  have q2 : w.heap.size + 1 + 1 ≠ rb := by omega
  have q3 : w.heap.size ≤ w.heap.size + 1 + 1 := by omega
  obtain ⟨r0, r1, r2, f0, f1, f2⟩ := R.out
  go_upto_region 6 with fail
  go_region_held3 (fun w' => w'.cell? ⟨w.heap.size + 1, 0, none⟩ = some (.slice (some ⟨rb, off, none⟩) 2 c) ∧ w'.cell? ⟨rb, off, none⟩ = some (.int .i64 k1) ∧ w'.cell? ⟨rb, off + 1, none⟩ = some (.int .i64 n1) ∧ w'.cell? ⟨rb, off + 2, none⟩ = some (.string s1) ∧ w'.cell? ⟨rb, off + 3, none⟩ = some (.int .i64 k2) ∧ w'.cell? ⟨rb, off + 3 + 1, none⟩ = some (.int .i64 n2) ∧ w'.cell? ⟨rb, off + 3 + 2, none⟩ = some (.string s2))
    (with_reducible first | exact hS.all | exact hS.drew.all | exact (hS.put3 q1 q2 _ _ _).all)
    (first | (go_at_call 45; with_reducible refine (K _).mono ?_; rintro e wn ⟨rfl, bn⟩; (with_reducible first | replace hS := hS.below bn | replace hS := hS.drew.below bn); (with_reducible first | replace R := R.below bn | replace R := R.drew.below bn); (with_reducible first | replace B := B.trans (bn.mono B.size) | replace B := B.drew.trans (bn.mono B.drew.size)); obtain ⟨r0, r1, r2, f0, f1, f2⟩ := R.out))
  go_wp2_with fail
  have R' := R.put k' n' s'
  have B' := below_put3 B q3 (.int .i64 k') (.int .i64 n') (.string s')
  obtain ⟨r0, r1, r2, _, _, _⟩ := R'.out
  refine bodyPost_ret (by simp [results, Try.results16, go_sem, r0, r1, r2]; try rfl) rfl ?_
  exact ⟨rfl, B'⟩
end Go.Proofs.Ytonikoijelhojaa
