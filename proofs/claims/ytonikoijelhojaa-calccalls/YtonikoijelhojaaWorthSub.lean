/- What calc.worth answers at Substr. Conditions: the numbers are within the numbers, the text is at most 2^62 bytes. -/
import Derived.Test.YtonikoijelhojaaCallPart
import Derived.Test.YtonikoijelhojaaCalcParts
import Derived.Deep.RegionWith
import Derived.StillTailTactics
namespace Go.Proofs.Ytonikoijelhojaa
open Go.RowKit Go.Lib Go.Sort
set_option linter.unusedVariables false

/-- One draw more. -/
theorem below_drawn (W : World) : Below W.heap.size W { W with drawn := W.drawn + 1 } := ⟨rfl, rfl, rfl, Nat.le_refl _, fun _ _ => rfl⟩

set_option maxHeartbeats 4000000 in
theorem worth_substr (p : Option Addr) (c : Nat) (k1 n1 k2 n2 k3 n3 : Int) (s1 s2 s3 : ByteArray) (w : World) (hR : Row w p [⟨k1, n1, s1⟩, ⟨k2, n2, s2⟩, ⟨k3, n3, s3⟩]) (hs : s1.size ≤ 4611686018427387904) (h2 : inR n2) (h3 : inR n3) :
    Calls Try.prog 48 #[.int .i64 5, .slice p 3 c] w fun e w' => e = .returned (.agg #[.int .i64 3, .int .i64 0, .string (partV s1 n2 n3)]) ∧ Below w.heap.size w w' := by
  have P := fun w => part_any s1 n2 n3 w hs h2 h3
  have T := fun w => text_any (partV s1 n2 n3) w
  generalize partV s1 n2 n3 = t at *
  have bR := (Box.new w 0 0 ⟨#[]⟩ 23).alloc (.cells #[.int .i64 k1, .int .i64 n1, .string s1] 23)
  have bV := Box.at (b := w.heap.size + 1) (w := w.alloc (.cells #[.int .i64 0, .int .i64 0, .string ⟨#[]⟩] 23)) (by simp) k1 n1 s1 23
  have hB : Below w.heap.size w ((w.alloc (.cells #[.int .i64 0, .int .i64 0, .string ⟨#[]⟩] 23)).alloc (.cells #[.int .i64 k1, .int .i64 n1, .string s1] 23)) := ((Below.refl _ _).alloc (Nat.le_refl _) _).alloc (by simp) _
  have hR1 := hR.below hB
  obtain ⟨b, off, rfl, c10, c11, c12⟩ := hR.at (i := 0) (by simp)
  have hb := cell_lt c10
  simp only [List.getElem_cons_zero, Nat.zero_mul, Nat.add_zero] at c10 c11 c12 hb
  clear hR hs h2 h3
  go_enter Try.func48, Try.ntmps48
  go_wp2_with fail
  refine wp_region_still_tail 10 (by kernel_rfl) (by kernel_rfl) ?_
  generalize ((w.alloc (.cells #[.int .i64 0, .int .i64 0, .string ⟨#[]⟩] 23)).alloc (.cells #[.int .i64 k1, .int .i64 n1, .string s1] 23)) = W at *
  have hD := below_drawn W
  replace bR := bR.below hD
  replace bV := bV.below hD
  replace hR1 := hR1.below hD
  replace hB := hB.trans (hD.mono hB.size)
  clear hD
  generalize ({ W with drawn := W.drawn + 1 } : World) = D at *
  clear W c10 c11 c12 hb
  obtain ⟨b', off', e', c20, c21, c22⟩ := hR1.at (i := 1) (by simp)
  obtain ⟨rfl, rfl⟩ : b = b' ∧ off = off' := by simpa using e'
  obtain ⟨b', off', e'', c30, c31, c32⟩ := hR1.at (i := 2) (by simp)
  obtain ⟨rfl, rfl⟩ : b = b' ∧ off = off' := by simpa using e''
  obtain ⟨v0, v1, v2, _⟩ := bV.out
  clear e' e'' hR1 bV
  simp only [List.getElem_cons_zero, List.getElem_cons_succ, Nat.one_mul] at c20 c21 c22 c30 c31 c32
  simp only [List.take_succ_cons, List.take_zero, List.drop_succ_cons, List.drop_zero]
  repeat still_step
  refine wpStill_nil ?_
  go_wp2_with (first
    | (go_at_call 64; with_reducible refine (P _).mono ?_; rintro e w' ⟨rfl, rfl⟩)
    | (go_at_call 56; with_reducible refine (T _).mono ?_; rintro e w2 ⟨rfl, b2⟩; obtain ⟨r0, r1, r2, f0, f1, f2⟩ := (bR.below b2).out; have B2 := hB.trans (b2.mono hB.size)))
  refine bodyPost_ret (by simp [results, Try.results48, go_sem, r0, r1, r2]; try rfl) rfl ?_
  exact ⟨rfl, by go_grown⟩
end Go.Proofs.Ytonikoijelhojaa
