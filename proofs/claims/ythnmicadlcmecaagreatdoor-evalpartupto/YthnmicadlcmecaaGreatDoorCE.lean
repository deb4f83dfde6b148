/- What calc.worth answers at Substr. Conditions: the numbers are within the numbers, the text is at most 2^62 bytes. What calc.Call answers at Substr, and the work that it hands on. Conditions: the numbers are within the numbers, the text is at most 2^62 bytes. What calc.worth answers at Length, Abs, Upper, Lower. Conditions: the number is within the numbers, the text's length is Go's. -/
import Derived.Test.YthnmicadlcmecaaGreatDoorCallPart
import Derived.Test.YthnmicadlcmecaaGreatDoorCB
import Derived.Deep.RegionWith
import Derived.StillTailTactics
import Derived.Test.YthnmicadlcmecaaGreatDoorCC
import Derived.Test.YthnmicadlcmecaaGreatDoorCA
namespace Go.Proofs.YthnmicadlcmecaaGreatDoor
open Go.RowKit Go.Lib Go.Sort
set_option linter.unusedVariables false
set_option maxRecDepth 20000

/-- One draw more. -/
theorem below_drawn (W : World) : Below W.heap.size W { W with drawn := W.drawn + 1 } := ⟨rfl, rfl, rfl, Nat.le_refl _, fun _ _ => rfl⟩

set_option maxHeartbeats 4000000 in
theorem worth_substr (p : Option Addr) (c : Nat) (k1 n1 k2 n2 k3 n3 : Int) (s1 s2 s3 : ByteArray) (w : World) (hR : Row w p [⟨k1, n1, s1⟩, ⟨k2, n2, s2⟩, ⟨k3, n3, s3⟩]) (hs : s1.size ≤ 4611686018427387904) (h2 : inR n2) (h3 : inR n3) :
    Calls Tryz.prog 123 #[.int .i64 5, .slice p 3 c] w fun e w' => e = .returned (.agg #[.int .i64 3, .int .i64 0, .string (partV s1 n2 n3)]) ∧ Below w.heap.size w w' := by
  have P := fun w => part_any s1 n2 n3 w hs h2 h3
  have T := fun w => text_any (partV s1 n2 n3) w
  generalize partV s1 n2 n3 = t at *
  have bR := (Box.new w 0 0 ⟨#[]⟩ 23).alloc (.cells #[.int .i64 k1, .int .i64 n1, .string s1] 23)
  have bV := Box.at (b := w.heap.size + 1) (w := w.alloc (.cells #[.int .i64 0, .int .i64 0, .string ⟨#[]⟩] 23)) (by simp) k1 n1 s1 23
  have hB : Below w.heap.size w ((w.alloc (.cells #[.int .i64 0, .int .i64 0, .string ⟨#[]⟩] 23)).alloc (.cells #[.int .i64 k1, .int .i64 n1, .string s1] 23)) := ((Below.refl _ _).alloc (Nat.le_refl _) _).alloc (by simp) _
  have hR1 := hR.below hB
  obtain ⟨b, off, rfl, c10, c11, c12⟩ := hR.at (i := 0) (by simp)
  have hb := cell_lt c10
  simp only [List.getElem_cons_zero, Nat.zero_mul, Nat.add_zero] at c10 c11 c12 hb
  clear hR hs h2 h3
  go_enter Tryz.func123, Tryz.ntmps123
  go_wp2_with fail
  refine wp_region_still_tail 10 (by kernel_rfl) (by kernel_rfl) ?_
  generalize ((w.alloc (.cells #[.int .i64 0, .int .i64 0, .string ⟨#[]⟩] 23)).alloc (.cells #[.int .i64 k1, .int .i64 n1, .string s1] 23)) = W at *
  have hD := below_drawn W
  replace bR := bR.below hD
  replace bV := bV.below hD
  replace hR1 := hR1.below hD
  replace hB := hB.trans (hD.mono hB.size)
  clear hD
  generalize ({ W with drawn := W.drawn + 1 } : World) = D at *
  clear W c10 c11 c12 hb
  obtain ⟨b', off', e', c20, c21, c22⟩ := hR1.at (i := 1) (by simp)
  obtain ⟨rfl, rfl⟩ : b = b' ∧ off = off' := by simpa using e'
  obtain ⟨b', off', e'', c30, c31, c32⟩ := hR1.at (i := 2) (by simp)
  obtain ⟨rfl, rfl⟩ : b = b' ∧ off = off' := by simpa using e''
  obtain ⟨v0, v1, v2, _⟩ := bV.out
  clear e' e'' hR1 bV
  simp only [List.getElem_cons_zero, List.getElem_cons_succ, Nat.one_mul] at c20 c21 c22 c30 c31 c32
  simp only [List.take_succ_cons, List.take_zero, List.drop_succ_cons, List.drop_zero]
  repeat still_step
  refine wpStill_nil ?_
  go_wp2_with (first
    | (go_at_call 169; with_reducible refine (P _).mono ?_; rintro e w' ⟨rfl, rfl⟩)
    | (go_at_call 164; with_reducible refine (T _).mono ?_; rintro e w2 ⟨rfl, b2⟩; obtain ⟨r0, r1, r2, f0, f1, f2⟩ := (bR.below b2).out; have B2 := hB.trans (b2.mono hB.size)))
  refine bodyPost_ret (by simp [results, Tryz.results123, go_sem, r0, r1, r2]; try rfl) rfl ?_
  exact ⟨rfl, by go_grown⟩
end Go.Proofs.YthnmicadlcmecaaGreatDoor
namespace Go.Proofs.YthnmicadlcmecaaGreatDoor
open Go.RowKit Go.Lib Go.Sort
set_option linter.unusedVariables false
set_option maxRecDepth 20000

theorem enters_call1 (args : Array Value) (w : World) : (callFunc 122 args).run Tryz.prog w = .ok (.enter 122 args) w := by
  first | (simp [go_sem]; done) | kernel_rfl

/-- The ending of worth: its value, or what it threw. -/
def endW (x : Ans) (e : Ending) : Prop := (e = .returned (.agg #[.int .i64 x.v.k, .int .i64 x.v.n, .string x.v.s]) ∧ x.e = 0) ∨ (e = .panicked thrown ∧ x.v = nullV ∧ x.e = 40)

set_option maxHeartbeats 400000 in
theorem call1_any (b : Nat) (f : Int) (p : Option Addr) (xs : List Val) (c : Nat) (x : Ans) (w : World) (hc : CB w b f (.slice p xs.length c)) (hR : Row w p xs)
    (hW : ∀ w1, Row w1 p xs → Calls Tryz.prog 123 #[.int .i64 f, .slice p xs.length c] w1 fun e w' => endW x e ∧ Below w1.heap.size w1 w') :
    Calls Tryz.prog 122 #[.pointer (some ⟨b, 0, none⟩), .pointer (some ⟨b + 1, 0, none⟩)] w fun e w' => endA x e ∧ Below w.heap.size w w' := by
  have hB : Below w.heap.size w (w.alloc (.cells #[.int .i64 0, .int .i64 0, .string ⟨#[]⟩] 23)) := (Below.refl _ _).alloc (Nat.le_refl _) _
  obtain ⟨o0, o1, _⟩ := (hc.below hB).out
  have Q := hW _ (hR.below hB)
  clear hc hR hW
  obtain ⟨⟨k', n', s'⟩, er⟩ := x
  go_enter Tryz.func122, Tryz.ntmps122
  go_wp2_with fail
  refine Q.mono ?_
  rintro e w1 ⟨he, b1⟩
  obtain ⟨r0, r1, r2, f0, f1, f2⟩ := cells3 b1
  have B1 := below_new b1
  rcases he with ⟨he, rfl⟩ | ⟨rfl, hv, hx⟩
  · obtain rfl : e = .returned (.agg #[.int .i64 k', .int .i64 n', .string s']) := he
    go_wp2
    refine bodyPost_ret (by simp [results, Tryz.results122, go_sem, r0, r1, r2]; try rfl) rfl ?_
    exact ⟨Or.inl rfl, by go_grown⟩
  · go_wp2
    exact ⟨rfl, Or.inr ⟨rfl, hv, hx⟩, by go_grown⟩

/-- The work of Call, caught. -/
theorem caught_call (b : Nat) (f : Int) (p : Option Addr) (xs : List Val) (c : Nat) (x : Ans)
    (hW : ∀ w1, Row w1 p xs → Calls Tryz.prog 123 #[.int .i64 f, .slice p xs.length c] w1 fun e w' => endW x e ∧ Below w1.heap.size w1 w') :
    ∀ w1, CB w1 b f (.slice p xs.length c) → Row w1 p xs →
      Calls Tryz.prog 107 #[.func (.func 122) #[] #[.pointer (some ⟨b, 0, none⟩), .pointer (some ⟨b + 1, 0, none⟩)]] w1 fun e w' => e = .returned x.out ∧ Below w1.heap.size w1 w' :=
  fun w1 hc hR => caught_any 122 _ x _ (enters_call1 _) (fun w0 b0 => call1_any b f p xs c x w0 (hc.below b0) (hR.below b0) hW)

/-- Substr of a Text, an Int, an Int. -/
theorem call_substr (p : Option Addr) (c : Nat) (n1 n2 n3 : Int) (s1 s2 s3 : ByteArray) (w : World) (hR : Row w p [⟨3, n1, s1⟩, ⟨2, n2, s2⟩, ⟨2, n3, s3⟩]) (hs : s1.size ≤ 4611686018427387904) (h2 : inR n2) (h3 : inR n3) :
    Calls Tryz.prog 81 #[.int .i64 5, .slice p 3 c] w fun e w' => e = .returned (⟨textV (partV s1 n2 n3), 0⟩ : Ans).out ∧ Below w.heap.size w w' := by
  have good : ∀ j (h : j < [(⟨3, n1, s1⟩ : Val), ⟨2, n2, s2⟩, ⟨2, n3, s3⟩].length), badV 5 j [(⟨3, n1, s1⟩ : Val), ⟨2, n2, s2⟩, ⟨2, n3, s3⟩][j] = false := by
    intro j h
    have : j = 0 ∨ j = 1 ∨ j = 2 := by simp at h; omega
    rcases this with rfl | rfl | rfl <;> rfl
  refine call_main 5 p [⟨3, n1, s1⟩, ⟨2, n2, s2⟩, ⟨2, n3, s3⟩] c ⟨textV (partV s1 n2 n3), 0⟩ w (by decide) (by decide) rfl (by unfold maxLen; simp) hR ?_ ?_ ?_
  · rintro ⟨j, h, hb⟩
    rw [good j h] at hb
    exact absurd hb (by decide)
  · intro _ hn
    exact absurd hn (by simp [isNull])
  · intro _ _
    exact caught_call w.heap.size 5 p _ c ⟨textV (partV s1 n2 n3), 0⟩ (fun w1 hR1 => (worth_substr p c 3 n1 2 n2 2 n3 s1 s2 s3 w1 hR1 hs h2 h3).mono (by rintro e w' ⟨rfl, b⟩; exact ⟨Or.inl ⟨rfl, rfl⟩, b⟩))
end Go.Proofs.YthnmicadlcmecaaGreatDoor
namespace Go.Proofs.YthnmicadlcmecaaGreatDoor
open Go.RowKit Go.Lib Go.Sort
set_option linter.unusedVariables false
set_option maxRecDepth 20000

set_option maxHeartbeats 1000000 in
theorem worth_length (p : Option Addr) (c : Nat) (k1 n1 : Int) (s1 : ByteArray) (w : World) (hR : Row w p [⟨k1, n1, s1⟩]) :
    Calls Tryz.prog 123 #[.int .i64 1, .slice p 1 c] w fun e w' => e = .returned (.agg #[.int .i64 2, .int .i64 (s1.size : Int), .string ⟨#[]⟩]) ∧ Below w.heap.size w w' := by
  have T := fun w => number_any (s1.size : Int) w
  have bR := (Box.new w 0 0 ⟨#[]⟩ 23).alloc (.cells #[.int .i64 k1, .int .i64 n1, .string s1] 23)
  have hB : Below w.heap.size w ((w.alloc (.cells #[.int .i64 0, .int .i64 0, .string ⟨#[]⟩] 23)).alloc (.cells #[.int .i64 k1, .int .i64 n1, .string s1] 23)) := ((Below.refl _ _).alloc (Nat.le_refl _) _).alloc (by simp) _
  obtain ⟨b, off, rfl, c10, c11, c12⟩ := hR.at (i := 0) (by simp)
  have hb := cell_lt c10
  simp only [List.getElem_cons_zero, Nat.zero_mul, Nat.add_zero] at c10 c11 c12 hb
  clear hR
  go_enter Tryz.func123, Tryz.ntmps123
  go_wp2_with (first
    | (go_at_call 109; with_reducible refine (T _).mono ?_; rintro e w2 ⟨rfl, b2⟩; obtain ⟨r0, r1, r2, f0, f1, f2⟩ := (bR.below b2).out; have B2 := hB.trans (b2.mono hB.size)))
  refine bodyPost_ret (by simp [results, Tryz.results123, go_sem, r0, r1, r2]; try rfl) rfl ?_
  exact ⟨rfl, by go_grown⟩

set_option maxHeartbeats 1000000 in
theorem worth_upper (p : Option Addr) (c : Nat) (k1 n1 : Int) (s1 : ByteArray) (w : World) (hR : Row w p [⟨k1, n1, s1⟩]) (hs : s1.size ≤ maxLen) :
    Calls Tryz.prog 123 #[.int .i64 3, .slice p 1 c] w fun e w' => e = .returned (.agg #[.int .i64 3, .int .i64 0, .string (kExV 97 65 s1)]) ∧ Below w.heap.size w w' := by
  have X : ∀ w, Calls Tryz.prog 168 #[.string s1, .int .u8 97, .int .u8 65] w fun e w' => e = .returned (.string (kExV 97 65 s1)) ∧ Below w.heap.size w w' := fun w => exchanged_any 97 65 s1 w hs (by omega) (by omega)
  have T := fun w => text_any (kExV 97 65 s1) w
  have bR := (Box.new w 0 0 ⟨#[]⟩ 23).alloc (.cells #[.int .i64 k1, .int .i64 n1, .string s1] 23)
  have hB : Below w.heap.size w ((w.alloc (.cells #[.int .i64 0, .int .i64 0, .string ⟨#[]⟩] 23)).alloc (.cells #[.int .i64 k1, .int .i64 n1, .string s1] 23)) := ((Below.refl _ _).alloc (Nat.le_refl _) _).alloc (by simp) _
  obtain ⟨b, off, rfl, c10, c11, c12⟩ := hR.at (i := 0) (by simp)
  have hb := cell_lt c10
  simp only [List.getElem_cons_zero, Nat.zero_mul, Nat.add_zero] at c10 c11 c12 hb
  clear hR hs
  go_enter Tryz.func123, Tryz.ntmps123
  go_wp2_with (first
    | (go_at_call 168; with_reducible refine (X _).mono ?_; rintro e w1 ⟨rfl, b1⟩; replace bR := bR.below b1; replace hB := hB.trans (b1.mono hB.size))
    | (go_at_call 164; with_reducible refine (T _).mono ?_; rintro e w2 ⟨rfl, b2⟩; obtain ⟨r0, r1, r2, f0, f1, f2⟩ := (bR.below b2).out; have B2 := hB.trans (b2.mono hB.size)))
  refine bodyPost_ret (by simp [results, Tryz.results123, go_sem, r0, r1, r2]; try rfl) rfl ?_
  exact ⟨rfl, by go_grown⟩

set_option maxHeartbeats 1000000 in
theorem worth_lower (p : Option Addr) (c : Nat) (k1 n1 : Int) (s1 : ByteArray) (w : World) (hR : Row w p [⟨k1, n1, s1⟩]) (hs : s1.size ≤ maxLen) :
    Calls Tryz.prog 123 #[.int .i64 4, .slice p 1 c] w fun e w' => e = .returned (.agg #[.int .i64 3, .int .i64 0, .string (kExV 65 97 s1)]) ∧ Below w.heap.size w w' := by
  have X : ∀ w, Calls Tryz.prog 168 #[.string s1, .int .u8 65, .int .u8 97] w fun e w' => e = .returned (.string (kExV 65 97 s1)) ∧ Below w.heap.size w w' := fun w => exchanged_any 65 97 s1 w hs (by omega) (by omega)
  have T := fun w => text_any (kExV 65 97 s1) w
  have bR := (Box.new w 0 0 ⟨#[]⟩ 23).alloc (.cells #[.int .i64 k1, .int .i64 n1, .string s1] 23)
  have hB : Below w.heap.size w ((w.alloc (.cells #[.int .i64 0, .int .i64 0, .string ⟨#[]⟩] 23)).alloc (.cells #[.int .i64 k1, .int .i64 n1, .string s1] 23)) := ((Below.refl _ _).alloc (Nat.le_refl _) _).alloc (by simp) _
  obtain ⟨b, off, rfl, c10, c11, c12⟩ := hR.at (i := 0) (by simp)
  have hb := cell_lt c10
  simp only [List.getElem_cons_zero, Nat.zero_mul, Nat.add_zero] at c10 c11 c12 hb
  clear hR hs
  go_enter Tryz.func123, Tryz.ntmps123
  go_wp2_with (first
    | (go_at_call 168; with_reducible refine (X _).mono ?_; rintro e w1 ⟨rfl, b1⟩; replace bR := bR.below b1; replace hB := hB.trans (b1.mono hB.size))
    | (go_at_call 164; with_reducible refine (T _).mono ?_; rintro e w2 ⟨rfl, b2⟩; obtain ⟨r0, r1, r2, f0, f1, f2⟩ := (bR.below b2).out; have B2 := hB.trans (b2.mono hB.size)))
  refine bodyPost_ret (by simp [results, Tryz.results123, go_sem, r0, r1, r2]; try rfl) rfl ?_
  exact ⟨rfl, by go_grown⟩

/-- A function of one value, which it takes. -/
theorem call_one (f : Int) (p : Option Addr) (c : Nat) (v : Val) (x : Ans) (w : World) (h1 : argsV f = 1) (h6 : f ≠ 6) (hk : v.k ≠ 0) (ht : takesV f 0 v.k = true) (hR : Row w p [v])
    (hW : ∀ w1, Row w1 p [v] → Calls Tryz.prog 123 #[.int .i64 f, .slice p [v].length c] w1 fun e w' => endW x e ∧ Below w1.heap.size w1 w') :
    Calls Tryz.prog 81 #[.int .i64 f, .slice p 1 c] w fun e w' => e = .returned x.out ∧ Below w.heap.size w w' := by
  have good : ∀ j (h : j < [v].length), badV f j [v][j] = false := by
    intro j h
    obtain rfl : j = 0 := by simp at h; omega
    simp [badV, ht]
  refine call_main f p [v] c x w (by rw [h1]; decide) h6 (by rw [h1]; rfl) (by unfold maxLen; simp) hR ?_ ?_ ?_
  · rintro ⟨j, h, hb⟩
    rw [good j h] at hb
    exact absurd hb (by decide)
  · intro _ hn
    simp [isNull] at hn
    exact absurd hn hk
  · intro _ _
    exact caught_call w.heap.size f p _ c x hW
end Go.Proofs.YthnmicadlcmecaaGreatDoor
