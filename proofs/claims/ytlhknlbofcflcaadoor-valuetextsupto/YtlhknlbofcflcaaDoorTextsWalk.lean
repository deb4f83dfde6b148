/- The law ValueTexts returns true and writes nothing that was there. Conditions: the two texts are shorter than 2 to the 31st bytes; the library's table lies in memory as its text lays it. -/
import Derived.Test.YtlhknlbofcflcaaDoorValWorks
import Derived.Test.YtlhknlbofcflcaaDoorRefCheck
import Derived.Test.YtlhknlbofcflcaaDoorTextsPlain
import Derived.Lib.ItoaLen
namespace Go.Proofs.YtlhknlbofcflcaaDoor
open Go.RowKit Go.Lib Go.Sort
set_option linter.unusedVariables false

/-- A value in a block of its own. -/
structure BoxV (w : World) (b : Nat) (k n : Int) (s : ByteArray) : Prop where
  c0 : w.cell? ⟨b, 0, none⟩ = some (.int .i64 k)
  c1 : w.cell? ⟨b, 1, none⟩ = some (.int .i64 n)
  c2 : w.cell? ⟨b, 2, none⟩ = some (.string s)
theorem BoxV.below {w w' : World} {b : Nat} {k n : Int} {s : ByteArray} (h : BoxV w b k n s) (hb : Below w.heap.size w w') : BoxV w' b k n s :=
  ⟨below_cell hb h.c0, below_cell hb h.c1, below_cell hb h.c2⟩
theorem boxes2 (w : World) (k1 n1 k2 n2 : Int) (s1 s2 : ByteArray) (W : World) (hW : W = (w.alloc (.cells #[.int .i64 k1, .int .i64 n1, .string s1] 23)).alloc (.cells #[.int .i64 k2, .int .i64 n2, .string s2] 23)) :
    BoxV W w.heap.size k1 n1 s1 ∧ BoxV W (w.heap.size + 1) k2 n2 s2 ∧ Below w.heap.size w W := by
  subst hW
  refine ⟨⟨by go_simp, by go_simp, by go_simp⟩, ⟨by go_simp, by go_simp, by go_simp⟩, by go_grown⟩

set_option maxHeartbeats 1000000 in
theorem texts_test (k1 n1 k2 n2 : Int) (s1 s2 : ByteArray) (w : World) (hw : Ready w) (c1 c2 : Int)
    (H1 : Hid (∀ w, Calls Tryd.prog 9 #[.agg #[.int .i64 k1, .int .i64 n1, .string s1]] w fun e w' => e = .returned (.int .i64 c1) ∧ Below w.heap.size w w'))
    (H2 : Hid (∀ w, Calls Tryd.prog 9 #[.agg #[.int .i64 k2, .int .i64 n2, .string s2]] w fun e w' => e = .returned (.int .i64 c2) ∧ Below w.heap.size w w'))
    (hbad : c1 ≠ 0 ∨ c2 ≠ 0) :
    Calls Tryd.prog 6 #[.agg #[.int .i64 k1, .int .i64 n1, .string s1], .agg #[.int .i64 k2, .int .i64 n2, .string s2]] w fun e w' => e = .returned (.bool true) ∧ Below w.heap.size w w' := by
  have HW : Hid (Ready w) := hw
  clear hw
  go_enter Tryd.func6, Tryd.ntmps6
  go_wp2_with fail
  obtain ⟨x1, x2, B0⟩ := boxes2 w k1 n1 k2 n2 s1 s2 _ rfl
  refine (works_any _ (HW.out.below B0)).mono ?_
  rintro e w1 ⟨rfl, b1⟩
  have y1 := x1.below b1
  have y2 := x2.below b1
  have B1 : Below w.heap.size w w1 := B0.trans (b1.mono B0.size)
  clear x1 x2 B0 b1
  have q0 := y1.c0
  have q1 := y1.c1
  have q2 := y1.c2
  go_wp2_with fail
  refine (H1.out _).mono ?_
  rintro e w2 ⟨rfl, b2⟩
  clear q0 q1 q2
  have B2 : Below w.heap.size w w2 := B1.trans (b2.mono B1.size)
  replace y2 := y2.below b2
  clear B1 b2 y1
  by_cases h1 : c1 = 0
  · subst h1
    have q0 := y2.c0
    have q1 := y2.c1
    have q2 := y2.c2
    go_wp2_with fail
    refine (H2.out _).mono ?_
    rintro e w3 ⟨rfl, b3⟩
    have B3 : Below w.heap.size w w3 := B2.trans (b3.mono B2.size)
    clear q0 q1 q2 b3 B2 y2
    have h3 : (c2 != 0) = true := bne_iff_ne.2 (by omega)
    go_wp2
    go_ret
    exact ⟨rfl, B3⟩
  · have h1' : (c1 != 0) = true := bne_iff_ne.2 h1
    clear h1 y2
    go_wp2
    go_ret
    exact ⟨rfl, B2⟩

set_option maxHeartbeats 4000000 in
theorem texts_good (k1 n1 k2 n2 : Int) (s1 s2 : ByteArray) (c : UInt8) (t : List UInt8) (y : ByteArray) (w : World) (hw : Ready w) (ht : t.length ≤ 1099511627776) (hs1 : s1.size ≤ 2147483648)
    (H1 : Hid (∀ w, Calls Tryd.prog 9 #[.agg #[.int .i64 k1, .int .i64 n1, .string s1]] w fun e w' => e = .returned (.int .i64 0) ∧ Below w.heap.size w w'))
    (H2 : Hid (∀ w, Calls Tryd.prog 9 #[.agg #[.int .i64 k2, .int .i64 n2, .string s2]] w fun e w' => e = .returned (.int .i64 0) ∧ Below w.heap.size w w'))
    (L1 : Hid (∀ w, Ready w → Calls Tryd.prog 10 #[.agg #[.int .i64 k1, .int .i64 n1, .string s1]] w fun e w' => e = .returned (.string ⟨⟨c :: t⟩⟩) ∧ Below w.heap.size w w'))
    (L2 : Hid (∀ w, Ready w → Calls Tryd.prog 10 #[.agg #[.int .i64 k2, .int .i64 n2, .string s2]] w fun e w' => e = .returned (.string y) ∧ Below w.heap.size w w'))
    (HE : Hid ((k1 = k2 ∧ n1 = n2 ∧ s1 = s2 ∧ y = ⟨⟨c :: t⟩⟩) ∨ ((c :: t == y.toList) = false ∧ ((k1 == k2) = false ∨ (k1 = k2 ∧ (n1 == n2) = false) ∨ (k1 = k2 ∧ n1 = n2 ∧ (s1.toList == s2.toList) = false)))))
    (HK : Hid ((k1 = 0 ∧ c = 78 ∧ t = [85, 76, 76]) ∨ (k1 = 1 ∧ c = 70 ∧ t = [65, 76, 83, 69]) ∨ (k1 = 1 ∧ c = 84 ∧ t = [82, 85, 69]) ∨ (k1 = 2 ∧ n1 < 0 ∧ c = 45) ∨ (k1 = 2 ∧ 0 ≤ n1 ∧ 48 ≤ c.toNat) ∨ (k1 = 3 ∧ c = 39 ∧ s1.size + 1 ≤ t.length) ∨ (k1 = 4 ∧ t.length + 1 = 2 * s1.size + 3))) :
    Calls Tryd.prog 6 #[.agg #[.int .i64 k1, .int .i64 n1, .string s1], .agg #[.int .i64 k2, .int .i64 n2, .string s2]] w fun e w' => e = .returned (.bool true) ∧ Below w.heap.size w w' := by
  have HW : Hid (Ready w) := hw
  clear hw
  go_enter Tryd.func6, Tryd.ntmps6
  go_wp2_with fail
  obtain ⟨x1, x2, B0⟩ := boxes2 w k1 n1 k2 n2 s1 s2 _ rfl
  refine (works_any _ (HW.out.below B0)).mono ?_
  rintro e w1 ⟨rfl, b1⟩
  have y1 := x1.below b1
  have y2 := x2.below b1
  have B1 : Below w.heap.size w w1 := B0.trans (b1.mono B0.size)
  clear x1 x2 B0 b1
  have q0 := y1.c0
  have q1 := y1.c1
  have q2 := y1.c2
  go_wp2_with fail
  refine (H1.out _).mono ?_
  rintro e w2 ⟨rfl, b2⟩
  clear q0 q1 q2
  have B2 : Below w.heap.size w w2 := B1.trans (b2.mono B1.size)
  replace y1 := y1.below b2
  replace y2 := y2.below b2
  clear B1 b2
  have q0 := y2.c0
  have q1 := y2.c1
  have q2 := y2.c2
  go_wp2_with fail
  refine (H2.out _).mono ?_
  rintro e w3 ⟨rfl, b3⟩
  clear q0 q1 q2
  have B3 : Below w.heap.size w w3 := B2.trans (b3.mono B2.size)
  replace y1 := y1.below b3
  replace y2 := y2.below b3
  clear B2 b3
  go_wp2_with fail
  have D1 : Hid (∀ d os, Calls Tryd.prog 10 #[.agg #[.int .i64 k1, .int .i64 n1, .string s1]] (grow (redrawn w3 d) os) fun e w'' => e = .returned (.string ⟨⟨c :: t⟩⟩) ∧ ∃ p : Regrown, w'' = grow (redrawn w3 p.d) p.os) := fun d os => Calls.regrown_of (L1.out _ ((HW.out.below B3).below (below_regrown w3 d os)))
  have D2 : Hid (∀ d os, Calls Tryd.prog 10 #[.agg #[.int .i64 k2, .int .i64 n2, .string s2]] (grow (redrawn w3 d) os) fun e w'' => e = .returned (.string y) ∧ ∃ p : Regrown, w'' = grow (redrawn w3 p.d) p.os) := fun d os => Calls.regrown_of (L2.out _ ((HW.out.below B3).below (below_regrown w3 d os)))
  have g10 := cell_regrown y1.c0
  have g11 := cell_regrown y1.c1
  have g12 := cell_regrown y1.c2
  have g20 := cell_regrown y2.c0
  have g21 := cell_regrown y2.c1
  have g22 := cell_regrown y2.c2
  refine wp_region_quiet_below (by kernel_rfl) (by kernel_rfl) ?_
  repeat (first
    | go_big_quiet_step (first | (go_at_call 10; with_reducible exact D1.out _ _) | (go_at_call 10; with_reducible exact D2.out _ _))
    | quiet_step (first | (go_at_call 10; with_reducible exact D1.out _ _) | (go_at_call 10; with_reducible exact D2.out _ _)))
  refine wpQuiet_nil ?_
  intro _ hw'
  obtain ⟨⟨dq, osq⟩, hw''⟩ := hw'
  subst hw''
  clear g10 g11 g12 g20 g21 g22 D1 D2 L1 L2 HW H1 H2
  have b5 := below_regrown w3 dq osq
  generalize grow (redrawn w3 dq) osq = w5 at *
  have B5 : Below w.heap.size w w5 := B3.trans (b5.mono B3.size)
  replace y1 := y1.below b5
  replace y2 := y2.below b5
  clear B3 b5
  have q10 := y1.c0
  have q11 := y1.c1
  have q12 := y1.c2
  have q20 := y2.c0
  have q21 := y2.c1
  have q22 := y2.c2
  clear y1 y2
  rcases HE.out with ⟨rfl, rfl, rfl, rfl⟩ | ⟨hxy, h | ⟨rfl, h⟩ | ⟨rfl, rfl, h⟩⟩
  all_goals
    rcases HK.out with ⟨rfl, rfl, rfl⟩ | ⟨rfl, rfl, rfl⟩ | ⟨rfl, rfl, rfl⟩ | ⟨rfl, hn, rfl⟩ | ⟨rfl, hn, hc⟩ | ⟨rfl, rfl, hl⟩ | ⟨rfl, hl⟩
    all_goals clear HK HE
  all_goals
    try (have hc45 : ((c.toNat : Int) == 45) = false := beq_eq_false_iff_ne.2 (by omega))
    try (have hl45 : (((t.length : Nat) : Int) + 1 == 2 * (s1.size : Int) + 3) = true := beq_iff_eq.2 (by omega))
    go_wp2
    first
      | (go_ret; exact ⟨rfl, B5⟩)
      | (go_ret; exact ⟨ret_bool (show decide ((s1.size : Int) + 2 ≤ (t.length : Int) + 1) = true from decide_eq_true (by omega)), B5⟩)
      | (go_quiet (fail)
         go_wp2
         go_ret
         first
           | exact ⟨rfl, B5.trans ⟨rfl, rfl, rfl, Nat.le_refl _, fun _ _ => rfl⟩⟩
           | exact ⟨ret_bool (show (((c.toNat : Int) == 45) == decide (n1 < 0)) = true by rw [hc45]; simp; omega), B5.trans ⟨rfl, rfl, rfl, Nat.le_refl _, fun _ _ => rfl⟩⟩)

theorem texts_law (a b : Val) (w : World) (hw : Ready w) (ha : a.s.size ≤ 1048576) (hb : b.s.size ≤ 1048576) (a0 : -9223372036854775808 ≤ a.n) (a1 : a.n ≤ 9223372036854775807) (b0 : -9223372036854775808 ≤ b.n) (b1 : b.n ≤ 9223372036854775807) :
    Calls Tryd.prog 6 #[a.v, b.v] w fun e w' => e = .returned (.bool true) ∧ Below w.heap.size w w' := by
  by_cases hall : checkV a = 0 ∧ checkV b = 0
  · obtain ⟨ca, cb⟩ := hall
    obtain ⟨c, t, e1, _⟩ := litV_head ca
    have hsz : a.s.data.toList.length = a.s.size := by simp
    have rl := rep_length_le a.s.data.toList
    have hl := hexL_length a.s.data.toList
    have il := itoa_length_le a.n a0 a1
    have lr := litV_right ca
    refine texts_good a.k a.n b.k b.n a.s b.s c t ⟨(litV b).toArray⟩ w hw ?_ (by omega)
      (fun w => by have := refCheck_any a w; rw [ca] at this; exact this) (fun w => by have := refCheck_any b w; rw [cb] at this; exact this)
      (fun w hw => by have := literal_any a w hw (by omega) a0 a1; rw [e1] at this; exact this) (fun w hw => literal_any b w hw (by omega) b0 b1) ?_ ?_
    · have : (litV a).length = t.length + 1 := by rw [e1]; rfl
      rcases lr with ⟨_, _, _, e⟩ | ⟨_, ⟨_, e⟩ | ⟨_, e⟩, _⟩ | ⟨_, _, e⟩ | ⟨_, _, e⟩ | ⟨_, _, e⟩ <;> rw [e] at this <;> (try simp at this) <;> omega
    · by_cases hab : a = b
      · subst hab
        exact Or.inl ⟨rfl, rfl, rfl, by rw [e1]⟩
      · refine Or.inr ⟨?_, ?_⟩
        · rw [beq_eq_false_iff_ne]
          intro e
          apply hab
          apply litV_inj ca cb
          rw [e1, e]
          simp [ByteArray.toList_eq]
        · by_cases hk : a.k = b.k
          · by_cases hn : a.n = b.n
            · refine Or.inr (Or.inr ⟨hk, hn, ?_⟩)
              rw [beq_eq_false_iff_ne]
              intro e
              apply hab
              rw [ByteArray.toList_eq, ByteArray.toList_eq] at e
              exact val_eq hk hn e
            · exact Or.inr (Or.inl ⟨hk, beq_eq_false_iff_ne.2 hn⟩)
          · exact Or.inl (beq_eq_false_iff_ne.2 hk)
    · rcases lr with ⟨h1, _, _, e⟩ | ⟨h1, ⟨_, e⟩ | ⟨_, e⟩, _⟩ | ⟨h1, _, e⟩ | ⟨h1, _, e⟩ | ⟨h1, _, e⟩
      · rw [e1] at e
        obtain ⟨rfl, rfl⟩ := List.cons.inj e
        exact Or.inl ⟨h1, rfl, rfl⟩
      · rw [e1] at e
        obtain ⟨rfl, rfl⟩ := List.cons.inj e
        exact Or.inr (Or.inl ⟨h1, rfl, rfl⟩)
      · rw [e1] at e
        obtain ⟨rfl, rfl⟩ := List.cons.inj e
        exact Or.inr (Or.inr (Or.inl ⟨h1, rfl, rfl⟩))
      · obtain ⟨d, u, e2, hd⟩ := itoa_head a.n
        rw [e1, e2] at e
        obtain ⟨rfl, rfl⟩ := List.cons.inj e
        rcases hd with ⟨p, q⟩ | ⟨p, q, _⟩
        · exact Or.inr (Or.inr (Or.inr (Or.inl ⟨h1, p, q⟩)))
        · exact Or.inr (Or.inr (Or.inr (Or.inr (Or.inl ⟨h1, p, q⟩))))
      · rw [e1] at e
        obtain ⟨rfl, rfl⟩ := List.cons.inj e
        exact Or.inr (Or.inr (Or.inr (Or.inr (Or.inr (Or.inl ⟨h1, rfl, by simp; omega⟩)))))
      · rw [e1] at e
        obtain ⟨rfl, rfl⟩ := List.cons.inj e
        exact Or.inr (Or.inr (Or.inr (Or.inr (Or.inr (Or.inr ⟨h1, by simp [hl]⟩)))))
  · exact texts_test a.k a.n b.k b.n a.s b.s w hw (checkV a) (checkV b) (fun w => refCheck_any a w) (fun w => refCheck_any b w) (by omega)
end Go.Proofs.YtlhknlbofcflcaaDoor
