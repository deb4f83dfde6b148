/- What (*reader).value does: the value at the front, or what is thrown. Condition: the bytes lie within the reach. -/
import Derived.Test.YtpdfgifkommpdabKeysRText
namespace Go.Proofs.Ytpdfgifkommpdab
open Go.RowKit Go.Lib Go.Sort
set_option linter.unusedVariables false

/-- The ending of a value that is read. -/
def valEnd (rb : Nat) (t : Bool) (x : Except Int (Val × List UInt8)) (w : World) (e : Ending) (w' : World) : Prop :=
  Only rb w w' ∧ match x with
    | .ok r => e = .returned (.agg #[.int .i64 r.1.k, .int .i64 r.1.n, .string r.1.s]) ∧ Rd w' rb t r.2
    | .error n => e = .panicked (thr n)

theorem only_alloc (rb : Nat) (w : World) (o : Obj) : Only rb w (w.alloc o) := Past.alloc _ _ _ _
theorem box_only {rb : Nat} {w w2 : World} {ty : TypeId} (h : Only rb (w.alloc (.cells #[.int .i64 0, .int .i64 0, .string ⟨#[]⟩] ty)) w2) (hrb : rb < w.heap.size) :
    w2.cell? ⟨w.heap.size, 0, none⟩ = some (.int .i64 0) ∧ w2.cell? ⟨w.heap.size, 1, none⟩ = some (.int .i64 0) ∧ w2.cell? ⟨w.heap.size, 2, none⟩ = some (.string ⟨#[]⟩) ∧ w2.frozen? ⟨w.heap.size, 0, none⟩ = false ∧ w2.frozen? ⟨w.heap.size, 1, none⟩ = false ∧ w2.frozen? ⟨w.heap.size, 2, none⟩ = false := by
  have hne : w.heap.size ≠ rb := by omega
  have hb := h.block w.heap.size (by simp) hne (by simp [nilB, Value.ownBlock])
  refine ⟨h.cell (by go_simp) hne, h.cell (by go_simp) hne, h.cell (by go_simp) hne, ?_, ?_, ?_⟩ <;> (rw [World.frozen?_of_block hb]; go_simp)

set_option maxHeartbeats 1000000 in
theorem rvalue_bad (rb : Nat) (t : Bool) (c : UInt8) (u : List UInt8) (w : World) (hR : Rd w rb t (c :: u)) (hl : u.length + 1 ≤ maxLen) (hc : c.toNat = 0 ∨ 6 ≤ c.toNat) :
    Calls Try.prog 23 #[.pointer (some ⟨rb, 0, none⟩)] w (valEnd rb t (.error 5) w) := by
  have hrb := hR.lt
  have T := take_some rb t c u _ (hR.below (base := w.heap.size) ((Below.refl w.heap.size w).alloc (Nat.le_refl _) (.cells #[.int .i64 0, .int .i64 0, .string ⟨#[]⟩] 23)) hrb) hl
  have hlt := UInt8.toNat_lt c
  generalize c.toNat = y at *
  have e0 : ((y : Int) - 1 == 0) = false := beq_eq_false_iff_ne.2 (by omega)
  have e1 : ((y : Int) - 1 == 1) = false := beq_eq_false_iff_ne.2 (by omega)
  have e2 : ((y : Int) - 1 == 2) = false := beq_eq_false_iff_ne.2 (by omega)
  have e3 : ((y : Int) - 1 == 3) = false := beq_eq_false_iff_ne.2 (by omega)
  have e4 : ((y : Int) - 1 == 4) = false := beq_eq_false_iff_ne.2 (by omega)
  clear hR
  go_enter Try.func23, Try.ntmps23
  go_wp2_with (go_at_call 24; with_reducible refine T.mono ?_; rintro e w2 ⟨rfl, R2, O2⟩)
  exact ⟨rfl, (only_alloc _ _ _).trans O2, rfl⟩

set_option maxHeartbeats 1000000 in
theorem rvalue_null (rb : Nat) (t : Bool) (c : UInt8) (u : List UInt8) (w : World) (hR : Rd w rb t (c :: u)) (hl : u.length + 1 ≤ maxLen) (hc : c.toNat = 1) :
    Calls Try.prog 23 #[.pointer (some ⟨rb, 0, none⟩)] w (valEnd rb t (.ok (⟨0, 0, ⟨#[]⟩⟩, u)) w) := by
  have hrb := hR.lt
  have T := take_some rb t c u _ (hR.below (base := w.heap.size) ((Below.refl w.heap.size w).alloc (Nat.le_refl _) (.cells #[.int .i64 0, .int .i64 0, .string ⟨#[]⟩] 23)) hrb) hl
  rw [hc] at T
  clear hR
  go_enter Try.func23, Try.ntmps23
  go_wp2_with (go_at_call 24; with_reducible refine T.mono ?_; rintro e w2 ⟨rfl, R2, O2⟩; obtain ⟨g0, g1, g2, z0, z1, z2⟩ := box_only O2 hrb; have HR2 := hid R2; have HO2 := hid ((only_alloc _ _ _).trans O2); clear R2 O2)
  have B := Below.refl w.heap.size w2
  refine bodyPost_ret (by simp [results, Try.results23, go_sem, g0, g1, g2]; try rfl) rfl ?_
  exact ⟨HO2.out.then (by go_grown), rfl, HR2.out.below (base := w.heap.size) (by go_grown) hrb⟩

set_option maxHeartbeats 1000000 in
theorem rvalue_bool (rb : Nat) (t : Bool) (c d : UInt8) (u : List UInt8) (w : World) (hR : Rd w rb t (c :: d :: u)) (hl : u.length + 2 ≤ maxLen) (hc : c.toNat = 2) (hd : d.toNat ≤ 1) :
    Calls Try.prog 23 #[.pointer (some ⟨rb, 0, none⟩)] w (valEnd rb t (.ok (⟨1, (d.toNat : Int), ⟨#[]⟩⟩, u)) w) := by
  have hrb := hR.lt
  have T := take_some rb t c (d :: u) _ (hR.below (base := w.heap.size) ((Below.refl w.heap.size w).alloc (Nat.le_refl _) (.cells #[.int .i64 0, .int .i64 0, .string ⟨#[]⟩] 23)) hrb) (by simpa using hl)
  have E := fun w2 (R2 : Rd w2 rb t (d :: u)) => truth_some rb t d u w2 R2 (by omega) hd
  rw [hc] at T
  clear hR
  generalize d.toNat = y at *
  go_enter Try.func23, Try.ntmps23
  go_wp2_with (first
    | (go_at_call 24; with_reducible refine T.mono ?_; rintro e w2 ⟨rfl, R2, O2⟩; have E2 := E w2 R2; have HO2 := hid O2; clear R2 O2)
    | (go_at_call 25; with_reducible refine E2.mono ?_; rintro e w3 ⟨rfl, R3, O3⟩; obtain ⟨g0, g1, g2, z0, z1, z2⟩ := box_only (HO2.out.trans O3) hrb; have HR3 := hid R3; have HO3 := hid ((only_alloc _ _ _).trans (HO2.out.trans O3)); clear R3 O3)
    | fail)
  have B := Below.refl w.heap.size w3
  refine bodyPost_ret (by simp [results, Try.results23, go_sem, g0, g1, g2]; try rfl) rfl ?_
  exact ⟨HO3.out.then (by go_grown), rfl, HR3.out.below (base := w.heap.size) (by go_grown) hrb⟩

set_option maxHeartbeats 1000000 in
theorem rvalue_bool_none (rb : Nat) (t : Bool) (c : UInt8) (w : World) (hR : Rd w rb t [c]) (hc : c.toNat = 2) :
    Calls Try.prog 23 #[.pointer (some ⟨rb, 0, none⟩)] w (valEnd rb t (.error 1) w) := by
  have hrb := hR.lt
  have T := take_some rb t c [] _ (hR.below (base := w.heap.size) ((Below.refl w.heap.size w).alloc (Nat.le_refl _) (.cells #[.int .i64 0, .int .i64 0, .string ⟨#[]⟩] 23)) hrb) (by unfold maxLen; simp)
  have E := fun w2 (R2 : Rd w2 rb t []) => truth_none rb t w2 R2
  rw [hc] at T
  clear hR
  go_enter Try.func23, Try.ntmps23
  go_wp2_with (first
    | (go_at_call 24; with_reducible refine T.mono ?_; rintro e w2 ⟨rfl, R2, O2⟩; have E2 := E w2 R2; have HO2 := hid O2; clear R2 O2)
    | (go_at_call 25; with_reducible refine E2.mono ?_; rintro e w3 ⟨rfl, hw⟩; subst hw)
    | fail)
  exact ⟨rfl, (only_alloc _ _ _).trans HO2.out, rfl⟩

set_option maxHeartbeats 1000000 in
theorem rvalue_bool_bad (rb : Nat) (t : Bool) (c d : UInt8) (u : List UInt8) (w : World) (hR : Rd w rb t (c :: d :: u)) (hl : u.length + 2 ≤ maxLen) (hc : c.toNat = 2) (hd : 1 < d.toNat) :
    Calls Try.prog 23 #[.pointer (some ⟨rb, 0, none⟩)] w (valEnd rb t (.error 3) w) := by
  have hrb := hR.lt
  have T := take_some rb t c (d :: u) _ (hR.below (base := w.heap.size) ((Below.refl w.heap.size w).alloc (Nat.le_refl _) (.cells #[.int .i64 0, .int .i64 0, .string ⟨#[]⟩] 23)) hrb) (by simpa using hl)
  have E := fun w2 (R2 : Rd w2 rb t (d :: u)) => truth_bad rb t d u w2 R2 (by omega) hd
  rw [hc] at T
  clear hR
  generalize d.toNat = y at *
  go_enter Try.func23, Try.ntmps23
  go_wp2_with (first
    | (go_at_call 24; with_reducible refine T.mono ?_; rintro e w2 ⟨rfl, R2, O2⟩; have E2 := E w2 R2; have HO2 := hid O2; clear R2 O2)
    | (go_at_call 25; with_reducible refine E2.mono ?_; rintro e w3 ⟨rfl, O3⟩)
    | fail)
  exact ⟨rfl, ((only_alloc _ _ _).trans HO2.out).trans O3, rfl⟩

set_option maxHeartbeats 1000000 in
theorem rvalue_int (rb : Nat) (t : Bool) (c : UInt8) (u : List UInt8) (w : World) (hR : Rd w rb t (c :: u)) (hl : u.length + 1 ≤ maxLen) (hc : c.toNat = 3) (hu : 8 ≤ u.length) :
    Calls Try.prog 23 #[.pointer (some ⟨rb, 0, none⟩)] w (valEnd rb t (.ok (⟨2, (numN (u.take 8) : Int) - 9223372036854775808, ⟨#[]⟩⟩, u.drop 8)) w) := by
  have hrb := hR.lt
  have T := take_some rb t c u _ (hR.below (base := w.heap.size) ((Below.refl w.heap.size w).alloc (Nat.le_refl _) (.cells #[.int .i64 0, .int .i64 0, .string ⟨#[]⟩] 23)) hrb) hl
  have E := fun w2 (R2 : Rd w2 rb t u) => (rnumber_any rb t u w2 R2 (by omega)).mono (R' := fun e w' => e = .returned (.int .i64 ((numN (u.take 8) : Int) - 9223372036854775808)) ∧ Rd w' rb t (u.drop 8) ∧ Only rb w2 w') (by
    rintro e w' ⟨hO, ⟨_, he, hR⟩ | ⟨h, _⟩⟩
    · exact ⟨he, hR, hO⟩
    · omega)
  rw [hc] at T
  clear hR
  generalize (numN (u.take 8) : Int) - 9223372036854775808 = n at *
  generalize u.drop 8 = u' at *
  go_enter Try.func23, Try.ntmps23
  go_wp2_with (first
    | (go_at_call 24; with_reducible refine T.mono ?_; rintro e w2 ⟨rfl, R2, O2⟩; have E2 := E w2 R2; have HO2 := hid O2; clear R2 O2)
    | (go_at_call 26; with_reducible refine E2.mono ?_; rintro e w3 ⟨rfl, R3, O3⟩; obtain ⟨g0, g1, g2, z0, z1, z2⟩ := box_only (HO2.out.trans O3) hrb; have HR3 := hid R3; have HO3 := hid ((only_alloc _ _ _).trans (HO2.out.trans O3)); clear R3 O3)
    | fail)
  have B := Below.refl w.heap.size w3
  refine bodyPost_ret (by simp [results, Try.results23, go_sem, g0, g1, g2]; try rfl) rfl ?_
  exact ⟨HO3.out.then (by go_grown), rfl, HR3.out.below (base := w.heap.size) (by go_grown) hrb⟩

set_option maxHeartbeats 1000000 in
theorem rvalue_int_none (rb : Nat) (t : Bool) (c : UInt8) (u : List UInt8) (w : World) (hR : Rd w rb t (c :: u)) (hl : u.length + 1 ≤ maxLen) (hc : c.toNat = 3) (hu : u.length < 8) :
    Calls Try.prog 23 #[.pointer (some ⟨rb, 0, none⟩)] w (valEnd rb t (.error 1) w) := by
  have hrb := hR.lt
  have T := take_some rb t c u _ (hR.below (base := w.heap.size) ((Below.refl w.heap.size w).alloc (Nat.le_refl _) (.cells #[.int .i64 0, .int .i64 0, .string ⟨#[]⟩] 23)) hrb) hl
  have E := fun w2 (R2 : Rd w2 rb t u) => (rnumber_any rb t u w2 R2 (by omega)).mono (R' := fun e w' => e = .panicked (thr 1) ∧ Only rb w2 w') (by
    rintro e w' ⟨hO, ⟨h, _⟩ | ⟨_, he⟩⟩
    · omega
    · exact ⟨he, hO⟩)
  rw [hc] at T
  clear hR
  go_enter Try.func23, Try.ntmps23
  go_wp2_with (first
    | (go_at_call 24; with_reducible refine T.mono ?_; rintro e w2 ⟨rfl, R2, O2⟩; have E2 := E w2 R2; have HO2 := hid O2; clear R2 O2)
    | (go_at_call 26; with_reducible refine E2.mono ?_; rintro e w3 ⟨rfl, O3⟩)
    | fail)
  exact ⟨rfl, ((only_alloc _ _ _).trans HO2.out).trans O3, rfl⟩

set_option maxHeartbeats 1000000 in
theorem rvalue_text (rb : Nat) (t : Bool) (c : UInt8) (u : List UInt8) (w : World) (hR : Rd w rb t (c :: u)) (hl : u.length + 1 ≤ 140737488351232) (k : Int) (hc : (c.toNat = 4 ∧ k = 3) ∨ (c.toNat = 5 ∧ k = 4)) (s r : List UInt8) (hx : textD u = .ok (s, r)) :
    Calls Try.prog 23 #[.pointer (some ⟨rb, 0, none⟩)] w (valEnd rb t (.ok (⟨k, 0, ⟨s.toArray⟩⟩, r)) w) := by
  have hrb := hR.lt
  have T := take_some rb t c u _ (hR.below (base := w.heap.size) ((Below.refl w.heap.size w).alloc (Nat.le_refl _) (.cells #[.int .i64 0, .int .i64 0, .string ⟨#[]⟩] 23)) hrb) (by unfold maxLen; omega)
  have E := fun w2 (R2 : Rd w2 rb t u) => rtext_any rb t u w2 R2 (by omega)
  rw [hx] at E
  unfold textEnd at E
  simp only [] at E
  clear hR
  rcases hc with ⟨hc, rfl⟩ | ⟨hc, rfl⟩
  all_goals
    rw [hc] at T
    go_enter Try.func23, Try.ntmps23
    go_wp2_with (first
      | (go_at_call 24; with_reducible refine T.mono ?_; rintro e w2 ⟨rfl, R2, O2⟩; have E2 := E w2 R2; have HO2 := hid O2; clear R2 O2)
      | (go_at_call 27; with_reducible refine E2.mono ?_; rintro e w3 ⟨O3, rfl, R3⟩; obtain ⟨g0, g1, g2, z0, z1, z2⟩ := box_only (HO2.out.trans O3) hrb; have HR3 := hid R3; have HO3 := hid ((only_alloc _ _ _).trans (HO2.out.trans O3)); clear R3 O3)
      | fail)
    have B := Below.refl w.heap.size w3
    refine bodyPost_ret (by simp [results, Try.results23, go_sem, g0, g1, g2]; try rfl) rfl ?_
    exact ⟨HO3.out.then (by go_grown), rfl, HR3.out.below (base := w.heap.size) (by go_grown) hrb⟩

set_option maxHeartbeats 1000000 in
theorem rvalue_text_bad (rb : Nat) (t : Bool) (c : UInt8) (u : List UInt8) (w : World) (hR : Rd w rb t (c :: u)) (hl : u.length + 1 ≤ 140737488351232) (hc : c.toNat = 4 ∨ c.toNat = 5) (n : Int) (hx : textD u = .error n) :
    Calls Try.prog 23 #[.pointer (some ⟨rb, 0, none⟩)] w (valEnd rb t (.error n) w) := by
  have hrb := hR.lt
  have T := take_some rb t c u _ (hR.below (base := w.heap.size) ((Below.refl w.heap.size w).alloc (Nat.le_refl _) (.cells #[.int .i64 0, .int .i64 0, .string ⟨#[]⟩] 23)) hrb) (by unfold maxLen; omega)
  have E := fun w2 (R2 : Rd w2 rb t u) => rtext_any rb t u w2 R2 (by omega)
  rw [hx] at E
  unfold textEnd at E
  simp only [] at E
  clear hR
  rcases hc with hc | hc
  all_goals
    rw [hc] at T
    go_enter Try.func23, Try.ntmps23
    go_wp2_with (first
      | (go_at_call 24; with_reducible refine T.mono ?_; rintro e w2 ⟨rfl, R2, O2⟩; have E2 := E w2 R2; have HO2 := hid O2; clear R2 O2)
      | (go_at_call 27; with_reducible refine E2.mono ?_; rintro e w3 ⟨O3, rfl⟩)
      | fail)
    exact ⟨rfl, ((only_alloc _ _ _).trans HO2.out).trans O3, rfl⟩

theorem rvalue_any (rb : Nat) (t : Bool) (u : List UInt8) (w : World) (hu : u ≠ []) (hR : Rd w rb t u) (hl : u.length ≤ 140737488351232) :
    Calls Try.prog 23 #[.pointer (some ⟨rb, 0, none⟩)] w (valEnd rb t (valD u) w) := by
  cases u with
  | nil => exact absurd rfl hu
  | cons c u =>
    have hl' : u.length + 1 ≤ 140737488351232 := by simpa using hl
    have hm : u.length + 1 ≤ maxLen := by unfold maxLen; omega
    simp only [valD]
    by_cases h1 : c.toNat = 1
    · rw [if_pos h1]
      exact rvalue_null rb t c u w hR hm h1
    rw [if_neg h1]
    by_cases h2 : c.toNat = 2
    · rw [if_pos h2]
      cases u with
      | nil => exact rvalue_bool_none rb t c w hR h2
      | cons d u =>
        simp only []
        by_cases hd : 1 < d.toNat
        · rw [if_pos hd]
          exact rvalue_bool_bad rb t c d u w hR (by simpa using hm) h2 hd
        · rw [if_neg hd]
          exact rvalue_bool rb t c d u w hR (by simpa using hm) h2 (by omega)
    rw [if_neg h2]
    by_cases h3 : c.toNat = 3
    · rw [if_pos h3]
      by_cases h8 : u.length < 8
      · rw [if_pos h8]
        exact rvalue_int_none rb t c u w hR hm h3 h8
      · rw [if_neg h8]
        exact rvalue_int rb t c u w hR hm h3 (by omega)
    rw [if_neg h3]
    by_cases h4 : c.toNat = 4 ∨ c.toNat = 5
    · rw [if_pos h4]
      cases hx : textD u with
      | error n => exact rvalue_text_bad rb t c u w hR hl' h4 n hx
      | ok x =>
        obtain ⟨s, r⟩ := x
        exact rvalue_text rb t c u w hR hl' _ (by rcases h4 with h | h <;> rw [h] <;> simp) s r hx
    · rw [if_neg h4]
      exact rvalue_bad rb t c u w hR hm (by omega)
end Go.Proofs.Ytpdfgifkommpdab
