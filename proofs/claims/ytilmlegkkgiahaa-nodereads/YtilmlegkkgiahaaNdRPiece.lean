/- What the document's Piece does. Condition: the bytes lie within the reach. -/
import Derived.Test.YtilmlegkkgiahaaNdPiece
import Derived.Test.YtilmlegkkgiahaaNdGrow
namespace Go.Proofs.Ytilmlegkkgiahaa
open Go.RowKit Go.Lib
set_option linter.unusedVariables false
set_option maxRecDepth 20000

set_option maxHeartbeats 2000000 in
theorem rpiece_page {F : Nat → Prop} (p : Option Addr) (d A B : List UInt8) (c : Nat) (next : Int) (w : World) (h : BV w F (.slice p d.length c) d) (h1 : 1 ≤ d.length) (h2 : d.length ≤ 503) (hA : A.length = 2) (hB : B.length = 2) (h4 : next ≠ 0) (hp : isPage next = true)
    (T1 : ∀ w1 v1 l1, RS (w.alloc (.cells #[.int .u8 3] 5)) (.slice (some ⟨w.heap.size, 0, none⟩) 1 1) w.heap.size (.slice p d.length c) d w1 v1 l1 → Calls Try.prog 28 #[.int .i64 next] w1 fun e w' => ∃ vt, e = .returned vt ∧ RS (w.alloc (.cells #[.int .u8 3] 5)) (.slice (some ⟨w.heap.size, 0, none⟩) 1 1) w.heap.size (.slice p d.length c) d w' v1 l1 ∧ BV w' (own' w.heap.size v1) vt A ∧ Below w1.heap.size w1 w')
    (T2 : ∀ w1 v1 l1, RS (w.alloc (.cells #[.int .u8 3] 5)) (.slice (some ⟨w.heap.size, 0, none⟩) 1 1) w.heap.size (.slice p d.length c) d w1 v1 l1 → Calls Try.prog 28 #[.int .i64 (d.length : Int)] w1 fun e w' => ∃ vt, e = .returned vt ∧ RS (w.alloc (.cells #[.int .u8 3] 5)) (.slice (some ⟨w.heap.size, 0, none⟩) 1 1) w.heap.size (.slice p d.length c) d w' v1 l1 ∧ BV w' (own' w.heap.size v1) vt B ∧ Below w1.heap.size w1 w') :
    Calls Try.prog 24 #[.slice p d.length c, .int .i64 next] w fun e w' => Below w.heap.size w w' ∧ ∃ v, e = .returned (.tuple #[v, .int .i64 0]) ∧ OwnB w' w.heap.size v (padTo 508 ([3] ++ A ++ B ++ d)) := by
  have HB0 := hid (alloc_below w (.cells #[.int .u8 3] 5))
  have R0 := RS.start (kv := .slice p d.length c) (key := d) (own_lits w w.heap.size (Nat.le_refl _) [3] #[.int .u8 3] (by simp [bcells]) (by unfold maxLen; simp)) ((h.old.below HB0.out).mono (fun k hk hF => by simp only [Value.ownBlock, ne_eq, Option.some.injEq]; omega)) HB0.out.size
  replace T1 := hid T1
  replace T2 := hid T2
  have HBs := hid HB0.out.size
  have HBo : Hid (∀ k, (Value.slice (some ⟨w.heap.size, 0, none⟩) 1 1).ownBlock = some k → w.heap.size ≤ k) := fun k hk => by simp only [Value.ownBlock, Option.some.injEq] at hk; omega
  have HN3 : Hid (([3] ++ A : List UInt8).length = 3) := by show _ = _; simp [hA]
  have HN5 : Hid (([3] ++ A ++ B : List UInt8).length = 5) := by show _ = _; simp [hA, hB]
  have HN6 : Hid (([3] ++ A ++ B ++ d : List UInt8).length = 5 + d.length) := by show _ = _; simp [hA, hB]; omega
  have HL1 : Hid (([3] : List UInt8).length + A.length ≤ 1000000) := by show _ ≤ _; simp [hA]
  have HL2 : Hid (([3] ++ A : List UInt8).length + B.length ≤ 1000000) := by show _ ≤ _; rw [HN3.out, hB]; omega
  have HL3 : Hid (([3] ++ A ++ B : List UInt8).length + d.length ≤ 1000000) := by show _ ≤ _; rw [HN5.out]; omega
  have HL7 : Hid (([3] ++ A ++ B ++ d : List UInt8).length ≤ 1000000) := by show _ ≤ _; rw [HN6.out]; omega
  have HPg := hid (rpage_any next w)
  rw [hp] at HPg
  clear hp
  have g1 : ¬ ((d.length : Int) < 1) := by omega
  have g2 : ¬ ((d.length : Int) > 503) := by omega
  clear h hA hB
  go_enter Try.func24, Try.ntmps24
  go_wp2_with (first
    | (go_at_call 47; with_reducible refine HPg.out.mono ?_; rintro e w9 ⟨rfl, hw⟩; subst w9)
    | (go_at_call 28; with_reducible refine (T1.out _ _ _ R0).mono ?_; rintro e w2 ⟨vt, rfl, R2, X2, _⟩; clear R0 T1)
    | (at_builtin; refine RS.plain R2 X2 rfl rfl rfl rfl HL1.out ?_; intro v3 w3 R3; obtain ⟨p3, c3, hv3⟩ := R3.own.formN 3 HN3.out; subst hv3; clear R2 X2)
    | (go_at_call 28; with_reducible refine (T2.out _ _ _ R3).mono ?_; rintro e w4 ⟨vu, rfl, R4, X4, _⟩; clear R3 T2)
    | (at_builtin; refine RS.plain R4 X4 rfl rfl rfl rfl HL2.out ?_; intro v5 w5 R5; obtain ⟨p5, c5, hv5⟩ := R5.own.formN 5 HN5.out; subst hv5; clear R4 X4)
    | (at_builtin; refine RS.plain R5 R5.key rfl rfl rfl rfl HL3.out ?_; intro v6 w6 R6; obtain ⟨p6, c6, hv6⟩ := R6.own.formN (5 + d.length) HN6.out; subst hv6; have HB6 := hid (HB0.out.trans (R6.under HBs.out HBo.out)); have AP := hid (pad_any w.heap.size _ _ w6 R6.own HL7.out HB6.out.size); clear R5 R6)
    | (go_at_call 29; go_loud (with_reducible refine AP.out.mono ?_); rintro e w7 ⟨v7, rfl, o7, b7⟩; have HO7 := hid o7; have HB7 := hid (HB6.out.trans b7); clear o7 b7)
    | fail)
  go_ret2
  exact ⟨HB7.out, v7, rfl, HO7.out⟩

set_option maxHeartbeats 2000000 in
theorem rpiece_last {F : Nat → Prop} (p : Option Addr) (d A B : List UInt8) (c : Nat) (next : Int) (w : World) (h : BV w F (.slice p d.length c) d) (h1 : 1 ≤ d.length) (h2 : d.length ≤ 503) (hA : A.length = 2) (hB : B.length = 2) 
    (T1 : ∀ w1 v1 l1, RS (w.alloc (.cells #[.int .u8 3] 5)) (.slice (some ⟨w.heap.size, 0, none⟩) 1 1) w.heap.size (.slice p d.length c) d w1 v1 l1 → Calls Try.prog 28 #[.int .i64 0] w1 fun e w' => ∃ vt, e = .returned vt ∧ RS (w.alloc (.cells #[.int .u8 3] 5)) (.slice (some ⟨w.heap.size, 0, none⟩) 1 1) w.heap.size (.slice p d.length c) d w' v1 l1 ∧ BV w' (own' w.heap.size v1) vt A ∧ Below w1.heap.size w1 w')
    (T2 : ∀ w1 v1 l1, RS (w.alloc (.cells #[.int .u8 3] 5)) (.slice (some ⟨w.heap.size, 0, none⟩) 1 1) w.heap.size (.slice p d.length c) d w1 v1 l1 → Calls Try.prog 28 #[.int .i64 (d.length : Int)] w1 fun e w' => ∃ vt, e = .returned vt ∧ RS (w.alloc (.cells #[.int .u8 3] 5)) (.slice (some ⟨w.heap.size, 0, none⟩) 1 1) w.heap.size (.slice p d.length c) d w' v1 l1 ∧ BV w' (own' w.heap.size v1) vt B ∧ Below w1.heap.size w1 w') :
    Calls Try.prog 24 #[.slice p d.length c, .int .i64 0] w fun e w' => Below w.heap.size w w' ∧ ∃ v, e = .returned (.tuple #[v, .int .i64 0]) ∧ OwnB w' w.heap.size v (padTo 508 ([3] ++ A ++ B ++ d)) := by
  have HB0 := hid (alloc_below w (.cells #[.int .u8 3] 5))
  have R0 := RS.start (kv := .slice p d.length c) (key := d) (own_lits w w.heap.size (Nat.le_refl _) [3] #[.int .u8 3] (by simp [bcells]) (by unfold maxLen; simp)) ((h.old.below HB0.out).mono (fun k hk hF => by simp only [Value.ownBlock, ne_eq, Option.some.injEq]; omega)) HB0.out.size
  replace T1 := hid T1
  replace T2 := hid T2
  have HBs := hid HB0.out.size
  have HBo : Hid (∀ k, (Value.slice (some ⟨w.heap.size, 0, none⟩) 1 1).ownBlock = some k → w.heap.size ≤ k) := fun k hk => by simp only [Value.ownBlock, Option.some.injEq] at hk; omega
  have HN3 : Hid (([3] ++ A : List UInt8).length = 3) := by show _ = _; simp [hA]
  have HN5 : Hid (([3] ++ A ++ B : List UInt8).length = 5) := by show _ = _; simp [hA, hB]
  have HN6 : Hid (([3] ++ A ++ B ++ d : List UInt8).length = 5 + d.length) := by show _ = _; simp [hA, hB]; omega
  have HL1 : Hid (([3] : List UInt8).length + A.length ≤ 1000000) := by show _ ≤ _; simp [hA]
  have HL2 : Hid (([3] ++ A : List UInt8).length + B.length ≤ 1000000) := by show _ ≤ _; rw [HN3.out, hB]; omega
  have HL3 : Hid (([3] ++ A ++ B : List UInt8).length + d.length ≤ 1000000) := by show _ ≤ _; rw [HN5.out]; omega
  have HL7 : Hid (([3] ++ A ++ B ++ d : List UInt8).length ≤ 1000000) := by show _ ≤ _; rw [HN6.out]; omega
  have g1 : ¬ ((d.length : Int) < 1) := by omega
  have g2 : ¬ ((d.length : Int) > 503) := by omega
  clear h hA hB
  go_enter Try.func24, Try.ntmps24
  go_wp2_with (first
    | (go_at_call 28; with_reducible refine (T1.out _ _ _ R0).mono ?_; rintro e w2 ⟨vt, rfl, R2, X2, _⟩; clear R0 T1)
    | (at_builtin; refine RS.plain R2 X2 rfl rfl rfl rfl HL1.out ?_; intro v3 w3 R3; obtain ⟨p3, c3, hv3⟩ := R3.own.formN 3 HN3.out; subst hv3; clear R2 X2)
    | (go_at_call 28; with_reducible refine (T2.out _ _ _ R3).mono ?_; rintro e w4 ⟨vu, rfl, R4, X4, _⟩; clear R3 T2)
    | (at_builtin; refine RS.plain R4 X4 rfl rfl rfl rfl HL2.out ?_; intro v5 w5 R5; obtain ⟨p5, c5, hv5⟩ := R5.own.formN 5 HN5.out; subst hv5; clear R4 X4)
    | (at_builtin; refine RS.plain R5 R5.key rfl rfl rfl rfl HL3.out ?_; intro v6 w6 R6; obtain ⟨p6, c6, hv6⟩ := R6.own.formN (5 + d.length) HN6.out; subst hv6; have HB6 := hid (HB0.out.trans (R6.under HBs.out HBo.out)); have AP := hid (pad_any w.heap.size _ _ w6 R6.own HL7.out HB6.out.size); clear R5 R6)
    | (go_at_call 29; go_loud (with_reducible refine AP.out.mono ?_); rintro e w7 ⟨v7, rfl, o7, b7⟩; have HO7 := hid o7; have HB7 := hid (HB6.out.trans b7); clear o7 b7)
    | fail)
  go_ret2
  exact ⟨HB7.out, v7, rfl, HO7.out⟩

set_option maxHeartbeats 1000000 in
theorem rpiece_any {F : Nat → Prop} (p : Option Addr) (d : List UInt8) (c : Nat) (next : Int) (w : World) (h : BV w F (.slice p d.length c) d) :
    Calls Try.prog 24 #[.slice p d.length c, .int .i64 next] w (peEnd d next w) := by
  have HQ0 : Hid (pieceOk d next = (decide (1 ≤ d.length) && (decide (d.length ≤ 503) && (decide (next = 0) || isPage next)))) := rfl
  have HPg := hid (rpage_any next w)
  by_cases h1 : 1 ≤ d.length
  · by_cases h2 : d.length ≤ 503
    · by_cases h3 : next = 0 ∨ isPage next = true
      · have HQ : pieceOk d next = true := by rw [HQ0.out, decide_eq_true h1, decide_eq_true h2]; rcases h3 with h3 | h3 <;> simp [h3]
        obtain ⟨_, _, hn1, hn2⟩ := piece_parts HQ
        obtain ⟨N, hN⟩ : ∃ N : Nat, next = (N : Int) := ⟨next.toNat, by omega⟩
        have HP : piece d next = padTo 508 ([3] ++ le2 N ++ le2 d.length ++ d) := by rw [hN]; unfold piece; simp [List.append_assoc]
        by_cases h4 : next = 0
        · have X := rpiece_last p d (le2 N) (le2 d.length) c 0 w h h1 h2 rfl rfl (fun w1 v1 l1 R => by have := R.two N (by omega); rw [← hN, h4] at this; exact this) (fun w1 v1 l1 R => R.two d.length (by omega))
          refine Calls.mono (R := fun e w' => Below w.heap.size w w' ∧ ∃ v, e = .returned (.tuple #[v, .int .i64 0]) ∧ OwnB w' w.heap.size v (padTo 508 ([3] ++ le2 N ++ le2 d.length ++ d))) (by rw [h4]; exact X) ?_
          rintro e w' ⟨B, v, he, O⟩
          exact ⟨B, Or.inl ⟨HQ, v, he, by rw [HP]; exact O⟩⟩
        · refine Calls.mono (rpiece_page p d (le2 N) (le2 d.length) c next w h h1 h2 rfl rfl h4 (by rcases h3 with h3 | h3; exact absurd h3 h4; exact h3) (fun w1 v1 l1 R => by have := R.two N (by omega); rw [← hN] at this; exact this) (fun w1 v1 l1 R => R.two d.length (by omega))) ?_
          rintro e w' ⟨B, v, he, O⟩
          exact ⟨B, Or.inl ⟨HQ, v, he, by rw [HP]; exact O⟩⟩
      · unfold peEnd
        have HQ : Hid (pieceOk d next = false) := by show _ = _; rw [HQ0.out]; simp only [not_or, Bool.not_eq_true] at h3; simp [h3.1, h3.2]
        simp only [not_or, Bool.not_eq_true] at h3
        rw [h3.2] at HPg
        have h4 := h3.1
        obtain ⟨hd, _⟩ := h.len
        clear h3 h
        have g1 : ¬ ((d.length : Int) < 1) := by omega
        have g2 : ¬ ((d.length : Int) > 503) := by omega
        go_enter Try.func24, Try.ntmps24
        go_wp2_with (first
          | (go_at_call 47; with_reducible refine HPg.out.mono ?_; rintro e w9 ⟨rfl, hw⟩; subst w9)
          | fail)
        go_ret2
        exact ⟨Below.refl _ _, Or.inr ⟨HQ.out, rfl⟩⟩
    · unfold peEnd
      have HQ : Hid (pieceOk d next = false) := by show _ = _; rw [HQ0.out, decide_eq_false h2]; simp
      obtain ⟨hd, _⟩ := h.len
      clear HPg h
      go_enter Try.func24, Try.ntmps24
      go_wp2
      go_ret2
      exact ⟨Below.refl _ _, Or.inr ⟨HQ.out, rfl⟩⟩
  · unfold peEnd
    have HQ : Hid (pieceOk d next = false) := by show _ = _; rw [HQ0.out, decide_eq_false h1]; simp
    obtain ⟨hd, _⟩ := h.len
    clear HPg h
    go_enter Try.func24, Try.ntmps24
    go_wp2
    go_ret2
    exact ⟨Below.refl _ _, Or.inr ⟨HQ.out, rfl⟩⟩
end Go.Proofs.Ytilmlegkkgiahaa
