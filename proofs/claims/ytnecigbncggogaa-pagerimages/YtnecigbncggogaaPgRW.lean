/- What Read and Write of the project's pager do. Condition: fewer than a million writes are pending. -/
import Derived.Test.YtnecigbncggogaaPgOpen
namespace Go.Proofs.Ytnecigbncggogaa
open Go.RowKit
set_option linter.unusedVariables false
set_option maxRecDepth 20000
variable {s : Nat} {w0 w : World} {db : Nat} {d : Dk} {Z : Nat → Prop}

theorem DW.inbody (d : Dk) (n : Int) (w5 : World) : Calls Try.prog 57 #[.int .i64 n, .int .i64 (d.pages : Int)] w5 fun e w' => e = .returned (.bool (d.rangeErr n)) ∧ w' = w5 := inbody_any n (d.pages : Int) w5
theorem Dk.reach_in {d : Dk} {n : Int} (hr : d.rangeErr n = true) : d.reach n = if d.down then 9 else 0 := by
  simp only [Dk.rangeErr, decide_eq_true_eq] at hr
  unfold Dk.reach
  cases d.down
  · rw [if_neg (by decide), if_neg (by omega), if_neg (by decide)]
  · rfl
set_option maxHeartbeats 1000000 in
theorem pread_range (pb : Nat) (n : Int) (k : Pk) (h : DW s w0 w db d Z) (P : Pag w pb db k) (hr : d.rangeErr n = false) :
    Calls Try.prog 30 #[.pointer (some ⟨pb, 0, none⟩), .int .i64 n] w fun e w' => e = .returned (.tuple #[.slice none 0 0, .int .i64 2]) ∧ w' = w := by
  have C1 := hid (ppages_any pb k h P)
  have C2 := hid (DW.inbody d n)
  rw [hr] at C2
  clear h P
  go_enter Try.func30, Try.ntmps30
  go_wp2_with (first
    | (go_at_call 21; go_loud (with_reducible refine C1.out.mono ?_); rintro e w3 ⟨rfl, hw⟩; subst w3)
    | (go_at_call 57; go_loud (with_reducible refine (C2.out _).mono ?_); rintro e w3 ⟨rfl, hw⟩; subst w3)
    | fail)
  go_ret2
  exact ⟨rfl, rfl⟩
set_option maxHeartbeats 1000000 in
theorem pread_down (pb : Nat) (n : Int) (k : Pk) (h : DW s w0 w db d Z) (P : Pag w pb db k) (hr : d.rangeErr n = true) (hd : d.down = true) :
    Calls Try.prog 30 #[.pointer (some ⟨pb, 0, none⟩), .int .i64 n] w fun e w' => e = .returned (.tuple #[.slice none 0 0, .int .i64 9]) ∧ w' = w := by
  have C1 := hid (ppages_any pb k h P)
  have C2 := hid (DW.inbody d n)
  have e9 : d.reach n = 9 := by rw [Dk.reach_in hr, hd]; rfl
  have C3 := h.readBad n (by rw [e9]; decide)
  rw [e9] at C3
  have HC3 := hid C3
  rw [hr] at C2
  obtain ⟨p0, p1, p2, p3, pf⟩ := P.cells
  clear h P C3 e9
  go_enter Try.func30, Try.ntmps30
  go_wp2_with (first
    | (go_at_call 21; go_loud (with_reducible refine C1.out.mono ?_); rintro e w3 ⟨rfl, hw⟩; subst w3)
    | (go_at_call 57; go_loud (with_reducible refine (C2.out _).mono ?_); rintro e w3 ⟨rfl, hw⟩; subst w3)
    | (go_at_call 37; go_loud (with_reducible refine HC3.out.mono ?_); rintro e w3 ⟨rfl, hw⟩; subst w3)
    | fail)
  go_ret2
  exact ⟨rfl, rfl⟩
set_option maxHeartbeats 1000000 in
theorem pread_up (pb : Nat) (n : Int) (k : Pk) (h : DW s w0 w db d Z) (P : Pag w pb db k) (hr : d.rangeErr n = true) (hd : d.down = false) :
    Calls Try.prog 30 #[.pointer (some ⟨pb, 0, none⟩), .int .i64 n] w fun e w' => Below w.heap.size w w' ∧ (right (d.has n) = false → e = .returned (.tuple #[.slice none 0 0, .int .i64 10])) ∧ (right (d.has n) = true → ∃ g, w.heap.size ≤ g ∧ e = .returned (.tuple #[.slice (some ⟨g, 0, none⟩) 508 508, .int .i64 0]) ∧ Byts w' (some ⟨g, 0, none⟩) ((d.has n).take 508)) := by
  have C1 := hid (ppages_any pb k h P)
  have C2 := hid (DW.inbody d n)
  have e0 : d.reach n = 0 := by rw [Dk.reach_in hr, hd]; rfl
  have C3 := hid (h.read n e0)
  rw [hr] at C2
  have hln := h.okk.has n
  have C4 : Hid (∀ (w5 : World) (g : Nat), Byts w5 (some ⟨g, 0, none⟩) (d.has n) → Calls Try.prog 58 #[.slice (some ⟨g, 0, none⟩) 508 508] w5 fun e w' => ∃ q, e = .returned (.slice (some ⟨q, 0, none⟩) 512 512) ∧ Blk w' q (bcells (sealed ((d.has n).take 508))) 5 ∧ Below w5.heap.size w5 w' ∧ w5.heap.size ≤ q) := fun w5 g b5 =>
    sealed_ex g 0 508 ((d.has n).take 508) w5 (by rw [List.length_take]; omega) (by simpa using b5.cut 0 508)
  have C5 : Hid (∀ (w5 : World) (q g : Nat), Blk w5 q (bcells (sealed ((d.has n).take 508))) 5 → Byts w5 (some ⟨g, 0, none⟩) (d.has n) → Calls Try.prog 64 #[.slice (some ⟨q, 0, none⟩) 512 512, .slice (some ⟨g, 0, none⟩) 512 512] w5 fun e w' => e = .returned (.bool (right (d.has n))) ∧ w' = w5) := fun w5 q g b5 c5 => by
    have := equal_any (some ⟨q, 0, none⟩) (some ⟨g, 0, none⟩) (sealed ((d.has n).take 508)) (d.has n) 512 512 w5 b5.byts' c5
    rwa [sealed_len, show ((d.has n).take 508).length + 4 = 512 by rw [List.length_take]; omega, hln] at this
  have HY : Hid (∀ (w5 : World) (g : Nat), Byts w5 (some ⟨g, 0, none⟩) (d.has n) → Byts w5 (some ⟨g, 0, none⟩) ((d.has n).take 508)) := fun w5 g b5 => by simpa using b5.cut 0 508
  obtain ⟨p0, p1, p2, p3, pf⟩ := P.cells
  clear h P hln e0
  generalize d.has n = b at *
  cases hR : right b
  · rw [hR] at C5
    go_enter Try.func30, Try.ntmps30
    go_wp2_with (first
      | (go_at_call 21; go_loud (with_reducible refine C1.out.mono ?_); rintro e w3 ⟨rfl, hw⟩; subst w3)
      | (go_at_call 57; go_loud (with_reducible refine (C2.out _).mono ?_); rintro e w3 ⟨rfl, hw⟩; subst w3)
      | (go_at_call 37; go_loud (with_reducible refine C3.out.mono ?_); rintro e w3 ⟨rfl, G3, L3, S3⟩; have HG3 := hid G3.blk.byts'; have HL3 := hid L3; clear G3 L3 S3)
      | (go_at_call 58; go_loud (with_reducible refine (C4.out _ _ HG3.out).mono ?_); rintro e w4 ⟨q, rfl, B4, L4, Q4⟩; have HB4 := hid B4; have HG4 := hid (HG3.out.below L4); have HL4 := hid (HL3.out.trans (L4.mono HL3.out.size)); clear B4 L4 Q4)
      | (go_at_call 64; go_loud (with_reducible refine (C5.out _ _ _ HB4.out HG4.out).mono ?_); rintro e w5 ⟨rfl, hw⟩; subst w5)
      | fail)
    go_ret2
    exact ⟨HL4.out, fun _ => rfl, fun q => by cases q⟩
  · rw [hR] at C5
    go_enter Try.func30, Try.ntmps30
    go_wp2_with (first
      | (go_at_call 21; go_loud (with_reducible refine C1.out.mono ?_); rintro e w3 ⟨rfl, hw⟩; subst w3)
      | (go_at_call 57; go_loud (with_reducible refine (C2.out _).mono ?_); rintro e w3 ⟨rfl, hw⟩; subst w3)
      | (go_at_call 37; go_loud (with_reducible refine C3.out.mono ?_); rintro e w3 ⟨rfl, G3, L3, S3⟩; have HG3 := hid G3.blk.byts'; have HL3 := hid L3; clear G3 L3 S3)
      | (go_at_call 58; go_loud (with_reducible refine (C4.out _ _ HG3.out).mono ?_); rintro e w4 ⟨q, rfl, B4, L4, Q4⟩; have HB4 := hid B4; have HG4 := hid (HG3.out.below L4); have HL4 := hid (HL3.out.trans (L4.mono HL3.out.size)); clear B4 L4 Q4)
      | (go_at_call 64; go_loud (with_reducible refine (C5.out _ _ _ HB4.out HG4.out).mono ?_); rintro e w5 ⟨rfl, hw⟩; subst w5)
      | fail)
    go_ret2
    exact ⟨HL4.out, (fun q => by cases q), fun _ => ⟨_, by omega, rfl, HY.out _ _ HG4.out⟩⟩
theorem DW.pread (pb : Nat) (n : Int) (k : Pk) (h : DW s w0 w db d Z) (P : Pag w pb db k) :
    Calls Try.prog 30 #[.pointer (some ⟨pb, 0, none⟩), .int .i64 n] w fun e w' => Below w.heap.size w w' ∧ (d.rdErr n ≠ 0 → e = .returned (.tuple #[.slice none 0 0, .int .i64 (d.rdErr n)])) ∧ (d.rdErr n = 0 → ∃ g, w.heap.size ≤ g ∧ e = .returned (.tuple #[.slice (some ⟨g, 0, none⟩) 508 508, .int .i64 0]) ∧ Byts w' (some ⟨g, 0, none⟩) ((d.has n).take 508)) := by
  unfold Dk.rdErr
  cases hr : d.rangeErr n
  · rw [if_pos rfl]
    refine (pread_range pb n k h P hr).mono ?_
    rintro e w' ⟨he, rfl⟩
    exact ⟨Below.refl _ _, fun _ => he, fun q => by cases q⟩
  · rw [if_neg (by decide)]
    cases hd : d.down
    · rw [if_neg (by decide)]
      refine (pread_up pb n k h P hr hd).mono ?_
      rintro e w' ⟨B, h1, h2⟩
      cases hR : right (d.has n)
      · rw [if_pos rfl]
        exact ⟨B, fun _ => h1 hR, fun q => by cases q⟩
      · rw [if_neg (by decide)]
        exact ⟨B, fun q => absurd rfl q, fun _ => h2 hR⟩
    · rw [if_pos rfl]
      refine (pread_down pb n k h P hr hd).mono ?_
      rintro e w' ⟨he, rfl⟩
      exact ⟨Below.refl _ _, fun _ => he, fun q => by cases q⟩
/-! ### Write -/
set_option maxHeartbeats 1000000 in
theorem pwrite_range (pb : Nat) (n : Int) (v : Value) (k : Pk) (h : DW s w0 w db d Z) (P : Pag w pb db k) (hr : d.rangeErr n = false) :
    Calls Try.prog 25 #[.pointer (some ⟨pb, 0, none⟩), .int .i64 n, v] w fun e w' => e = .returned (.int .i64 2) ∧ w' = w := by
  have C1 := hid (ppages_any pb k h P)
  have C2 := hid (DW.inbody d n)
  rw [hr] at C2
  clear h P
  go_enter Try.func25, Try.ntmps25
  go_wp2_with (first
    | (go_at_call 21; go_loud (with_reducible refine C1.out.mono ?_); rintro e w3 ⟨rfl, hw⟩; subst w3)
    | (go_at_call 57; go_loud (with_reducible refine (C2.out _).mono ?_); rintro e w3 ⟨rfl, hw⟩; subst w3)
    | fail)
  go_ret
  exact ⟨rfl, rfl⟩
set_option maxHeartbeats 1000000 in
theorem pwrite_len (pb : Nat) (n : Int) (sp : Option Addr) (m c : Nat) (k : Pk) (h : DW s w0 w db d Z) (P : Pag w pb db k) (hr : d.rangeErr n = true) (hm : m ≠ 508) :
    Calls Try.prog 25 #[.pointer (some ⟨pb, 0, none⟩), .int .i64 n, .slice sp m c] w fun e w' => e = .returned (.int .i64 3) ∧ w' = w := by
  have C1 := hid (ppages_any pb k h P)
  have C2 := hid (DW.inbody d n)
  rw [hr] at C2
  have hm1 : ((m : Int) == 508) = false := by simp; omega
  have hm2 : ¬ ((m : Int) = 508) := by omega
  clear h P hm
  go_enter Try.func25, Try.ntmps25
  go_wp2_with (first
    | (go_at_call 21; go_loud (with_reducible refine C1.out.mono ?_); rintro e w3 ⟨rfl, hw⟩; subst w3)
    | (go_at_call 57; go_loud (with_reducible refine (C2.out _).mono ?_); rintro e w3 ⟨rfl, hw⟩; subst w3)
    | fail)
  go_ret
  exact ⟨rfl, rfl⟩
set_option maxHeartbeats 1000000 in
theorem pwrite_ok (pb : Nat) (n : Int) (g off c : Nat) (b : List UInt8) (k : Pk) (h : DW s w0 w db d Z) (P : Pag w pb db k) (hz : Z pb) (hr : d.rangeErr n = true) (hb : b.length = 508) (hy : Byts w (some ⟨g, off, none⟩) b) (hm : d.pend.length < 1000000) :
    Calls Try.prog 25 #[.pointer (some ⟨pb, 0, none⟩), .int .i64 n, .slice (some ⟨g, off, none⟩) 508 c] w fun e w' => e = .returned (.int .i64 (d.wrErr n (sealed b))) ∧ DW s w0 w' db (d.wr n (sealed b)) Z ∧ Kept (old s Z) w w' := by
  have C1 := hid (ppages_any pb k h P)
  have C2 := hid (DW.inbody d n)
  rw [hr] at C2
  obtain ⟨p0, p1, p2, p3, pf⟩ := P.cells
  have C3 := hid (sealed_ex g off c b w.drew hb hy.drew)
  have HH := hid h
  have HP := hid P
  have hdl := h.dlt
  have hzz := hid hz
  have C4 : Hid (∀ (w5 : World) (q : Nat), DW s w0 w5 db d Z → Blk w5 q (bcells (sealed b)) 5 → w.heap.size ≤ q → Calls Try.prog 38 #[.pointer (some ⟨db, 0, none⟩), .int .i64 n, .slice (some ⟨q, 0, none⟩) 512 512] w5 fun e w' => e = .returned (.int .i64 (d.wrErr n (sealed b))) ∧ DW s w0 w' db (d.wr n (sealed b)) Z ∧ Kept (old s Z) w5 w') := fun w5 q h5 b5 hq => by
    have := h5.write n (some ⟨q, 0, none⟩) (sealed b) 512 b5.byts' (fun g off e => by simp only [Option.some.injEq, Addr.mk.injEq, and_true] at e; rw [← e.1]; exact Or.inr (Or.inr (by omega))) hm
    rwa [sealed_len, hb] at this
  clear h P hb hy hz
  go_enter Try.func25, Try.ntmps25
  go_wp2_with (first
    | (go_at_call 21; go_loud (with_reducible refine C1.out.mono ?_); rintro e w3 ⟨rfl, hw⟩; subst w3)
    | (go_at_call 57; go_loud (with_reducible refine (C2.out _).mono ?_); rintro e w3 ⟨rfl, hw⟩; subst w3)
    | fail)
  go_region_held_law (fun w' => w'.cell? ⟨pb, 0, none⟩ = some (.pointer (some ⟨db, 0, none⟩))) (first | exact p0 | exact HP5.out.cells.1 | exact HP4.out.cells.1)
    (first
      | (go_at_call 58; go_loud (with_reducible refine C3.out.mono ?_); rintro e w4 ⟨q, rfl, B4, L4, Q4⟩; have HB4 := hid B4; have HL4 : Hid (Below w.heap.size w w4) := (Below.refl _ _).drew.trans L4; have HQ4 : Hid (w.heap.size ≤ q) := Q4; have HD4 := hid (HH.out.grow HL4.out); have HP4 := hid (HP.out.below HL4.out); clear B4 L4 Q4)
      | (go_at_call 38; go_loud (with_reducible refine (C4.out _ q HD4.out HB4.out HQ4.out).mono ?_); rintro e w5 ⟨rfl, D5, K5⟩; have HD5 := hid D5; have HP5 := hid (HP4.out.kept K5 (Or.inr hzz.out)); have HK5 := hid ((HH.out.kgrow HL4.out).trans K5); clear D5 K5)
      | fail)
  all_goals go_wp2
  all_goals go_ret
  all_goals exact ⟨rfl, HD5.out, HK5.out⟩
theorem DW.pwrite (pb : Nat) (n : Int) (sp : Option Addr) (c : Nat) (b : List UInt8) (k : Pk) (h : DW s w0 w db d Z) (P : Pag w pb db k) (hz : Z pb) (hy : Byts w sp b) (hm : d.pend.length < 1000000) :
    Calls Try.prog 25 #[.pointer (some ⟨pb, 0, none⟩), .int .i64 n, .slice sp b.length c] w fun e w' => e = .returned (.int .i64 (d.pwErr n b)) ∧ DW s w0 w' db (d.pw n b) Z ∧ Kept (old s Z) w w' := by
  unfold Dk.pwErr Dk.pw
  cases hr : d.rangeErr n
  · simp only [if_true]
    refine (pwrite_range pb n _ k h P hr).mono ?_
    rintro e w' ⟨he, rfl⟩
    exact ⟨he, h, Kept.refl _ _⟩
  · simp only [Bool.true_eq_false, if_false]
    by_cases hb : b.length = 508
    · obtain ⟨g, off, rfl, hc⟩ := hy.resolve_left (by rintro rfl; simp at hb)
      simp only [hb, ne_eq, not_true_eq_false, if_false]
      exact pwrite_ok pb n g off c b k h P hz hr hb (Or.inr ⟨g, off, rfl, hc⟩) hm
    · simp only [hb, ne_eq, not_false_eq_true, if_true]
      refine (pwrite_len pb n sp b.length c k h P hr hb).mono ?_
      rintro e w' ⟨he, rfl⟩
      exact ⟨he, h, Kept.refl _ _⟩
end Go.Proofs.Ytnecigbncggogaa
