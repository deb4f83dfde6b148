/- What the document's Read, Write and Commit do. Condition: fewer than a million writes are pending. -/
import Derived.Test.YtnecigbncggogaaPgRefF
namespace Go.Proofs.Ytnecigbncggogaa
open Go.RowKit
set_option linter.unusedVariables false
set_option maxRecDepth 20000
variable {s : Nat} {w0 w : World} {rb : Nat} {r : Dk} {Z : Nat → Prop}

theorem reach_in5 {d : Dk} {n : Int} (hr : d.rangeErr n = true) : d.reach n = if d.down then 9 else 0 := by
  simp only [Dk.rangeErr, decide_eq_true_eq] at hr
  unfold Dk.reach
  cases d.down
  · rw [if_neg (by decide), if_neg (by omega), if_neg (by decide)]
  · rfl
set_option maxHeartbeats 1000000 in
theorem dread_range (qb : Nat) (n : Int) (k : Pk) (h : RW s w0 w rb r Z) (P : Rag w qb rb k) (hr : r.rangeErr n = false) :
    Calls Try.prog 36 #[.pointer (some ⟨qb, 0, none⟩), .int .i64 n] w fun e w' => e = .returned (.tuple #[.slice none 0 0, .int .i64 2]) ∧ w' = w := by
  have C1 := hid (dochas_any qb n k h P)
  rw [hr] at C1
  clear h P
  go_enter Try.func36, Try.ntmps36
  go_wp2_with (first
    | (go_at_call 69; go_loud (with_reducible refine C1.out.mono ?_); rintro e w3 ⟨rfl, hw⟩; subst w3)
    | fail)
  go_ret2
  exact ⟨rfl, rfl⟩
set_option maxHeartbeats 1000000 in
theorem dread_down (qb : Nat) (n : Int) (k : Pk) (h : RW s w0 w rb r Z) (P : Rag w qb rb k) (hr : r.rangeErr n = true) (hd : r.down = true) :
    Calls Try.prog 36 #[.pointer (some ⟨qb, 0, none⟩), .int .i64 n] w fun e w' => e = .returned (.tuple #[.slice none 0 0, .int .i64 9]) ∧ w' = w := by
  have C1 := hid (dochas_any qb n k h P)
  rw [hr] at C1
  have e9 : r.reach n = 9 := by rw [reach_in5 hr, hd]; rfl
  have C3 := h.readBad n (by rw [e9]; decide)
  rw [e9] at C3
  have HC3 := hid C3
  obtain ⟨p0, p1, p2, p3, pf⟩ := P.cells
  clear h P C3 e9
  go_enter Try.func36, Try.ntmps36
  go_wp2_with (first
    | (go_at_call 69; go_loud (with_reducible refine C1.out.mono ?_); rintro e w3 ⟨rfl, hw⟩; subst w3)
    | (go_at_call 67; go_loud (with_reducible refine HC3.out.mono ?_); rintro e w3 ⟨rfl, hw⟩; subst w3)
    | fail)
  go_ret2
  exact ⟨rfl, rfl⟩
set_option maxHeartbeats 2000000 in
theorem dread_up (qb : Nat) (n : Int) (k : Pk) (h : RW s w0 w rb r Z) (P : Rag w qb rb k) (hr : r.rangeErr n = true) (hd : r.down = false) (hm : r.pend.length < 1000000) :
    Calls Try.prog 36 #[.pointer (some ⟨qb, 0, none⟩), .int .i64 n] w fun e w' => Below w.heap.size w w' ∧ (right (r.has n) = false → e = .returned (.tuple #[.slice none 0 0, .int .i64 10])) ∧ (right (r.has n) = true → ∃ g c, e = .returned (.tuple #[.slice (some ⟨g, 0, none⟩) 508 c, .int .i64 0]) ∧ Byts w' (some ⟨g, 0, none⟩) ((r.has n).take 508)) := by
  have C1 := hid (dochas_any qb n k h P)
  rw [hr] at C1
  have e0 : r.reach n = 0 := by rw [reach_in5 hr, hd]; rfl
  have C3 := hid (h.read n e0 hm)
  have hln := h.okk.has n
  have CP : Hid (∀ (w5 : World) (g c : Nat), Byts w5 (some ⟨g, 0, none⟩) (r.has n) → Calls Try.prog 31 #[.slice (some ⟨g, 0, none⟩) 508 c] w5 fun e w' => ∃ q cq, e = .returned (.slice (some ⟨q, 0, none⟩) 512 cq) ∧ (convert 22 9 (.slice (some ⟨q, 0, none⟩) 512 cq)).run Try.prog w' = .ok (.string ⟨(sealed ((r.has n).take 508)).toArray⟩) w' ∧ Below w5.heap.size w5 w') := fun w5 g c y => rpage_ex g c (r.has n) w5 hln y
  have HCV : Hid (∀ (w5 : World) (g c : Nat), Byts w5 (some ⟨g, 0, none⟩) (r.has n) → (convert 22 9 (.slice (some ⟨g, 0, none⟩) 512 c)).run Try.prog w5 = .ok (.string ⟨(r.has n).toArray⟩) w5) := fun w5 g c y => by
    have := conv_byts c y
    rwa [hln] at this
  have HRt : Hid (right (r.has n) = (sealed ((r.has n).take 508) == r.has n)) := rfl
  obtain ⟨p0, p1, p2, p3, pf⟩ := P.cells
  clear h P hln e0
  generalize r.has n = b at *
  generalize sealed (b.take 508) = X at *
  cases hR : right b
  · have hne : (b == X) = false := by
      have := HRt.out
      rw [hR] at this
      rw [beq_eq_false_iff_ne]
      intro e
      rw [e] at this
      simp at this
    go_enter Try.func36, Try.ntmps36
    go_wp2_with (first
      | (go_at_call 69; go_loud (with_reducible refine C1.out.mono ?_); rintro e w3 ⟨rfl, hw⟩; subst w3)
      | (go_at_call 67; go_loud (with_reducible refine C3.out.mono ?_); rintro e w3 ⟨g, c, rfl, Y3, L3, B3⟩; have HY3 := hid Y3; have HB3 := hid B3; have v3 := HCV.out w3.drew g c Y3.drew; have HC4 := hid (CP.out w3.drew g c Y3.drew); clear Y3 B3)
      | fail)
    have hc5 : (508 : Int) ≤ (c : Int) := by omega
    have hc8 : 508 ≤ c := by omega
    go_region_held_law (fun w' => (convert 22 9 (.slice (some ⟨g, 0, none⟩) 512 c)).run Try.prog w' = .ok (.string ⟨b.toArray⟩) w') (first | exact v3 | exact HV4.out)
      (first
        | (go_at_call 31; go_loud (with_reducible refine HC4.out.mono ?_); rintro e w4 ⟨q, cq, rfl, u4, B4⟩; have HB4 : Hid (Below w.heap.size w w4) := HB3.out.trans (((Below.refl _ _).drew.trans B4).mono HB3.out.size); have HV4 := hid (HCV.out w4 g c ((HY3.out.drew).below B4)); clear B4)
        | fail)
    all_goals go_wp2
    all_goals go_ret2
    exact ⟨HB4.out, fun _ => rfl, (fun q => by cases q)⟩
  · have hne : (b == X) = true := by
      have := HRt.out
      rw [hR] at this
      rw [beq_iff_eq]
      exact (beq_iff_eq.1 this.symm).symm
    go_enter Try.func36, Try.ntmps36
    go_wp2_with (first
      | (go_at_call 69; go_loud (with_reducible refine C1.out.mono ?_); rintro e w3 ⟨rfl, hw⟩; subst w3)
      | (go_at_call 67; go_loud (with_reducible refine C3.out.mono ?_); rintro e w3 ⟨g, c, rfl, Y3, L3, B3⟩; have HY3 := hid Y3; have HB3 := hid B3; have v3 := HCV.out w3.drew g c Y3.drew; have HC4 := hid (CP.out w3.drew g c Y3.drew); clear Y3 B3)
      | fail)
    have hc5 : (508 : Int) ≤ (c : Int) := by omega
    have hc8 : 508 ≤ c := by omega
    go_region_held_law (fun w' => (convert 22 9 (.slice (some ⟨g, 0, none⟩) 512 c)).run Try.prog w' = .ok (.string ⟨b.toArray⟩) w') (first | exact v3 | exact HV4.out)
      (first
        | (go_at_call 31; go_loud (with_reducible refine HC4.out.mono ?_); rintro e w4 ⟨q, cq, rfl, u4, B4⟩; have HB4 : Hid (Below w.heap.size w w4) := HB3.out.trans (((Below.refl _ _).drew.trans B4).mono HB3.out.size); have HV4 := hid (HCV.out w4 g c ((HY3.out.drew).below B4)); have HY4 := hid ((HY3.out.drew).below B4); clear B4)
        | fail)
    all_goals go_wp2
    all_goals go_ret2
    exact ⟨HB4.out, (fun q => by cases q), fun _ => ⟨_, _, rfl, HY4.out.tk5 508⟩⟩
theorem RW.pread (qb : Nat) (n : Int) (k : Pk) (h : RW s w0 w rb r Z) (P : Rag w qb rb k) (hm : r.pend.length < 1000000) :
    Calls Try.prog 36 #[.pointer (some ⟨qb, 0, none⟩), .int .i64 n] w fun e w' => Below w.heap.size w w' ∧ (r.rdErr n ≠ 0 → e = .returned (.tuple #[.slice none 0 0, .int .i64 (r.rdErr n)])) ∧ (r.rdErr n = 0 → ∃ g c, e = .returned (.tuple #[.slice (some ⟨g, 0, none⟩) 508 c, .int .i64 0]) ∧ Byts w' (some ⟨g, 0, none⟩) ((r.has n).take 508)) := by
  unfold Dk.rdErr
  cases hr : r.rangeErr n
  · rw [if_pos rfl]
    refine (dread_range qb n k h P hr).mono ?_
    rintro e w' ⟨he, rfl⟩
    exact ⟨Below.refl _ _, fun _ => he, fun q => by cases q⟩
  · rw [if_neg (by decide)]
    cases hd : r.down
    · rw [if_neg (by decide)]
      refine (dread_up qb n k h P hr hd hm).mono ?_
      rintro e w' ⟨B, h1, h2⟩
      cases hR : right (r.has n)
      · rw [if_pos rfl]
        exact ⟨B, fun _ => h1 hR, fun q => by cases q⟩
      · rw [if_neg (by decide)]
        exact ⟨B, fun q => absurd rfl q, fun _ => h2 hR⟩
    · rw [if_pos rfl]
      refine (dread_down qb n k h P hr hd).mono ?_
      rintro e w' ⟨he, rfl⟩
      exact ⟨Below.refl _ _, fun _ => he, fun q => by cases q⟩
/-! ### Write -/
set_option maxHeartbeats 1000000 in
theorem dwrite_range (qb : Nat) (n : Int) (v : Value) (k : Pk) (h : RW s w0 w rb r Z) (P : Rag w qb rb k) (hr : r.rangeErr n = false) :
    Calls Try.prog 51 #[.pointer (some ⟨qb, 0, none⟩), .int .i64 n, v] w fun e w' => e = .returned (.int .i64 2) ∧ w' = w := by
  have C1 := hid (dochas_any qb n k h P)
  rw [hr] at C1
  clear h P
  go_enter Try.func51, Try.ntmps51
  go_wp2_with (first
    | (go_at_call 69; go_loud (with_reducible refine C1.out.mono ?_); rintro e w3 ⟨rfl, hw⟩; subst w3)
    | fail)
  go_ret
  exact ⟨rfl, rfl⟩
set_option maxHeartbeats 1000000 in
theorem dwrite_len (qb : Nat) (n : Int) (sp : Option Addr) (m c : Nat) (k : Pk) (h : RW s w0 w rb r Z) (P : Rag w qb rb k) (hr : r.rangeErr n = true) (hm : m ≠ 508) :
    Calls Try.prog 51 #[.pointer (some ⟨qb, 0, none⟩), .int .i64 n, .slice sp m c] w fun e w' => e = .returned (.int .i64 3) ∧ w' = w := by
  have C1 := hid (dochas_any qb n k h P)
  rw [hr] at C1
  have hm1 : ((m : Int) == 508) = false := by simp; omega
  have hm2 : ¬ ((m : Int) = 508) := by omega
  clear h P hm
  go_enter Try.func51, Try.ntmps51
  go_wp2_with (first
    | (go_at_call 69; go_loud (with_reducible refine C1.out.mono ?_); rintro e w3 ⟨rfl, hw⟩; subst w3)
    | fail)
  go_ret
  exact ⟨rfl, rfl⟩
set_option maxHeartbeats 1000000 in
theorem dwrite_ok (qb : Nat) (n : Int) (g off c : Nat) (b : List UInt8) (k : Pk) (h : RW s w0 w rb r Z) (P : Rag w qb rb k) (hz : Z qb) (hr : r.rangeErr n = true) (hb : b.length = 508) (hy : Byts w (some ⟨g, off, none⟩) b) (hm : r.pend.length < 1000000) :
    Calls Try.prog 51 #[.pointer (some ⟨qb, 0, none⟩), .int .i64 n, .slice (some ⟨g, off, none⟩) 508 c] w fun e w' => e = .returned (.int .i64 (r.wrErr n (sealed b))) ∧ RW s w0 w' rb (r.wr n (sealed b)) Z ∧ Kept (old s Z) w w' := by
  have C1 := hid (dochas_any qb n k h P)
  rw [hr] at C1
  obtain ⟨p0, p1, p2, p3, pf⟩ := P.cells
  have C3 := hid (rpage_any g off c b w.drew hb hy.drew)
  have HH := hid h
  have HP := hid P
  have hdl := h.dlt
  have hzz := hid hz
  have C4 : Hid (∀ (w5 : World) (q cq : Nat), RW s w0 w5 rb r Z → Byts w5 (some ⟨q, 0, none⟩) (sealed b) → w.heap.size ≤ q → Calls Try.prog 46 #[.pointer (some ⟨rb, 0, none⟩), .int .i64 n, .slice (some ⟨q, 0, none⟩) 512 cq] w5 fun e w' => e = .returned (.int .i64 (r.wrErr n (sealed b))) ∧ RW s w0 w' rb (r.wr n (sealed b)) Z ∧ Kept (old s Z) w5 w') := fun w5 q cq h5 b5 hq => by
    have := h5.write n (some ⟨q, 0, none⟩) (sealed b) cq b5 (fun g off e => by simp only [Option.some.injEq, Addr.mk.injEq, and_true] at e; rw [← e.1]; exact Or.inr (Or.inr (by omega))) hm
    rwa [sealed_len, hb] at this
  clear h P hb hy hz
  go_enter Try.func51, Try.ntmps51
  go_wp2_with (first
    | (go_at_call 69; go_loud (with_reducible refine C1.out.mono ?_); rintro e w3 ⟨rfl, hw⟩; subst w3)
    | fail)
  go_region_held_law (fun w' => w'.cell? ⟨qb, 0, none⟩ = some (.pointer (some ⟨rb, 0, none⟩))) (first | exact p0 | exact HP5.out.cells.1 | exact HP4.out.cells.1)
    (first
      | (go_at_call 31; go_loud (with_reducible refine C3.out.mono ?_); rintro e w4 ⟨q, cq, rfl, B4, L4, Q4⟩; have HB4 := hid B4; have HL4 : Hid (Below w.heap.size w w4) := (Below.refl _ _).drew.trans L4; have HQ4 : Hid (w.heap.size ≤ q) := Q4; have HD4 := hid (HH.out.grow HL4.out); have HP4 := hid (HP.out.below HL4.out); clear B4 L4 Q4)
      | (go_at_call 46; go_loud (with_reducible refine (C4.out _ q cq HD4.out HB4.out HQ4.out).mono ?_); rintro e w5 ⟨rfl, D5, K5⟩; have HD5 := hid D5; have HP5 := hid (HP4.out.kept K5 (Or.inr hzz.out)); have HK5 := hid ((HH.out.kgrow HL4.out).trans K5); clear D5 K5)
      | fail)
  all_goals go_wp2
  all_goals go_ret
  all_goals exact ⟨rfl, HD5.out, HK5.out⟩
theorem RW.pwrite (qb : Nat) (n : Int) (sp : Option Addr) (c : Nat) (b : List UInt8) (k : Pk) (h : RW s w0 w rb r Z) (P : Rag w qb rb k) (hz : Z qb) (hy : Byts w sp b) (hm : r.pend.length < 1000000) :
    Calls Try.prog 51 #[.pointer (some ⟨qb, 0, none⟩), .int .i64 n, .slice sp b.length c] w fun e w' => e = .returned (.int .i64 (r.pwErr n b)) ∧ RW s w0 w' rb (r.pw n b) Z ∧ Kept (old s Z) w w' := by
  unfold Dk.pwErr Dk.pw
  cases hr : r.rangeErr n
  · simp only [if_true]
    refine (dwrite_range qb n _ k h P hr).mono ?_
    rintro e w' ⟨he, rfl⟩
    exact ⟨he, h, Kept.refl _ _⟩
  · simp only [Bool.true_eq_false, if_false]
    by_cases hb : b.length = 508
    · obtain ⟨g, off, rfl, hc⟩ := hy.resolve_left (by rintro rfl; simp at hb)
      simp only [hb, ne_eq, not_true_eq_false, if_false]
      exact dwrite_ok qb n g off c b k h P hz hr hb (Or.inr ⟨g, off, rfl, hc⟩) hm
    · simp only [hb, ne_eq, not_false_eq_true, if_true]
      refine (dwrite_len qb n sp b.length c k h P hr hb).mono ?_
      rintro e w' ⟨he, rfl⟩
      exact ⟨he, h, Kept.refl _ _⟩
end Go.Proofs.Ytnecigbncggogaa
