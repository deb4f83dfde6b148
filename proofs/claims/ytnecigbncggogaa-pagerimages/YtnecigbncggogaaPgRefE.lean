/- What the document's Format, Open, Read, Write and Commit do. Condition: fewer than a million writes are pending. -/
import Derived.Test.YtnecigbncggogaaPgRefD
import Derived.Test.YtnecigbncggogaaPgTurn
namespace Go.Proofs.Ytnecigbncggogaa
open Go.RowKit
set_option linter.unusedVariables false
set_option maxRecDepth 20000
variable {s : Nat} {w0 w : World} {rb : Nat} {r : Dk} {Z : Nat → Prop}

/-- A head's page, written by the document. -/
theorem rhp_load (G R : Nat) (w : World) (hG : G < 9223372036854775808) (hR : R < 9223372036854775808) :
    Calls Try.prog 32 #[.int .i64 (G : Int), .int .i64 (R : Int)] w fun e w' => ∃ q cq, e = .returned (.slice (some ⟨q, 0, none⟩) 508 cq) ∧ Byts w' (some ⟨q, 0, none⟩) (headLoad G R) ∧ Below w.heap.size w w' :=
  (rhead_any G R w hG hR).mono (fun e w' ⟨q, cq, a, b, c, _⟩ => ⟨q, cq, a, b, c⟩)
theorem rhp_page (q c : Nat) (G R : Nat) (w : World) (h : Byts w (some ⟨q, 0, none⟩) (headLoad G R)) :
    Calls Try.prog 31 #[.slice (some ⟨q, 0, none⟩) 508 c] w fun e w' => ∃ p cp, e = .returned (.slice (some ⟨p, 0, none⟩) 512 cp) ∧ Byts w' (some ⟨p, 0, none⟩) (headPage G R) ∧ Below w.heap.size w w' ∧ w.heap.size ≤ p := rpage_any q 0 c (headLoad G R) w (headLoad_len G R) h
theorem RW.whead (h : RW s w0 w rb r Z) (n : Int) (p c G R : Nat) (hy : Byts w (some ⟨p, 0, none⟩) (headPage G R)) (hp : p ≠ rb) (hm : r.pend.length < 1000000) :
    Calls Try.prog 46 #[.pointer (some ⟨rb, 0, none⟩), .int .i64 n, .slice (some ⟨p, 0, none⟩) 512 c] w fun e w' => e = .returned (.int .i64 (r.wrErr n (headPage G R))) ∧ RW s w0 w' rb (r.wr n (headPage G R)) Z ∧ Kept (old s Z) w w' := by
  have := h.write n (some ⟨p, 0, none⟩) (headPage G R) c hy (fun g off e => by simp only [Option.some.injEq, Addr.mk.injEq, and_true] at e; rw [← e.1]; exact Or.inr (Or.inr hp)) hm
  rwa [headPage_len] at this
set_option maxHeartbeats 2000000 in
theorem rformat_few (h : RW s w0 w rb r Z) (hp : r.pages < 3) :
    Calls Try.prog 15 #[.pointer (some ⟨rb, 0, none⟩)] w fun e w' => e = .returned (.int .i64 2) ∧ w' = w := by
  have C := hid h.pages
  have hp' : (r.pages : Int) < 3 := by omega
  clear h hp
  go_enter Try.func15, Try.ntmps15
  go_wp2_with (first
    | (go_at_call 45; go_loud (with_reducible refine C.out.mono ?_); rintro e w3 ⟨rfl, hw⟩; subst w3)
    | fail)
  go_ret
  exact ⟨rfl, rfl⟩
set_option maxHeartbeats 4000000 in
theorem rformat_steps (h : RW s w0 w rb r Z) (hp : ¬ r.pages < 3) (hm : r.pend.length < 999990) :
    Calls Try.prog 15 #[.pointer (some ⟨rb, 0, none⟩)] w fun e w' => e = .returned (.int .i64 (seqErr (r.wrErr 0 (headPage 0 0)) ((r.wr 0 (headPage 0 0)).wrErr 1 (headPage 1 0)) (((r.wr 0 (headPage 0 0)).wr 1 (headPage 1 0)).syErr))) ∧ RW s w0 w' rb (seqDk (r.wrErr 0 (headPage 0 0)) ((r.wr 0 (headPage 0 0)).wrErr 1 (headPage 1 0)) (r.wr 0 (headPage 0 0)) ((r.wr 0 (headPage 0 0)).wr 1 (headPage 1 0)) ((r.wr 0 (headPage 0 0)).wr 1 (headPage 1 0)).sy) Z ∧ Kept (old s Z) w w' := by
  have C := hid h.pages
  have hp' : ¬ (r.pages : Int) < 3 := by omega
  have HH := hid h
  have CH0 : Hid (∀ w5 : World, Calls Try.prog 32 #[.int .i64 0, .int .i64 0] w5 fun e w' => ∃ q cq, e = .returned (.slice (some ⟨q, 0, none⟩) 508 cq) ∧ Byts w' (some ⟨q, 0, none⟩) (headLoad 0 0) ∧ Below w5.heap.size w5 w') := fun w5 => rhp_load 0 0 w5 (by decide) (by decide)
  have CH1 : Hid (∀ w5 : World, Calls Try.prog 32 #[.int .i64 1, .int .i64 0] w5 fun e w' => ∃ q cq, e = .returned (.slice (some ⟨q, 0, none⟩) 508 cq) ∧ Byts w' (some ⟨q, 0, none⟩) (headLoad 1 0) ∧ Below w5.heap.size w5 w') := fun w5 => rhp_load 1 0 w5 (by decide) (by decide)
  have CP := hid (fun (q c G R : Nat) (w5 : World) (y : Byts w5 (some ⟨q, 0, none⟩) (headLoad G R)) => rhp_page q c G R w5 y)
  have hm2 : Hid ((r.wr 0 (headPage 0 0)).pend.length < 1000000) := by show _ < _; have := r.pend_wr 0 (headPage 0 0); omega
  have hm3 : Hid (((r.wr 0 (headPage 0 0)).wr 1 (headPage 1 0)).pend.length < 1000000) := by show _ < _; have := r.pend_wr 0 (headPage 0 0); have := (r.wr 0 (headPage 0 0)).pend_wr 1 (headPage 1 0); omega
  have hm1 : Hid (r.pend.length < 1000000) := by show _ < _; omega
  have CW0 := hid (fun (w5 : World) (p c : Nat) (h5 : RW s w0 w5 rb r Z) (y : Byts w5 (some ⟨p, 0, none⟩) (headPage 0 0)) (hp : p ≠ rb) => h5.whead 0 p c 0 0 y hp hm1.out)
  have CW1 := hid (fun (w5 : World) (p c : Nat) (h5 : RW s w0 w5 rb (r.wr 0 (headPage 0 0)) Z) (y : Byts w5 (some ⟨p, 0, none⟩) (headPage 1 0)) (hp : p ≠ rb) => h5.whead 1 p c 1 0 y hp hm2.out)
  have CS := hid (fun (w5 : World) (h5 : RW s w0 w5 rb ((r.wr 0 (headPage 0 0)).wr 1 (headPage 1 0)) Z) => h5.sync hm3.out)
  clear h hp hm
  generalize r.wrErr 0 (headPage 0 0) = E0 at *
  generalize (r.wr 0 (headPage 0 0)).wrErr 1 (headPage 1 0) = E1 at *
  generalize ((r.wr 0 (headPage 0 0)).wr 1 (headPage 1 0)).syErr = E2 at *
  generalize ((r.wr 0 (headPage 0 0)).wr 1 (headPage 1 0)).sy = d3 at *
  generalize (r.wr 0 (headPage 0 0)).wr 1 (headPage 1 0) = d2 at *
  generalize r.wr 0 (headPage 0 0) = d1 at *
  by_cases h0 : E0 = 0
  · subst h0
    by_cases h1 : E1 = 0
    · subst h1
      go_enter Try.func15, Try.ntmps15
      go_wp2_with (first
        | (go_at_call 45; go_loud (with_reducible refine C.out.mono ?_); rintro e w3 ⟨rfl, hw⟩; subst w3)
        | (go_at_call 32; first
            | (with_reducible refine (CH0.out _).mono ?_; rintro e w3 ⟨q3, c3, rfl, Y3, B3⟩; have HY3 := hid Y3; have HR3 := hid (HH.out.grow B3); have HK3 := hid (HH.out.kgrow B3); have HL3 := hid (Nat.lt_of_lt_of_le HH.out.dlt B3.size); clear Y3 B3 CH0)
            | (with_reducible refine (CH1.out _).mono ?_; rintro e w6 ⟨q6, c6, rfl, Y6, B6⟩; have HY6 := hid Y6; have HR6 := hid (HR5.out.grow B6); have HK6 := hid (HK5.out.trans (HR5.out.kgrow B6)); have HL6 := hid (Nat.lt_of_lt_of_le HR5.out.dlt B6.size); clear Y6 B6 CH1))
        | (go_at_call 31; first
            | (with_reducible refine (CP.out q6 _ 1 0 _ HY6.out).mono ?_; rintro e w7 ⟨p7, c7, rfl, Y7, B7, G7⟩; have HY7 := hid Y7; have HR7 := hid (HR6.out.grow B7); have HK7 := hid (HK6.out.trans (HR6.out.kgrow B7)); have HN7 := hid (show p7 ≠ rb from fun e => by have := HL6.out; omega); clear Y7 B7 G7)
            | (with_reducible refine (CP.out q3 _ 0 0 _ HY3.out).mono ?_; rintro e w4 ⟨p4, c4, rfl, Y4, B4, G4⟩; have HY4 := hid Y4; have HR4 := hid (HR3.out.grow B4); have HK4 := hid (HK3.out.trans (HR3.out.kgrow B4)); have HN4 := hid (show p4 ≠ rb from fun e => by have := HL3.out; omega); clear Y4 B4 G4))
        | (go_at_call 46; first
            | (with_reducible refine (CW1.out _ p7 c7 HR7.out HY7.out HN7.out).mono ?_; rintro e w8 ⟨rfl, R8, K8⟩; have HR8 := hid R8; have HK8 := hid (HK7.out.trans K8); clear R8 K8)
            | (with_reducible refine (CW0.out _ p4 c4 HR4.out HY4.out HN4.out).mono ?_; rintro e w5 ⟨rfl, R5, K5⟩; have HR5 := hid R5; have HK5 := hid (HK4.out.trans K5); clear R5 K5))
        | (go_at_call 47; go_loud (with_reducible refine (CS.out _ HR8.out).mono ?_); rintro e w9 ⟨rfl, R9, K9⟩; have HR9 := hid R9; have HK9 := hid (HK8.out.trans K9); clear R9 K9)
        | fail)
      go_ret
      exact ⟨err_eq (by unfold seqErr; simp), by unfold seqDk; simp only [ne_eq, not_true_eq_false, if_false]; exact HR9.out, HK9.out⟩
    · have h1b : (E1 == 0) = false := by simpa using h1
      have HE := hid h1
      go_enter Try.func15, Try.ntmps15
      go_wp2_with (first
        | (go_at_call 45; go_loud (with_reducible refine C.out.mono ?_); rintro e w3 ⟨rfl, hw⟩; subst w3)
        | (go_at_call 32; first
            | (with_reducible refine (CH0.out _).mono ?_; rintro e w3 ⟨q3, c3, rfl, Y3, B3⟩; have HY3 := hid Y3; have HR3 := hid (HH.out.grow B3); have HK3 := hid (HH.out.kgrow B3); have HL3 := hid (Nat.lt_of_lt_of_le HH.out.dlt B3.size); clear Y3 B3 CH0)
            | (with_reducible refine (CH1.out _).mono ?_; rintro e w6 ⟨q6, c6, rfl, Y6, B6⟩; have HY6 := hid Y6; have HR6 := hid (HR5.out.grow B6); have HK6 := hid (HK5.out.trans (HR5.out.kgrow B6)); have HL6 := hid (Nat.lt_of_lt_of_le HR5.out.dlt B6.size); clear Y6 B6 CH1))
        | (go_at_call 31; first
            | (with_reducible refine (CP.out q6 _ 1 0 _ HY6.out).mono ?_; rintro e w7 ⟨p7, c7, rfl, Y7, B7, G7⟩; have HY7 := hid Y7; have HR7 := hid (HR6.out.grow B7); have HK7 := hid (HK6.out.trans (HR6.out.kgrow B7)); have HN7 := hid (show p7 ≠ rb from fun e => by have := HL6.out; omega); clear Y7 B7 G7)
            | (with_reducible refine (CP.out q3 _ 0 0 _ HY3.out).mono ?_; rintro e w4 ⟨p4, c4, rfl, Y4, B4, G4⟩; have HY4 := hid Y4; have HR4 := hid (HR3.out.grow B4); have HK4 := hid (HK3.out.trans (HR3.out.kgrow B4)); have HN4 := hid (show p4 ≠ rb from fun e => by have := HL3.out; omega); clear Y4 B4 G4))
        | (go_at_call 46; first
            | (with_reducible refine (CW1.out _ p7 c7 HR7.out HY7.out HN7.out).mono ?_; rintro e w8 ⟨rfl, R8, K8⟩; have HR8 := hid R8; have HK8 := hid (HK7.out.trans K8); clear R8 K8)
            | (with_reducible refine (CW0.out _ p4 c4 HR4.out HY4.out HN4.out).mono ?_; rintro e w5 ⟨rfl, R5, K5⟩; have HR5 := hid R5; have HK5 := hid (HK4.out.trans K5); clear R5 K5))
        | (go_at_call 47; go_loud (with_reducible refine (CS.out _ HR8.out).mono ?_); rintro e w9 ⟨rfl, R9, K9⟩; have HR9 := hid R9; have HK9 := hid (HK8.out.trans K9); clear R9 K9)
        | fail)
      go_ret
      exact ⟨err_eq (by unfold seqErr; rw [if_neg (by simp), if_pos HE.out]), by unfold seqDk; rw [if_neg (by simp), if_pos HE.out]; exact HR8.out, HK8.out⟩
  · have h0b : (E0 == 0) = false := by simpa using h0
    have HE := hid h0
    go_enter Try.func15, Try.ntmps15
    go_wp2_with (first
      | (go_at_call 45; go_loud (with_reducible refine C.out.mono ?_); rintro e w3 ⟨rfl, hw⟩; subst w3)
      | (go_at_call 32; first
          | (with_reducible refine (CH0.out _).mono ?_; rintro e w3 ⟨q3, c3, rfl, Y3, B3⟩; have HY3 := hid Y3; have HR3 := hid (HH.out.grow B3); have HK3 := hid (HH.out.kgrow B3); have HL3 := hid (Nat.lt_of_lt_of_le HH.out.dlt B3.size); clear Y3 B3 CH0)
          | (with_reducible refine (CH1.out _).mono ?_; rintro e w6 ⟨q6, c6, rfl, Y6, B6⟩; have HY6 := hid Y6; have HR6 := hid (HR5.out.grow B6); have HK6 := hid (HK5.out.trans (HR5.out.kgrow B6)); have HL6 := hid (Nat.lt_of_lt_of_le HR5.out.dlt B6.size); clear Y6 B6 CH1))
      | (go_at_call 31; first
          | (with_reducible refine (CP.out q6 _ 1 0 _ HY6.out).mono ?_; rintro e w7 ⟨p7, c7, rfl, Y7, B7, G7⟩; have HY7 := hid Y7; have HR7 := hid (HR6.out.grow B7); have HK7 := hid (HK6.out.trans (HR6.out.kgrow B7)); have HN7 := hid (show p7 ≠ rb from fun e => by have := HL6.out; omega); clear Y7 B7 G7)
          | (with_reducible refine (CP.out q3 _ 0 0 _ HY3.out).mono ?_; rintro e w4 ⟨p4, c4, rfl, Y4, B4, G4⟩; have HY4 := hid Y4; have HR4 := hid (HR3.out.grow B4); have HK4 := hid (HK3.out.trans (HR3.out.kgrow B4)); have HN4 := hid (show p4 ≠ rb from fun e => by have := HL3.out; omega); clear Y4 B4 G4))
      | (go_at_call 46; first
          | (with_reducible refine (CW1.out _ p7 c7 HR7.out HY7.out HN7.out).mono ?_; rintro e w8 ⟨rfl, R8, K8⟩; have HR8 := hid R8; have HK8 := hid (HK7.out.trans K8); clear R8 K8)
          | (with_reducible refine (CW0.out _ p4 c4 HR4.out HY4.out HN4.out).mono ?_; rintro e w5 ⟨rfl, R5, K5⟩; have HR5 := hid R5; have HK5 := hid (HK4.out.trans K5); clear R5 K5))
      | (go_at_call 47; go_loud (with_reducible refine (CS.out _ HR8.out).mono ?_); rintro e w9 ⟨rfl, R9, K9⟩; have HR9 := hid R9; have HK9 := hid (HK8.out.trans K9); clear R9 K9)
      | fail)
    go_ret
    exact ⟨err_eq (by unfold seqErr; rw [if_pos HE.out]), by unfold seqDk; rw [if_pos HE.out]; exact HR5.out, HK5.out⟩
theorem RW.format (h : RW s w0 w rb r Z) (hm : r.pend.length < 999990) :
    Calls Try.prog 15 #[.pointer (some ⟨rb, 0, none⟩)] w fun e w' => e = .returned (.int .i64 r.fmtErr) ∧ RW s w0 w' rb r.fmt Z ∧ Kept (old s Z) w w' := by
  by_cases hp : r.pages < 3
  · refine (rformat_few h hp).mono ?_
    rintro e w' ⟨he, rfl⟩
    have e1 : r.fmtErr = 2 := by unfold Dk.fmtErr; rw [if_pos hp]
    have e2 : r.fmt = r := by unfold Dk.fmt; rw [if_pos hp]
    rw [e1, e2]
    exact ⟨he, h, Kept.refl _ _⟩
  · have q := rformat_steps h hp hm
    rw [(r.fmt_seq hp).1, (r.fmt_seq hp).2] at q
    exact q
/-! ### Open -/
set_option maxHeartbeats 1000000 in
theorem ropen_few (h : RW s w0 w rb r Z) (hp : r.pages < 3) :
    Calls Try.prog 35 #[.pointer (some ⟨rb, 0, none⟩)] w fun e w' => e = .returned (.tuple #[.pointer none, .int .i64 2]) ∧ w' = w := by
  have C := hid h.pages
  have hp' : (r.pages : Int) < 3 := by omega
  clear h hp
  go_enter Try.func35, Try.ntmps35
  go_wp2_with (first
    | (go_at_call 45; go_loud (with_reducible refine C.out.mono ?_); rintro e w3 ⟨rfl, hw⟩; subst w3)
    | fail)
  go_ret2
  exact ⟨rfl, rfl⟩
set_option maxHeartbeats 1000000 in
theorem ropen_down (h : RW s w0 w rb r Z) (hp : ¬ r.pages < 3) (hd : r.down = true) :
    Calls Try.prog 35 #[.pointer (some ⟨rb, 0, none⟩)] w fun e w' => e = .returned (.tuple #[.pointer none, .int .i64 9]) ∧ w' = w := by
  have C := hid h.pages
  have hr : ∀ n, r.reach n = 9 := fun n => by unfold Dk.reach; rw [hd]; rfl
  have C2 := h.readBad 0 (by rw [hr]; decide)
  rw [hr] at C2
  have HC2 := hid C2
  have hp' : ¬ (r.pages : Int) < 3 := by omega
  clear h hp C2 hr
  go_enter Try.func35, Try.ntmps35
  go_wp2_with (first
    | (go_at_call 45; go_loud (with_reducible refine C.out.mono ?_); rintro e w3 ⟨rfl, hw⟩; subst w3)
    | (go_at_call 67; go_loud (with_reducible refine HC2.out.mono ?_); rintro e w3 ⟨rfl, hw⟩; subst w3)
    | fail)
  go_ret2
  exact ⟨rfl, rfl⟩
end Go.Proofs.Ytnecigbncggogaa
