/- What the document's Format, Open, Read, Write and Commit do. Condition: fewer than a million writes are pending. What the document's Open does. Condition: fewer than a million writes are pending. What the document's Read, Write and Commit do. Condition: fewer than a million writes are pending. -/
import Derived.Test.YtnecigbncggogaaPgRefD
import Derived.Test.YtnecigbncggogaaPgTurn
namespace Go.Proofs.Ytnecigbncggogaa
open Go.RowKit
set_option linter.unusedVariables false
set_option maxRecDepth 20000
variable {s : Nat} {w0 w : World} {rb : Nat} {r : Dk} {Z : Nat → Prop}

/-- A head's page, written by the document. -/
theorem rhp_load (G R : Nat) (w : World) (hG : G < 9223372036854775808) (hR : R < 9223372036854775808) :
    Calls Try.prog 32 #[.int .i64 (G : Int), .int .i64 (R : Int)] w fun e w' => ∃ q cq, e = .returned (.slice (some ⟨q, 0, none⟩) 508 cq) ∧ Byts w' (some ⟨q, 0, none⟩) (headLoad G R) ∧ Below w.heap.size w w' :=
  (rhead_any G R w hG hR).mono (fun e w' ⟨q, cq, a, b, c, _⟩ => ⟨q, cq, a, b, c⟩)
theorem rhp_page (q c : Nat) (G R : Nat) (w : World) (h : Byts w (some ⟨q, 0, none⟩) (headLoad G R)) :
    Calls Try.prog 31 #[.slice (some ⟨q, 0, none⟩) 508 c] w fun e w' => ∃ p cp, e = .returned (.slice (some ⟨p, 0, none⟩) 512 cp) ∧ Byts w' (some ⟨p, 0, none⟩) (headPage G R) ∧ Below w.heap.size w w' ∧ w.heap.size ≤ p := rpage_any q 0 c (headLoad G R) w (headLoad_len G R) h
theorem RW.whead (h : RW s w0 w rb r Z) (n : Int) (p c G R : Nat) (hy : Byts w (some ⟨p, 0, none⟩) (headPage G R)) (hp : p ≠ rb) (hm : r.pend.length < 1000000) :
    Calls Try.prog 46 #[.pointer (some ⟨rb, 0, none⟩), .int .i64 n, .slice (some ⟨p, 0, none⟩) 512 c] w fun e w' => e = .returned (.int .i64 (r.wrErr n (headPage G R))) ∧ RW s w0 w' rb (r.wr n (headPage G R)) Z ∧ Kept (old s Z) w w' := by
  have := h.write n (some ⟨p, 0, none⟩) (headPage G R) c hy (fun g off e => by simp only [Option.some.injEq, Addr.mk.injEq, and_true] at e; rw [← e.1]; exact Or.inr (Or.inr hp)) hm
  rwa [headPage_len] at this
set_option maxHeartbeats 2000000 in
theorem rformat_few (h : RW s w0 w rb r Z) (hp : r.pages < 3) :
    Calls Try.prog 15 #[.pointer (some ⟨rb, 0, none⟩)] w fun e w' => e = .returned (.int .i64 2) ∧ w' = w := by
  have C := hid h.pages
  have hp' : (r.pages : Int) < 3 := by omega
  clear h hp
  go_enter Try.func15, Try.ntmps15
  go_wp2_with (first
    | (go_at_call 45; go_loud (with_reducible refine C.out.mono ?_); rintro e w3 ⟨rfl, hw⟩; subst w3)
    | fail)
  go_ret
  exact ⟨rfl, rfl⟩
set_option maxHeartbeats 4000000 in
theorem rformat_steps (h : RW s w0 w rb r Z) (hp : ¬ r.pages < 3) (hm : r.pend.length < 999990) :
    Calls Try.prog 15 #[.pointer (some ⟨rb, 0, none⟩)] w fun e w' => e = .returned (.int .i64 (seqErr (r.wrErr 0 (headPage 0 0)) ((r.wr 0 (headPage 0 0)).wrErr 1 (headPage 1 0)) (((r.wr 0 (headPage 0 0)).wr 1 (headPage 1 0)).syErr))) ∧ RW s w0 w' rb (seqDk (r.wrErr 0 (headPage 0 0)) ((r.wr 0 (headPage 0 0)).wrErr 1 (headPage 1 0)) (r.wr 0 (headPage 0 0)) ((r.wr 0 (headPage 0 0)).wr 1 (headPage 1 0)) ((r.wr 0 (headPage 0 0)).wr 1 (headPage 1 0)).sy) Z ∧ Kept (old s Z) w w' := by
  have C := hid h.pages
  have hp' : ¬ (r.pages : Int) < 3 := by omega
  have HH := hid h
  have CH0 : Hid (∀ w5 : World, Calls Try.prog 32 #[.int .i64 0, .int .i64 0] w5 fun e w' => ∃ q cq, e = .returned (.slice (some ⟨q, 0, none⟩) 508 cq) ∧ Byts w' (some ⟨q, 0, none⟩) (headLoad 0 0) ∧ Below w5.heap.size w5 w') := fun w5 => rhp_load 0 0 w5 (by decide) (by decide)
  have CH1 : Hid (∀ w5 : World, Calls Try.prog 32 #[.int .i64 1, .int .i64 0] w5 fun e w' => ∃ q cq, e = .returned (.slice (some ⟨q, 0, none⟩) 508 cq) ∧ Byts w' (some ⟨q, 0, none⟩) (headLoad 1 0) ∧ Below w5.heap.size w5 w') := fun w5 => rhp_load 1 0 w5 (by decide) (by decide)
  have CP := hid (fun (q c G R : Nat) (w5 : World) (y : Byts w5 (some ⟨q, 0, none⟩) (headLoad G R)) => rhp_page q c G R w5 y)
  have hm2 : Hid ((r.wr 0 (headPage 0 0)).pend.length < 1000000) := by show _ < _; have := r.pend_wr 0 (headPage 0 0); omega
  have hm3 : Hid (((r.wr 0 (headPage 0 0)).wr 1 (headPage 1 0)).pend.length < 1000000) := by show _ < _; have := r.pend_wr 0 (headPage 0 0); have := (r.wr 0 (headPage 0 0)).pend_wr 1 (headPage 1 0); omega
  have hm1 : Hid (r.pend.length < 1000000) := by show _ < _; omega
  have CW0 := hid (fun (w5 : World) (p c : Nat) (h5 : RW s w0 w5 rb r Z) (y : Byts w5 (some ⟨p, 0, none⟩) (headPage 0 0)) (hp : p ≠ rb) => h5.whead 0 p c 0 0 y hp hm1.out)
  have CW1 := hid (fun (w5 : World) (p c : Nat) (h5 : RW s w0 w5 rb (r.wr 0 (headPage 0 0)) Z) (y : Byts w5 (some ⟨p, 0, none⟩) (headPage 1 0)) (hp : p ≠ rb) => h5.whead 1 p c 1 0 y hp hm2.out)
  have CS := hid (fun (w5 : World) (h5 : RW s w0 w5 rb ((r.wr 0 (headPage 0 0)).wr 1 (headPage 1 0)) Z) => h5.sync hm3.out)
  clear h hp hm
  generalize r.wrErr 0 (headPage 0 0) = E0 at *
  generalize (r.wr 0 (headPage 0 0)).wrErr 1 (headPage 1 0) = E1 at *
  generalize ((r.wr 0 (headPage 0 0)).wr 1 (headPage 1 0)).syErr = E2 at *
  generalize ((r.wr 0 (headPage 0 0)).wr 1 (headPage 1 0)).sy = d3 at *
  generalize (r.wr 0 (headPage 0 0)).wr 1 (headPage 1 0) = d2 at *
  generalize r.wr 0 (headPage 0 0) = d1 at *
  by_cases h0 : E0 = 0
  · subst h0
    by_cases h1 : E1 = 0
    · subst h1
      go_enter Try.func15, Try.ntmps15
      go_wp2_with (first
        | (go_at_call 45; go_loud (with_reducible refine C.out.mono ?_); rintro e w3 ⟨rfl, hw⟩; subst w3)
        | (go_at_call 32; first
            | (with_reducible refine (CH0.out _).mono ?_; rintro e w3 ⟨q3, c3, rfl, Y3, B3⟩; have HY3 := hid Y3; have HR3 := hid (HH.out.grow B3); have HK3 := hid (HH.out.kgrow B3); have HL3 := hid (Nat.lt_of_lt_of_le HH.out.dlt B3.size); clear Y3 B3 CH0)
            | (with_reducible refine (CH1.out _).mono ?_; rintro e w6 ⟨q6, c6, rfl, Y6, B6⟩; have HY6 := hid Y6; have HR6 := hid (HR5.out.grow B6); have HK6 := hid (HK5.out.trans (HR5.out.kgrow B6)); have HL6 := hid (Nat.lt_of_lt_of_le HR5.out.dlt B6.size); clear Y6 B6 CH1))
        | (go_at_call 31; first
            | (with_reducible refine (CP.out q6 _ 1 0 _ HY6.out).mono ?_; rintro e w7 ⟨p7, c7, rfl, Y7, B7, G7⟩; have HY7 := hid Y7; have HR7 := hid (HR6.out.grow B7); have HK7 := hid (HK6.out.trans (HR6.out.kgrow B7)); have HN7 := hid (show p7 ≠ rb from fun e => by have := HL6.out; omega); clear Y7 B7 G7)
            | (with_reducible refine (CP.out q3 _ 0 0 _ HY3.out).mono ?_; rintro e w4 ⟨p4, c4, rfl, Y4, B4, G4⟩; have HY4 := hid Y4; have HR4 := hid (HR3.out.grow B4); have HK4 := hid (HK3.out.trans (HR3.out.kgrow B4)); have HN4 := hid (show p4 ≠ rb from fun e => by have := HL3.out; omega); clear Y4 B4 G4))
        | (go_at_call 46; first
            | (with_reducible refine (CW1.out _ p7 c7 HR7.out HY7.out HN7.out).mono ?_; rintro e w8 ⟨rfl, R8, K8⟩; have HR8 := hid R8; have HK8 := hid (HK7.out.trans K8); clear R8 K8)
            | (with_reducible refine (CW0.out _ p4 c4 HR4.out HY4.out HN4.out).mono ?_; rintro e w5 ⟨rfl, R5, K5⟩; have HR5 := hid R5; have HK5 := hid (HK4.out.trans K5); clear R5 K5))
        | (go_at_call 47; go_loud (with_reducible refine (CS.out _ HR8.out).mono ?_); rintro e w9 ⟨rfl, R9, K9⟩; have HR9 := hid R9; have HK9 := hid (HK8.out.trans K9); clear R9 K9)
        | fail)
      go_ret
      exact ⟨err_eq (by unfold seqErr; simp), by unfold seqDk; simp only [ne_eq, not_true_eq_false, if_false]; exact HR9.out, HK9.out⟩
    · have h1b : (E1 == 0) = false := by simpa using h1
      have HE := hid h1
      go_enter Try.func15, Try.ntmps15
      go_wp2_with (first
        | (go_at_call 45; go_loud (with_reducible refine C.out.mono ?_); rintro e w3 ⟨rfl, hw⟩; subst w3)
        | (go_at_call 32; first
            | (with_reducible refine (CH0.out _).mono ?_; rintro e w3 ⟨q3, c3, rfl, Y3, B3⟩; have HY3 := hid Y3; have HR3 := hid (HH.out.grow B3); have HK3 := hid (HH.out.kgrow B3); have HL3 := hid (Nat.lt_of_lt_of_le HH.out.dlt B3.size); clear Y3 B3 CH0)
            | (with_reducible refine (CH1.out _).mono ?_; rintro e w6 ⟨q6, c6, rfl, Y6, B6⟩; have HY6 := hid Y6; have HR6 := hid (HR5.out.grow B6); have HK6 := hid (HK5.out.trans (HR5.out.kgrow B6)); have HL6 := hid (Nat.lt_of_lt_of_le HR5.out.dlt B6.size); clear Y6 B6 CH1))
        | (go_at_call 31; first
            | (with_reducible refine (CP.out q6 _ 1 0 _ HY6.out).mono ?_; rintro e w7 ⟨p7, c7, rfl, Y7, B7, G7⟩; have HY7 := hid Y7; have HR7 := hid (HR6.out.grow B7); have HK7 := hid (HK6.out.trans (HR6.out.kgrow B7)); have HN7 := hid (show p7 ≠ rb from fun e => by have := HL6.out; omega); clear Y7 B7 G7)
            | (with_reducible refine (CP.out q3 _ 0 0 _ HY3.out).mono ?_; rintro e w4 ⟨p4, c4, rfl, Y4, B4, G4⟩; have HY4 := hid Y4; have HR4 := hid (HR3.out.grow B4); have HK4 := hid (HK3.out.trans (HR3.out.kgrow B4)); have HN4 := hid (show p4 ≠ rb from fun e => by have := HL3.out; omega); clear Y4 B4 G4))
        | (go_at_call 46; first
            | (with_reducible refine (CW1.out _ p7 c7 HR7.out HY7.out HN7.out).mono ?_; rintro e w8 ⟨rfl, R8, K8⟩; have HR8 := hid R8; have HK8 := hid (HK7.out.trans K8); clear R8 K8)
            | (with_reducible refine (CW0.out _ p4 c4 HR4.out HY4.out HN4.out).mono ?_; rintro e w5 ⟨rfl, R5, K5⟩; have HR5 := hid R5; have HK5 := hid (HK4.out.trans K5); clear R5 K5))
        | (go_at_call 47; go_loud (with_reducible refine (CS.out _ HR8.out).mono ?_); rintro e w9 ⟨rfl, R9, K9⟩; have HR9 := hid R9; have HK9 := hid (HK8.out.trans K9); clear R9 K9)
        | fail)
      go_ret
      exact ⟨err_eq (by unfold seqErr; rw [if_neg (by simp), if_pos HE.out]), by unfold seqDk; rw [if_neg (by simp), if_pos HE.out]; exact HR8.out, HK8.out⟩
  · have h0b : (E0 == 0) = false := by simpa using h0
    have HE := hid h0
    go_enter Try.func15, Try.ntmps15
    go_wp2_with (first
      | (go_at_call 45; go_loud (with_reducible refine C.out.mono ?_); rintro e w3 ⟨rfl, hw⟩; subst w3)
      | (go_at_call 32; first
          | (with_reducible refine (CH0.out _).mono ?_; rintro e w3 ⟨q3, c3, rfl, Y3, B3⟩; have HY3 := hid Y3; have HR3 := hid (HH.out.grow B3); have HK3 := hid (HH.out.kgrow B3); have HL3 := hid (Nat.lt_of_lt_of_le HH.out.dlt B3.size); clear Y3 B3 CH0)
          | (with_reducible refine (CH1.out _).mono ?_; rintro e w6 ⟨q6, c6, rfl, Y6, B6⟩; have HY6 := hid Y6; have HR6 := hid (HR5.out.grow B6); have HK6 := hid (HK5.out.trans (HR5.out.kgrow B6)); have HL6 := hid (Nat.lt_of_lt_of_le HR5.out.dlt B6.size); clear Y6 B6 CH1))
      | (go_at_call 31; first
          | (with_reducible refine (CP.out q6 _ 1 0 _ HY6.out).mono ?_; rintro e w7 ⟨p7, c7, rfl, Y7, B7, G7⟩; have HY7 := hid Y7; have HR7 := hid (HR6.out.grow B7); have HK7 := hid (HK6.out.trans (HR6.out.kgrow B7)); have HN7 := hid (show p7 ≠ rb from fun e => by have := HL6.out; omega); clear Y7 B7 G7)
          | (with_reducible refine (CP.out q3 _ 0 0 _ HY3.out).mono ?_; rintro e w4 ⟨p4, c4, rfl, Y4, B4, G4⟩; have HY4 := hid Y4; have HR4 := hid (HR3.out.grow B4); have HK4 := hid (HK3.out.trans (HR3.out.kgrow B4)); have HN4 := hid (show p4 ≠ rb from fun e => by have := HL3.out; omega); clear Y4 B4 G4))
      | (go_at_call 46; first
          | (with_reducible refine (CW1.out _ p7 c7 HR7.out HY7.out HN7.out).mono ?_; rintro e w8 ⟨rfl, R8, K8⟩; have HR8 := hid R8; have HK8 := hid (HK7.out.trans K8); clear R8 K8)
          | (with_reducible refine (CW0.out _ p4 c4 HR4.out HY4.out HN4.out).mono ?_; rintro e w5 ⟨rfl, R5, K5⟩; have HR5 := hid R5; have HK5 := hid (HK4.out.trans K5); clear R5 K5))
      | (go_at_call 47; go_loud (with_reducible refine (CS.out _ HR8.out).mono ?_); rintro e w9 ⟨rfl, R9, K9⟩; have HR9 := hid R9; have HK9 := hid (HK8.out.trans K9); clear R9 K9)
      | fail)
    go_ret
    exact ⟨err_eq (by unfold seqErr; rw [if_pos HE.out]), by unfold seqDk; rw [if_pos HE.out]; exact HR5.out, HK5.out⟩
theorem RW.format (h : RW s w0 w rb r Z) (hm : r.pend.length < 999990) :
    Calls Try.prog 15 #[.pointer (some ⟨rb, 0, none⟩)] w fun e w' => e = .returned (.int .i64 r.fmtErr) ∧ RW s w0 w' rb r.fmt Z ∧ Kept (old s Z) w w' := by
  by_cases hp : r.pages < 3
  · refine (rformat_few h hp).mono ?_
    rintro e w' ⟨he, rfl⟩
    have e1 : r.fmtErr = 2 := by unfold Dk.fmtErr; rw [if_pos hp]
    have e2 : r.fmt = r := by unfold Dk.fmt; rw [if_pos hp]
    rw [e1, e2]
    exact ⟨he, h, Kept.refl _ _⟩
  · have q := rformat_steps h hp hm
    rw [(r.fmt_seq hp).1, (r.fmt_seq hp).2] at q
    exact q
/-! ### Open -/
set_option maxHeartbeats 1000000 in
theorem ropen_few (h : RW s w0 w rb r Z) (hp : r.pages < 3) :
    Calls Try.prog 35 #[.pointer (some ⟨rb, 0, none⟩)] w fun e w' => e = .returned (.tuple #[.pointer none, .int .i64 2]) ∧ w' = w := by
  have C := hid h.pages
  have hp' : (r.pages : Int) < 3 := by omega
  clear h hp
  go_enter Try.func35, Try.ntmps35
  go_wp2_with (first
    | (go_at_call 45; go_loud (with_reducible refine C.out.mono ?_); rintro e w3 ⟨rfl, hw⟩; subst w3)
    | fail)
  go_ret2
  exact ⟨rfl, rfl⟩
set_option maxHeartbeats 1000000 in
theorem ropen_down (h : RW s w0 w rb r Z) (hp : ¬ r.pages < 3) (hd : r.down = true) :
    Calls Try.prog 35 #[.pointer (some ⟨rb, 0, none⟩)] w fun e w' => e = .returned (.tuple #[.pointer none, .int .i64 9]) ∧ w' = w := by
  have C := hid h.pages
  have hr : ∀ n, r.reach n = 9 := fun n => by unfold Dk.reach; rw [hd]; rfl
  have C2 := h.readBad 0 (by rw [hr]; decide)
  rw [hr] at C2
  have HC2 := hid C2
  have hp' : ¬ (r.pages : Int) < 3 := by omega
  clear h hp C2 hr
  go_enter Try.func35, Try.ntmps35
  go_wp2_with (first
    | (go_at_call 45; go_loud (with_reducible refine C.out.mono ?_); rintro e w3 ⟨rfl, hw⟩; subst w3)
    | (go_at_call 67; go_loud (with_reducible refine HC2.out.mono ?_); rintro e w3 ⟨rfl, hw⟩; subst w3)
    | fail)
  go_ret2
  exact ⟨rfl, rfl⟩
end Go.Proofs.Ytnecigbncggogaa
namespace Go.Proofs.Ytnecigbncggogaa
open Go.RowKit
set_option linter.unusedVariables false
set_option maxRecDepth 20000
variable {s : Nat} {w0 w : World} {rb : Nat} {r : Dk} {Z : Nat → Prop}

/-- What the document's Open ends with. -/
def ropEnd (w : World) (rb : Nat) (o : Option (Nat × Nat)) (e : Ending) (w' : World) : Prop :=
  Below w.heap.size w w' ∧ match o with
    | none => e = .returned (.tuple #[.pointer none, .int .i64 10])
    | some x => ∃ qb, w.heap.size ≤ qb ∧ e = .returned (.tuple #[.pointer (some ⟨qb, 0, none⟩), .int .i64 0]) ∧ Rag w' qb rb ⟨x.1, x.2, false⟩
set_option maxHeartbeats 8000000 in
theorem ropen_ok (h : RW s w0 w rb r Z) (hp : ¬ r.pages < 3) (hd : r.down = false) (hm : r.pend.length < 1000000) :
    Calls Try.prog 35 #[.pointer (some ⟨rb, 0, none⟩)] w (ropEnd w rb r.newestHead) := by
  have hpg := h.okk.pages
  have hr : ∀ k : Nat, k < 2 → r.reach (k : Int) = 0 := fun k hk => by unfold Dk.reach; rw [hd, if_neg (by decide), if_neg (by omega)]
  have CPg := hid (fun (w5 : World) (h5 : RW s w0 w5 rb r Z) => h5.pages)
  have CR0 : Hid (∀ (w5 : World), RW s w0 w5 rb r Z → Calls Try.prog 67 #[.pointer (some ⟨rb, 0, none⟩), .int .i64 0] w5 fun e w' => ∃ g c, e = .returned (.tuple #[.slice (some ⟨g, 0, none⟩) 512 c, .int .i64 0]) ∧ Byts w' (some ⟨g, 0, none⟩) (r.has 0) ∧ 512 ≤ c ∧ Below w5.heap.size w5 w') := fun w5 h5 => h5.read 0 (hr 0 (by decide)) hm
  have CR1 : Hid (∀ (w5 : World), RW s w0 w5 rb r Z → Calls Try.prog 67 #[.pointer (some ⟨rb, 0, none⟩), .int .i64 1] w5 fun e w' => ∃ g c, e = .returned (.tuple #[.slice (some ⟨g, 0, none⟩) 512 c, .int .i64 0]) ∧ Byts w' (some ⟨g, 0, none⟩) (r.has 1) ∧ 512 ≤ c ∧ Below w5.heap.size w5 w') := fun w5 h5 => h5.read 1 (hr 1 (by decide)) hm
  have CH0 : Hid (∀ (w5 : World) (g c : Nat), Byts w5 (some ⟨g, 0, none⟩) (r.has 0) → 512 ≤ c → Calls Try.prog 68 #[.slice (some ⟨g, 0, none⟩) 512 c, .int .i64 0, .int .i64 (r.pages : Int)] w5 fun e w' => (∃ x y : Int, e = .returned (.tuple #[.int .i64 x, .int .i64 y, .bool (readHead (r.has 0) 0 r.pages).isSome]) ∧ ∀ z, readHead (r.has 0) 0 r.pages = some z → x = (z.2 : Int) ∧ y = (z.1 : Int)) ∧ Below w5.heap.size w5 w') := fun w5 g c y hc => by
    refine (dochead_any g c (r.has 0) 0 r.pages w5 (h.okk.has _) hc (by omega) hpg (by decide) y).mono ?_
    rintro e w' ⟨⟨v, rfl, x, y, rfl, f⟩, B⟩
    exact ⟨⟨x, y, rfl, f⟩, B⟩
  have CH1 : Hid (∀ (w5 : World) (g c : Nat), Byts w5 (some ⟨g, 0, none⟩) (r.has 1) → 512 ≤ c → Calls Try.prog 68 #[.slice (some ⟨g, 0, none⟩) 512 c, .int .i64 1, .int .i64 (r.pages : Int)] w5 fun e w' => (∃ x y : Int, e = .returned (.tuple #[.int .i64 x, .int .i64 y, .bool (readHead (r.has 1) 1 r.pages).isSome]) ∧ ∀ z, readHead (r.has 1) 1 r.pages = some z → x = (z.2 : Int) ∧ y = (z.1 : Int)) ∧ Below w5.heap.size w5 w') := fun w5 g c y hc => by
    refine (dochead_any g c (r.has 1) 1 r.pages w5 (h.okk.has _) hc (by omega) hpg (by decide) y).mono ?_
    rintro e w' ⟨⟨v, rfl, x, y, rfl, f⟩, B⟩
    exact ⟨⟨x, y, rfl, f⟩, B⟩
  have HH := hid h
  have hp' : ¬ (r.pages : Int) < 3 := by omega
  have HNw : Hid (r.newestHead = newer (readHead (r.has 0) 0 r.pages) (readHead (r.has 1) 1 r.pages)) := rfl
  clear h hp hr hm hd
  generalize readHead (r.has 0) 0 r.pages = o0 at *
  generalize readHead (r.has 1) 1 r.pages = o1 at *
  generalize r.newestHead = o at *
  generalize r.has 0 = b0 at *
  generalize r.has 1 = b1 at *
  cases o0 with
  | none =>
    cases o1 with
    | none =>
      have HNw : Hid (o = none) := HNw
      simp only [Option.isSome] at CH0 CH1
      go_enter Try.func35, Try.ntmps35
      go_wp2_with (first
        | (go_at_call 45; first
            | (with_reducible refine (CPg.out _ HR5.out).mono ?_; rintro e w3 ⟨rfl, hw⟩; subst w3)
            | (with_reducible refine (CPg.out _ HR4.out).mono ?_; rintro e w3 ⟨rfl, hw⟩; subst w3)
            | (with_reducible refine (CPg.out _ HH.out).mono ?_; rintro e w3 ⟨rfl, hw⟩; subst w3))
        | (go_at_call 67; first
            | (with_reducible refine (CR1.out _ HR3.out).mono ?_; rintro e w4 ⟨g4, c4, rfl, Y4, L4, B4⟩; have HY4 := hid Y4; have HL4 := hid L4; have HZ4 := hid (HY3.out.below B4); have HR4 := hid (HR3.out.grow B4); have HB4 := hid (HB3.out.trans (B4.mono HB3.out.size)); clear Y4 L4 B4)
            | (with_reducible refine (CR0.out _ HH.out).mono ?_; rintro e w3 ⟨g3, c3, rfl, Y3, L3, B3⟩; have HY3 := hid Y3; have HL3 := hid L3; have HR3 := hid (HH.out.grow B3); have HB3 := hid B3; clear Y3 L3 B3))
        | (go_at_call 68; first
            | (with_reducible refine (CH1.out _ g4 c4 HY5.out HL4.out).mono ?_; rintro e w6 ⟨⟨x6, y6, rfl, F6⟩, B6⟩; have HR6 := hid (HR5.out.grow B6); have HB6 := hid (HB5.out.trans (B6.mono HB5.out.size)); clear F6 B6)
            | (with_reducible refine (CH0.out _ g3 c3 HZ4.out HL3.out).mono ?_; rintro e w5 ⟨⟨x5, y5, rfl, F5⟩, B5⟩; have HY5 := hid (HY4.out.below B5); have HR5 := hid (HR4.out.grow B5); have HB5 := hid (HB4.out.trans (B5.mono HB4.out.size)); clear F5 B5))
        | fail)
      go_ret2
      unfold ropEnd
      rw [HNw.out]
      exact ⟨HB6.out, rfl⟩
    | some z1 =>
      have HNw : Hid (o = some z1) := HNw
      simp only [Option.isSome] at CH0 CH1
      go_enter Try.func35, Try.ntmps35
      go_wp2_with (first
        | (go_at_call 45; first
            | (with_reducible refine (CPg.out _ HR5.out).mono ?_; rintro e w3 ⟨rfl, hw⟩; subst w3)
            | (with_reducible refine (CPg.out _ HR4.out).mono ?_; rintro e w3 ⟨rfl, hw⟩; subst w3)
            | (with_reducible refine (CPg.out _ HH.out).mono ?_; rintro e w3 ⟨rfl, hw⟩; subst w3))
        | (go_at_call 67; first
            | (with_reducible refine (CR1.out _ HR3.out).mono ?_; rintro e w4 ⟨g4, c4, rfl, Y4, L4, B4⟩; have HY4 := hid Y4; have HL4 := hid L4; have HZ4 := hid (HY3.out.below B4); have HR4 := hid (HR3.out.grow B4); have HB4 := hid (HB3.out.trans (B4.mono HB3.out.size)); clear Y4 L4 B4)
            | (with_reducible refine (CR0.out _ HH.out).mono ?_; rintro e w3 ⟨g3, c3, rfl, Y3, L3, B3⟩; have HY3 := hid Y3; have HL3 := hid L3; have HR3 := hid (HH.out.grow B3); have HB3 := hid B3; clear Y3 L3 B3))
        | (go_at_call 68; first
            | (with_reducible refine (CH1.out _ g4 c4 HY5.out HL4.out).mono ?_; rintro e w6 ⟨⟨x6, y6, rfl, F6⟩, B6⟩; obtain ⟨rfl, rfl⟩ := F6 _ rfl; have HR6 := hid (HR5.out.grow B6); have HB6 := hid (HB5.out.trans (B6.mono HB5.out.size)); clear F6 B6)
            | (with_reducible refine (CH0.out _ g3 c3 HZ4.out HL3.out).mono ?_; rintro e w5 ⟨⟨x5, y5, rfl, F5⟩, B5⟩; have HY5 := hid (HY4.out.below B5); have HR5 := hid (HR4.out.grow B5); have HB5 := hid (HB4.out.trans (B5.mono HB4.out.size)); clear F5 B5))
        | fail)
      have HN := hid (Blk.new w6 (rgcells rb ⟨z1.1, z1.2, false⟩) 54)
      go_ret2
      unfold ropEnd
      rw [HNw.out]
      exact ⟨HB6.out.alloc HB6.out.size _, _, HB6.out.size, rfl, HN.out⟩
  | some z0 =>
    cases o1 with
    | none =>
      have HNw : Hid (o = some z0) := HNw
      simp only [Option.isSome] at CH0 CH1
      go_enter Try.func35, Try.ntmps35
      go_wp2_with (first
        | (go_at_call 45; first
            | (with_reducible refine (CPg.out _ HR5.out).mono ?_; rintro e w3 ⟨rfl, hw⟩; subst w3)
            | (with_reducible refine (CPg.out _ HR4.out).mono ?_; rintro e w3 ⟨rfl, hw⟩; subst w3)
            | (with_reducible refine (CPg.out _ HH.out).mono ?_; rintro e w3 ⟨rfl, hw⟩; subst w3))
        | (go_at_call 67; first
            | (with_reducible refine (CR1.out _ HR3.out).mono ?_; rintro e w4 ⟨g4, c4, rfl, Y4, L4, B4⟩; have HY4 := hid Y4; have HL4 := hid L4; have HZ4 := hid (HY3.out.below B4); have HR4 := hid (HR3.out.grow B4); have HB4 := hid (HB3.out.trans (B4.mono HB3.out.size)); clear Y4 L4 B4)
            | (with_reducible refine (CR0.out _ HH.out).mono ?_; rintro e w3 ⟨g3, c3, rfl, Y3, L3, B3⟩; have HY3 := hid Y3; have HL3 := hid L3; have HR3 := hid (HH.out.grow B3); have HB3 := hid B3; clear Y3 L3 B3))
        | (go_at_call 68; first
            | (with_reducible refine (CH1.out _ g4 c4 HY5.out HL4.out).mono ?_; rintro e w6 ⟨⟨x6, y6, rfl, F6⟩, B6⟩; have HR6 := hid (HR5.out.grow B6); have HB6 := hid (HB5.out.trans (B6.mono HB5.out.size)); clear F6 B6)
            | (with_reducible refine (CH0.out _ g3 c3 HZ4.out HL3.out).mono ?_; rintro e w5 ⟨⟨x5, y5, rfl, F5⟩, B5⟩; obtain ⟨rfl, rfl⟩ := F5 _ rfl; have HY5 := hid (HY4.out.below B5); have HR5 := hid (HR4.out.grow B5); have HB5 := hid (HB4.out.trans (B5.mono HB4.out.size)); clear F5 B5))
        | fail)
      have HN := hid (Blk.new w6 (rgcells rb ⟨z0.1, z0.2, false⟩) 54)
      go_ret2
      unfold ropEnd
      rw [HNw.out]
      exact ⟨HB6.out.alloc HB6.out.size _, _, HB6.out.size, rfl, HN.out⟩
    | some z1 =>
      simp only [Option.isSome] at CH0 CH1
      by_cases hlt : z0.1 < z1.1
      · have HNw : Hid (o = some z1) := by have := HNw.out; simp only [newer] at this; rw [if_pos hlt] at this; exact this
        have hld : decide ((z0.1 : Int) < (z1.1 : Int)) = true := by simp; omega
        go_enter Try.func35, Try.ntmps35
        go_wp2_with (first
          | (go_at_call 45; first
              | (with_reducible refine (CPg.out _ HR5.out).mono ?_; rintro e w3 ⟨rfl, hw⟩; subst w3)
              | (with_reducible refine (CPg.out _ HR4.out).mono ?_; rintro e w3 ⟨rfl, hw⟩; subst w3)
              | (with_reducible refine (CPg.out _ HH.out).mono ?_; rintro e w3 ⟨rfl, hw⟩; subst w3))
          | (go_at_call 67; first
              | (with_reducible refine (CR1.out _ HR3.out).mono ?_; rintro e w4 ⟨g4, c4, rfl, Y4, L4, B4⟩; have HY4 := hid Y4; have HL4 := hid L4; have HZ4 := hid (HY3.out.below B4); have HR4 := hid (HR3.out.grow B4); have HB4 := hid (HB3.out.trans (B4.mono HB3.out.size)); clear Y4 L4 B4)
              | (with_reducible refine (CR0.out _ HH.out).mono ?_; rintro e w3 ⟨g3, c3, rfl, Y3, L3, B3⟩; have HY3 := hid Y3; have HL3 := hid L3; have HR3 := hid (HH.out.grow B3); have HB3 := hid B3; clear Y3 L3 B3))
          | (go_at_call 68; first
              | (with_reducible refine (CH1.out _ g4 c4 HY5.out HL4.out).mono ?_; rintro e w6 ⟨⟨x6, y6, rfl, F6⟩, B6⟩; obtain ⟨rfl, rfl⟩ := F6 _ rfl; have HR6 := hid (HR5.out.grow B6); have HB6 := hid (HB5.out.trans (B6.mono HB5.out.size)); clear F6 B6)
              | (with_reducible refine (CH0.out _ g3 c3 HZ4.out HL3.out).mono ?_; rintro e w5 ⟨⟨x5, y5, rfl, F5⟩, B5⟩; obtain ⟨rfl, rfl⟩ := F5 _ rfl; have HY5 := hid (HY4.out.below B5); have HR5 := hid (HR4.out.grow B5); have HB5 := hid (HB4.out.trans (B5.mono HB4.out.size)); clear F5 B5))
          | fail)
        have HN := hid (Blk.new w6 (rgcells rb ⟨z1.1, z1.2, false⟩) 54)
        go_ret2
        unfold ropEnd
        rw [HNw.out]
        exact ⟨HB6.out.alloc HB6.out.size _, _, HB6.out.size, rfl, HN.out⟩
      · have HNw : Hid (o = some z0) := by have := HNw.out; simp only [newer] at this; rw [if_neg hlt] at this; exact this
        have hld : decide ((z0.1 : Int) < (z1.1 : Int)) = false := by simp; omega
        have hlp : ¬ ((z0.1 : Int) < (z1.1 : Int)) := by omega
        go_enter Try.func35, Try.ntmps35
        go_wp2_with (first
          | (go_at_call 45; first
              | (with_reducible refine (CPg.out _ HR5.out).mono ?_; rintro e w3 ⟨rfl, hw⟩; subst w3)
              | (with_reducible refine (CPg.out _ HR4.out).mono ?_; rintro e w3 ⟨rfl, hw⟩; subst w3)
              | (with_reducible refine (CPg.out _ HH.out).mono ?_; rintro e w3 ⟨rfl, hw⟩; subst w3))
          | (go_at_call 67; first
              | (with_reducible refine (CR1.out _ HR3.out).mono ?_; rintro e w4 ⟨g4, c4, rfl, Y4, L4, B4⟩; have HY4 := hid Y4; have HL4 := hid L4; have HZ4 := hid (HY3.out.below B4); have HR4 := hid (HR3.out.grow B4); have HB4 := hid (HB3.out.trans (B4.mono HB3.out.size)); clear Y4 L4 B4)
              | (with_reducible refine (CR0.out _ HH.out).mono ?_; rintro e w3 ⟨g3, c3, rfl, Y3, L3, B3⟩; have HY3 := hid Y3; have HL3 := hid L3; have HR3 := hid (HH.out.grow B3); have HB3 := hid B3; clear Y3 L3 B3))
          | (go_at_call 68; first
              | (with_reducible refine (CH1.out _ g4 c4 HY5.out HL4.out).mono ?_; rintro e w6 ⟨⟨x6, y6, rfl, F6⟩, B6⟩; obtain ⟨rfl, rfl⟩ := F6 _ rfl; have HR6 := hid (HR5.out.grow B6); have HB6 := hid (HB5.out.trans (B6.mono HB5.out.size)); clear F6 B6)
              | (with_reducible refine (CH0.out _ g3 c3 HZ4.out HL3.out).mono ?_; rintro e w5 ⟨⟨x5, y5, rfl, F5⟩, B5⟩; obtain ⟨rfl, rfl⟩ := F5 _ rfl; have HY5 := hid (HY4.out.below B5); have HR5 := hid (HR4.out.grow B5); have HB5 := hid (HB4.out.trans (B5.mono HB4.out.size)); clear F5 B5))
          | fail)
        have HN := hid (Blk.new w6 (rgcells rb ⟨z0.1, z0.2, false⟩) 54)
        go_ret2
        unfold ropEnd
        rw [HNw.out]
        exact ⟨HB6.out.alloc HB6.out.size _, _, HB6.out.size, rfl, HN.out⟩
theorem RW.open_ (h : RW s w0 w rb r Z) (hm : r.pend.length < 1000000) :
    Calls Try.prog 35 #[.pointer (some ⟨rb, 0, none⟩)] w fun e w' => Below w.heap.size w w' ∧ (r.openErr ≠ 0 → e = .returned (.tuple #[.pointer none, .int .i64 r.openErr])) ∧ (r.openErr = 0 → ∃ qb x, r.newestHead = some x ∧ w.heap.size ≤ qb ∧ e = .returned (.tuple #[.pointer (some ⟨qb, 0, none⟩), .int .i64 0]) ∧ Rag w' qb rb ⟨x.1, x.2, false⟩) := by
  unfold Dk.openErr
  by_cases hp : r.pages < 3
  · rw [if_pos hp]
    refine (ropen_few h hp).mono ?_
    rintro e w' ⟨he, rfl⟩
    exact ⟨Below.refl _ _, fun _ => he, fun q => by cases q⟩
  · rw [if_neg hp]
    cases hd : r.down
    · rw [if_neg (by decide)]
      refine (ropen_ok h hp hd hm).mono ?_
      rintro e w' ⟨B, he⟩
      cases hN : r.newestHead with
      | none =>
        rw [hN] at he
        rw [if_pos rfl]
        exact ⟨B, fun _ => he, fun q => by cases q⟩
      | some x =>
        rw [hN] at he
        rw [if_neg (by simp)]
        obtain ⟨pb, h1, h2, h3⟩ := he
        exact ⟨B, fun q => absurd rfl q, fun _ => ⟨pb, x, rfl, h1, h2, h3⟩⟩
    · rw [if_pos rfl]
      refine (ropen_down h hp hd).mono ?_
      rintro e w' ⟨he, rfl⟩
      exact ⟨Below.refl _ _, fun _ => he, fun q => by cases q⟩
end Go.Proofs.Ytnecigbncggogaa
namespace Go.Proofs.Ytnecigbncggogaa
open Go.RowKit
set_option linter.unusedVariables false
set_option maxRecDepth 20000
variable {s : Nat} {w0 w : World} {rb : Nat} {r : Dk} {Z : Nat → Prop}

theorem reach_in5 {d : Dk} {n : Int} (hr : d.rangeErr n = true) : d.reach n = if d.down then 9 else 0 := by
  simp only [Dk.rangeErr, decide_eq_true_eq] at hr
  unfold Dk.reach
  cases d.down
  · rw [if_neg (by decide), if_neg (by omega), if_neg (by decide)]
  · rfl
set_option maxHeartbeats 1000000 in
theorem dread_range (qb : Nat) (n : Int) (k : Pk) (h : RW s w0 w rb r Z) (P : Rag w qb rb k) (hr : r.rangeErr n = false) :
    Calls Try.prog 36 #[.pointer (some ⟨qb, 0, none⟩), .int .i64 n] w fun e w' => e = .returned (.tuple #[.slice none 0 0, .int .i64 2]) ∧ w' = w := by
  have C1 := hid (dochas_any qb n k h P)
  rw [hr] at C1
  clear h P
  go_enter Try.func36, Try.ntmps36
  go_wp2_with (first
    | (go_at_call 69; go_loud (with_reducible refine C1.out.mono ?_); rintro e w3 ⟨rfl, hw⟩; subst w3)
    | fail)
  go_ret2
  exact ⟨rfl, rfl⟩
set_option maxHeartbeats 1000000 in
theorem dread_down (qb : Nat) (n : Int) (k : Pk) (h : RW s w0 w rb r Z) (P : Rag w qb rb k) (hr : r.rangeErr n = true) (hd : r.down = true) :
    Calls Try.prog 36 #[.pointer (some ⟨qb, 0, none⟩), .int .i64 n] w fun e w' => e = .returned (.tuple #[.slice none 0 0, .int .i64 9]) ∧ w' = w := by
  have C1 := hid (dochas_any qb n k h P)
  rw [hr] at C1
  have e9 : r.reach n = 9 := by rw [reach_in5 hr, hd]; rfl
  have C3 := h.readBad n (by rw [e9]; decide)
  rw [e9] at C3
  have HC3 := hid C3
  obtain ⟨p0, p1, p2, p3, pf⟩ := P.cells
  clear h P C3 e9
  go_enter Try.func36, Try.ntmps36
  go_wp2_with (first
    | (go_at_call 69; go_loud (with_reducible refine C1.out.mono ?_); rintro e w3 ⟨rfl, hw⟩; subst w3)
    | (go_at_call 67; go_loud (with_reducible refine HC3.out.mono ?_); rintro e w3 ⟨rfl, hw⟩; subst w3)
    | fail)
  go_ret2
  exact ⟨rfl, rfl⟩
set_option maxHeartbeats 2000000 in
theorem dread_up (qb : Nat) (n : Int) (k : Pk) (h : RW s w0 w rb r Z) (P : Rag w qb rb k) (hr : r.rangeErr n = true) (hd : r.down = false) (hm : r.pend.length < 1000000) :
    Calls Try.prog 36 #[.pointer (some ⟨qb, 0, none⟩), .int .i64 n] w fun e w' => Below w.heap.size w w' ∧ (right (r.has n) = false → e = .returned (.tuple #[.slice none 0 0, .int .i64 10])) ∧ (right (r.has n) = true → ∃ g c, e = .returned (.tuple #[.slice (some ⟨g, 0, none⟩) 508 c, .int .i64 0]) ∧ Byts w' (some ⟨g, 0, none⟩) ((r.has n).take 508)) := by
  have C1 := hid (dochas_any qb n k h P)
  rw [hr] at C1
  have e0 : r.reach n = 0 := by rw [reach_in5 hr, hd]; rfl
  have C3 := hid (h.read n e0 hm)
  have hln := h.okk.has n
  have CP : Hid (∀ (w5 : World) (g c : Nat), Byts w5 (some ⟨g, 0, none⟩) (r.has n) → Calls Try.prog 31 #[.slice (some ⟨g, 0, none⟩) 508 c] w5 fun e w' => ∃ q cq, e = .returned (.slice (some ⟨q, 0, none⟩) 512 cq) ∧ (convert 22 9 (.slice (some ⟨q, 0, none⟩) 512 cq)).run Try.prog w' = .ok (.string ⟨(sealed ((r.has n).take 508)).toArray⟩) w' ∧ Below w5.heap.size w5 w') := fun w5 g c y => rpage_ex g c (r.has n) w5 hln y
  have HCV : Hid (∀ (w5 : World) (g c : Nat), Byts w5 (some ⟨g, 0, none⟩) (r.has n) → (convert 22 9 (.slice (some ⟨g, 0, none⟩) 512 c)).run Try.prog w5 = .ok (.string ⟨(r.has n).toArray⟩) w5) := fun w5 g c y => by
    have := conv_byts c y
    rwa [hln] at this
  have HRt : Hid (right (r.has n) = (sealed ((r.has n).take 508) == r.has n)) := rfl
  obtain ⟨p0, p1, p2, p3, pf⟩ := P.cells
  clear h P hln e0
  generalize r.has n = b at *
  generalize sealed (b.take 508) = X at *
  cases hR : right b
  · have hne : (b == X) = false := by
      have := HRt.out
      rw [hR] at this
      rw [beq_eq_false_iff_ne]
      intro e
      rw [e] at this
      simp at this
    go_enter Try.func36, Try.ntmps36
    go_wp2_with (first
      | (go_at_call 69; go_loud (with_reducible refine C1.out.mono ?_); rintro e w3 ⟨rfl, hw⟩; subst w3)
      | (go_at_call 67; go_loud (with_reducible refine C3.out.mono ?_); rintro e w3 ⟨g, c, rfl, Y3, L3, B3⟩; have HY3 := hid Y3; have HB3 := hid B3; have v3 := HCV.out w3.drew g c Y3.drew; have HC4 := hid (CP.out w3.drew g c Y3.drew); clear Y3 B3)
      | fail)
    have hc5 : (508 : Int) ≤ (c : Int) := by omega
    have hc8 : 508 ≤ c := by omega
    go_region_held_law (fun w' => (convert 22 9 (.slice (some ⟨g, 0, none⟩) 512 c)).run Try.prog w' = .ok (.string ⟨b.toArray⟩) w') (first | exact v3 | exact HV4.out)
      (first
        | (go_at_call 31; go_loud (with_reducible refine HC4.out.mono ?_); rintro e w4 ⟨q, cq, rfl, u4, B4⟩; have HB4 : Hid (Below w.heap.size w w4) := HB3.out.trans (((Below.refl _ _).drew.trans B4).mono HB3.out.size); have HV4 := hid (HCV.out w4 g c ((HY3.out.drew).below B4)); clear B4)
        | fail)
    all_goals go_wp2
    all_goals go_ret2
    exact ⟨HB4.out, fun _ => rfl, (fun q => by cases q)⟩
  · have hne : (b == X) = true := by
      have := HRt.out
      rw [hR] at this
      rw [beq_iff_eq]
      exact (beq_iff_eq.1 this.symm).symm
    go_enter Try.func36, Try.ntmps36
    go_wp2_with (first
      | (go_at_call 69; go_loud (with_reducible refine C1.out.mono ?_); rintro e w3 ⟨rfl, hw⟩; subst w3)
      | (go_at_call 67; go_loud (with_reducible refine C3.out.mono ?_); rintro e w3 ⟨g, c, rfl, Y3, L3, B3⟩; have HY3 := hid Y3; have HB3 := hid B3; have v3 := HCV.out w3.drew g c Y3.drew; have HC4 := hid (CP.out w3.drew g c Y3.drew); clear Y3 B3)
      | fail)
    have hc5 : (508 : Int) ≤ (c : Int) := by omega
    have hc8 : 508 ≤ c := by omega
    go_region_held_law (fun w' => (convert 22 9 (.slice (some ⟨g, 0, none⟩) 512 c)).run Try.prog w' = .ok (.string ⟨b.toArray⟩) w') (first | exact v3 | exact HV4.out)
      (first
        | (go_at_call 31; go_loud (with_reducible refine HC4.out.mono ?_); rintro e w4 ⟨q, cq, rfl, u4, B4⟩; have HB4 : Hid (Below w.heap.size w w4) := HB3.out.trans (((Below.refl _ _).drew.trans B4).mono HB3.out.size); have HV4 := hid (HCV.out w4 g c ((HY3.out.drew).below B4)); have HY4 := hid ((HY3.out.drew).below B4); clear B4)
        | fail)
    all_goals go_wp2
    all_goals go_ret2
    exact ⟨HB4.out, (fun q => by cases q), fun _ => ⟨_, _, rfl, HY4.out.tk5 508⟩⟩
theorem RW.pread (qb : Nat) (n : Int) (k : Pk) (h : RW s w0 w rb r Z) (P : Rag w qb rb k) (hm : r.pend.length < 1000000) :
    Calls Try.prog 36 #[.pointer (some ⟨qb, 0, none⟩), .int .i64 n] w fun e w' => Below w.heap.size w w' ∧ (r.rdErr n ≠ 0 → e = .returned (.tuple #[.slice none 0 0, .int .i64 (r.rdErr n)])) ∧ (r.rdErr n = 0 → ∃ g c, e = .returned (.tuple #[.slice (some ⟨g, 0, none⟩) 508 c, .int .i64 0]) ∧ Byts w' (some ⟨g, 0, none⟩) ((r.has n).take 508)) := by
  unfold Dk.rdErr
  cases hr : r.rangeErr n
  · rw [if_pos rfl]
    refine (dread_range qb n k h P hr).mono ?_
    rintro e w' ⟨he, rfl⟩
    exact ⟨Below.refl _ _, fun _ => he, fun q => by cases q⟩
  · rw [if_neg (by decide)]
    cases hd : r.down
    · rw [if_neg (by decide)]
      refine (dread_up qb n k h P hr hd hm).mono ?_
      rintro e w' ⟨B, h1, h2⟩
      cases hR : right (r.has n)
      · rw [if_pos rfl]
        exact ⟨B, fun _ => h1 hR, fun q => by cases q⟩
      · rw [if_neg (by decide)]
        exact ⟨B, fun q => absurd rfl q, fun _ => h2 hR⟩
    · rw [if_pos rfl]
      refine (dread_down qb n k h P hr hd).mono ?_
      rintro e w' ⟨he, rfl⟩
      exact ⟨Below.refl _ _, fun _ => he, fun q => by cases q⟩
/-! ### Write -/
set_option maxHeartbeats 1000000 in
theorem dwrite_range (qb : Nat) (n : Int) (v : Value) (k : Pk) (h : RW s w0 w rb r Z) (P : Rag w qb rb k) (hr : r.rangeErr n = false) :
    Calls Try.prog 51 #[.pointer (some ⟨qb, 0, none⟩), .int .i64 n, v] w fun e w' => e = .returned (.int .i64 2) ∧ w' = w := by
  have C1 := hid (dochas_any qb n k h P)
  rw [hr] at C1
  clear h P
  go_enter Try.func51, Try.ntmps51
  go_wp2_with (first
    | (go_at_call 69; go_loud (with_reducible refine C1.out.mono ?_); rintro e w3 ⟨rfl, hw⟩; subst w3)
    | fail)
  go_ret
  exact ⟨rfl, rfl⟩
set_option maxHeartbeats 1000000 in
theorem dwrite_len (qb : Nat) (n : Int) (sp : Option Addr) (m c : Nat) (k : Pk) (h : RW s w0 w rb r Z) (P : Rag w qb rb k) (hr : r.rangeErr n = true) (hm : m ≠ 508) :
    Calls Try.prog 51 #[.pointer (some ⟨qb, 0, none⟩), .int .i64 n, .slice sp m c] w fun e w' => e = .returned (.int .i64 3) ∧ w' = w := by
  have C1 := hid (dochas_any qb n k h P)
  rw [hr] at C1
  have hm1 : ((m : Int) == 508) = false := by simp; omega
  have hm2 : ¬ ((m : Int) = 508) := by omega
  clear h P hm
  go_enter Try.func51, Try.ntmps51
  go_wp2_with (first
    | (go_at_call 69; go_loud (with_reducible refine C1.out.mono ?_); rintro e w3 ⟨rfl, hw⟩; subst w3)
    | fail)
  go_ret
  exact ⟨rfl, rfl⟩
set_option maxHeartbeats 1000000 in
theorem dwrite_ok (qb : Nat) (n : Int) (g off c : Nat) (b : List UInt8) (k : Pk) (h : RW s w0 w rb r Z) (P : Rag w qb rb k) (hz : Z qb) (hr : r.rangeErr n = true) (hb : b.length = 508) (hy : Byts w (some ⟨g, off, none⟩) b) (hm : r.pend.length < 1000000) :
    Calls Try.prog 51 #[.pointer (some ⟨qb, 0, none⟩), .int .i64 n, .slice (some ⟨g, off, none⟩) 508 c] w fun e w' => e = .returned (.int .i64 (r.wrErr n (sealed b))) ∧ RW s w0 w' rb (r.wr n (sealed b)) Z ∧ Kept (old s Z) w w' := by
  have C1 := hid (dochas_any qb n k h P)
  rw [hr] at C1
  obtain ⟨p0, p1, p2, p3, pf⟩ := P.cells
  have C3 := hid (rpage_any g off c b w.drew hb hy.drew)
  have HH := hid h
  have HP := hid P
  have hdl := h.dlt
  have hzz := hid hz
  have C4 : Hid (∀ (w5 : World) (q cq : Nat), RW s w0 w5 rb r Z → Byts w5 (some ⟨q, 0, none⟩) (sealed b) → w.heap.size ≤ q → Calls Try.prog 46 #[.pointer (some ⟨rb, 0, none⟩), .int .i64 n, .slice (some ⟨q, 0, none⟩) 512 cq] w5 fun e w' => e = .returned (.int .i64 (r.wrErr n (sealed b))) ∧ RW s w0 w' rb (r.wr n (sealed b)) Z ∧ Kept (old s Z) w5 w') := fun w5 q cq h5 b5 hq => by
    have := h5.write n (some ⟨q, 0, none⟩) (sealed b) cq b5 (fun g off e => by simp only [Option.some.injEq, Addr.mk.injEq, and_true] at e; rw [← e.1]; exact Or.inr (Or.inr (by omega))) hm
    rwa [sealed_len, hb] at this
  clear h P hb hy hz
  go_enter Try.func51, Try.ntmps51
  go_wp2_with (first
    | (go_at_call 69; go_loud (with_reducible refine C1.out.mono ?_); rintro e w3 ⟨rfl, hw⟩; subst w3)
    | fail)
  go_region_held_law (fun w' => w'.cell? ⟨qb, 0, none⟩ = some (.pointer (some ⟨rb, 0, none⟩))) (first | exact p0 | exact HP5.out.cells.1 | exact HP4.out.cells.1)
    (first
      | (go_at_call 31; go_loud (with_reducible refine C3.out.mono ?_); rintro e w4 ⟨q, cq, rfl, B4, L4, Q4⟩; have HB4 := hid B4; have HL4 : Hid (Below w.heap.size w w4) := (Below.refl _ _).drew.trans L4; have HQ4 : Hid (w.heap.size ≤ q) := Q4; have HD4 := hid (HH.out.grow HL4.out); have HP4 := hid (HP.out.below HL4.out); clear B4 L4 Q4)
      | (go_at_call 46; go_loud (with_reducible refine (C4.out _ q cq HD4.out HB4.out HQ4.out).mono ?_); rintro e w5 ⟨rfl, D5, K5⟩; have HD5 := hid D5; have HP5 := hid (HP4.out.kept K5 (Or.inr hzz.out)); have HK5 := hid ((HH.out.kgrow HL4.out).trans K5); clear D5 K5)
      | fail)
  all_goals go_wp2
  all_goals go_ret
  all_goals exact ⟨rfl, HD5.out, HK5.out⟩
theorem RW.pwrite (qb : Nat) (n : Int) (sp : Option Addr) (c : Nat) (b : List UInt8) (k : Pk) (h : RW s w0 w rb r Z) (P : Rag w qb rb k) (hz : Z qb) (hy : Byts w sp b) (hm : r.pend.length < 1000000) :
    Calls Try.prog 51 #[.pointer (some ⟨qb, 0, none⟩), .int .i64 n, .slice sp b.length c] w fun e w' => e = .returned (.int .i64 (r.pwErr n b)) ∧ RW s w0 w' rb (r.pw n b) Z ∧ Kept (old s Z) w w' := by
  unfold Dk.pwErr Dk.pw
  cases hr : r.rangeErr n
  · simp only [if_true]
    refine (dwrite_range qb n _ k h P hr).mono ?_
    rintro e w' ⟨he, rfl⟩
    exact ⟨he, h, Kept.refl _ _⟩
  · simp only [Bool.true_eq_false, if_false]
    by_cases hb : b.length = 508
    · obtain ⟨g, off, rfl, hc⟩ := hy.resolve_left (by rintro rfl; simp at hb)
      simp only [hb, ne_eq, not_true_eq_false, if_false]
      exact dwrite_ok qb n g off c b k h P hz hr hb (Or.inr ⟨g, off, rfl, hc⟩) hm
    · simp only [hb, ne_eq, not_false_eq_true, if_true]
      refine (dwrite_len qb n sp b.length c k h P hr hb).mono ?_
      rintro e w' ⟨he, rfl⟩
      exact ⟨he, h, Kept.refl _ _⟩
end Go.Proofs.Ytnecigbncggogaa
