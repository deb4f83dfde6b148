/- What the document's Commit does. Condition: fewer than a million writes are pending; the generation is below 2^63 - 8. -/
import Derived.Test.YtnecigbncggogaaPgJoinC
import Derived.Test.YtnecigbncggogaaPgCommit
namespace Go.Proofs.Ytnecigbncggogaa
open Go.RowKit
set_option linter.unusedVariables false
set_option maxRecDepth 20000
variable {s : Nat} {w0 w : World} {rb : Nat} {r : Dk} {Z : Nat → Prop}

theorem slotw (G : Nat) (h : G < 9223372036854775800) : ∃ S : Nat, S = (G + 1) % 2 ∧ ((G : Int) + 1).tmod 2 = (S : Int) ∧ IntKind.i64.wrap ((G : Int) + 1) = (G : Int) + 1 ∧ IntKind.i64.wrap (S : Int) = (S : Int) ∧ Hid (G + 1 < 9223372036854775808) := by
  refine ⟨(G + 1) % 2, rfl, rfl, ?_, wrap_i64 (by omega), show _ < _ by omega⟩
  exact wrap_i64 (x := G + 1) (by omega)
/-- What the document's steps end with. -/
def dstEnd (s : Nat) (w0 w : World) (rb : Nat) (E : Int) (D : Dk) (Z : Nat → Prop) (e : Ending) (w' : World) : Prop := e = .returned (.int .i64 E) ∧ RW s w0 w' rb D Z ∧ Kept (old s Z) w w'
set_option maxHeartbeats 4000000 in
theorem dsteps (qb : Nat) (n : Nat) (k : Pk) (h : RW s w0 w rb r Z) (P : Rag w qb rb k) (hz : Z qb) (hk : k.gen < 9223372036854775800) (hn : n < 9223372036854775808) (hp : 3 ≤ r.pages) (hm : r.pend.length < 999990) :
    Calls Try.prog 76 #[.pointer (some ⟨qb, 0, none⟩), .int .i64 (n : Int)] w (dstEnd s w0 w rb (r.cmErr (k.gen + 1) n) (r.cm (k.gen + 1) n) Z) := by
  obtain ⟨G, R, f⟩ := k
  obtain ⟨S, hS, htm, hGw, hSw, HG1⟩ := slotw G hk
  obtain ⟨p0, p1, p2, p3, pf⟩ := P.cells
  have HP := hid P
  have HZ := hid hz
  have HH := hid h
  have hdl := h.dlt
  have hX5 : (headPage (G + 1) n).length = 512 := headPage_len (G + 1) n
  have C1 := h.sync (by omega)
  have C2 : ∀ (w5 : World) (q cq : Nat), RW s w0 w5 rb r.sy Z → Byts w5 (some ⟨q, 0, none⟩) (headPage (G + 1) n) → q ≠ rb → Calls Try.prog 46 #[.pointer (some ⟨rb, 0, none⟩), .int .i64 (S : Int), .slice (some ⟨q, 0, none⟩) 512 cq] w5 fun e w' => e = .returned (.int .i64 (r.sy.wrErr (S : Int) (headPage (G + 1) n))) ∧ RW s w0 w' rb (r.sy.wr (S : Int) (headPage (G + 1) n)) Z ∧ Kept (old s Z) w5 w' := fun w5 q cq h5 b5 hq => by
    have := h5.write (S : Int) (some ⟨q, 0, none⟩) (headPage (G + 1) n) cq b5 (fun g off e => by simp only [Option.some.injEq, Addr.mk.injEq, and_true] at e; rw [← e.1]; exact Or.inr (Or.inr hq)) (by have := r.pend_sy; omega)
    rwa [hX5] at this
  have C3 : ∀ w5 : World, RW s w0 w5 rb (r.sy.wr (S : Int) (headPage (G + 1) n)) Z → Calls Try.prog 47 #[.pointer (some ⟨rb, 0, none⟩)] w5 fun e w' => e = .returned (.int .i64 (r.sy.wr (S : Int) (headPage (G + 1) n)).syErr) ∧ RW s w0 w' rb (r.sy.wr (S : Int) (headPage (G + 1) n)).sy Z ∧ Kept (old s Z) w5 w' := fun w5 h5 => h5.sync (by have := r.pend_sy; have := r.sy.pend_wr (S : Int) (headPage (G + 1) n); omega)
  have CH : Hid (∀ w5 : World, Calls Try.prog 32 #[.int .i64 ((G : Int) + 1), .int .i64 (n : Int)] w5 fun e w' => ∃ q cq, e = .returned (.slice (some ⟨q, 0, none⟩) 508 cq) ∧ Byts w' (some ⟨q, 0, none⟩) (headLoad (G + 1) n) ∧ Below w5.heap.size w5 w' ∧ w5.heap.size ≤ q) := fun w5 => rhead_any (G + 1) n w5 HG1.out hn
  have CP : Hid (∀ (w5 : World) (q cq : Nat), Byts w5 (some ⟨q, 0, none⟩) (headLoad (G + 1) n) → Calls Try.prog 31 #[.slice (some ⟨q, 0, none⟩) 508 cq] w5 fun e w' => ∃ q cq, e = .returned (.slice (some ⟨q, 0, none⟩) 512 cq) ∧ Byts w' (some ⟨q, 0, none⟩) (headPage (G + 1) n) ∧ Below w5.heap.size w5 w' ∧ w5.heap.size ≤ q) := fun w5 q cq y => rpage_any q 0 cq (headLoad (G + 1) n) w5 (headLoad_len (G + 1) n) y
  have hE : ∃ (E1 E2 E3 : Int) (D1 D2 D3 : Dk), E1 = r.syErr ∧ D1 = r.sy ∧ E2 = r.sy.wrErr (S : Int) (headPage (G + 1) n) ∧ D2 = r.sy.wr (S : Int) (headPage (G + 1) n) ∧ E3 = (r.sy.wr (S : Int) (headPage (G + 1) n)).syErr ∧ D3 = (r.sy.wr (S : Int) (headPage (G + 1) n)).sy := ⟨_, _, _, _, _, _, rfl, rfl, rfl, rfl, rfl, rfl⟩
  have hc1 : r.syErr = 0 ∨ r.syErr = 9 := r.syErr_cases
  have hc2 : r.sy.wrErr (S : Int) (headPage (G + 1) n) = 0 ∨ r.sy.wrErr (S : Int) (headPage (G + 1) n) = 9 := by
    have := Dk.wrErr_cases r.sy (S : Int) (headPage (G + 1) n) (by omega) (by rw [Dk.sy_pages]; omega) hX5
    exact this
  have e1 : r.cmErr (G + 1) n = if r.syErr ≠ 0 then r.syErr else if r.sy.wrErr (S : Int) (headPage (G + 1) n) ≠ 0 then r.sy.wrErr (S : Int) (headPage (G + 1) n) else (r.sy.wr (S : Int) (headPage (G + 1) n)).syErr := by rw [hS]; rfl
  have e2 : r.cm (G + 1) n = if r.syErr ≠ 0 then r.sy else if r.sy.wrErr (S : Int) (headPage (G + 1) n) ≠ 0 then r.sy.wr (S : Int) (headPage (G + 1) n) else (r.sy.wr (S : Int) (headPage (G + 1) n)).sy := by rw [hS]; rfl
  show Calls _ _ _ _ (dstEnd s w0 w rb (r.cmErr (G + 1) n) (r.cm (G + 1) n) Z)
  rw [e1, e2]
  generalize r.syErr = E1 at *
  generalize r.sy.wrErr (S : Int) (headPage (G + 1) n) = E2 at *
  generalize (r.sy.wr (S : Int) (headPage (G + 1) n)).syErr = E3 at *
  generalize (r.sy.wr (S : Int) (headPage (G + 1) n)).sy = D3 at *
  generalize r.sy.wr (S : Int) (headPage (G + 1) n) = D2 at *
  generalize r.sy = D1 at *
  generalize headPage (G + 1) n = X at *
  generalize headLoad (G + 1) n = Y at *
  have HC1 := hid C1
  have HC2 := hid C2
  have HC3 := hid C3
  clear C1 C2 C3 hE e1 e2 h P hz hk hn hp hm hX5 hS
  rcases hc1 with rfl | rfl
  · rcases hc2 with rfl | rfl
    · simp only [ne_eq, not_true_eq_false, if_false]
      unfold dstEnd
      go_enter Try.func76, Try.ntmps76
      go_wp2_with (first
        | (go_at_call 47; go_loud (with_reducible refine HC1.out.mono ?_); rintro e w3 ⟨rfl, D3', K3⟩; have HR3 := hid D3'; have HK3 := hid K3; have HP3 := hid (HP.out.kept K3 (Or.inr HZ.out)); obtain ⟨y0, y1, y2, y3, yf⟩ := HP3.out.cells; clear D3' K3 HC1)
        | fail)
      go_region_held_law (fun w' => w'.cell? ⟨qb, 0, none⟩ = some (.pointer (some ⟨rb, 0, none⟩)) ∧ w'.cell? ⟨qb, 2, none⟩ = some (.int .i64 (G : Int))) (first | exact ⟨y0, y2⟩ | exact ⟨HP4.out.cells.1, HP4.out.cells.2.2.1⟩ | exact ⟨HP5.out.cells.1, HP5.out.cells.2.2.1⟩ | exact ⟨HP6.out.cells.1, HP6.out.cells.2.2.1⟩)
        (first
          | (go_at_call 32; go_loud (with_reducible refine (CH.out _).mono ?_); rintro e w4 ⟨q4, c4, rfl, Y4, B4, Q4⟩; have HY4 := hid Y4; have HB4 : Hid (Below w3.heap.size w3 w4) := (Below.refl _ _).drew.trans B4; have HP4 := hid (HP3.out.below HB4.out); have HR4 := hid (HR3.out.grow HB4.out); clear Y4 B4 Q4)
          | (go_at_call 31; go_loud (with_reducible refine (CP.out _ q4 c4 HY4.out).mono ?_); rintro e w5 ⟨q5, c5, rfl, Y5, B5, Q5⟩; have HY5 := hid Y5; have HP5 := hid (HP4.out.below B5); have HR5 := hid (HR4.out.grow B5); have HK5 := hid ((HR3.out.kgrow HB4.out).trans (HR4.out.kgrow B5)); have HQ5 := hid (Nat.ne_of_gt (Nat.lt_of_lt_of_le HR4.out.dlt Q5)); clear Y5 B5 Q5)
          | (go_at_call 46; go_loud (with_reducible refine (HC2.out _ q5 c5 HR5.out HY5.out HQ5.out).mono ?_); rintro e w6 ⟨rfl, D6, K6⟩; have HR6 := hid D6; have HK6 := hid (HK5.out.trans K6); have HP6 := hid (HP5.out.kept K6 (Or.inr HZ.out)); clear D6 K6)
          | fail)
      all_goals (
        obtain ⟨z0, z1, z2, z3, zf⟩ := HP6.out.cells
        go_wp2_with (first
          | (go_at_call 47; go_loud (with_reducible refine (HC3.out _ HR6.out).mono ?_); rintro e w7 ⟨rfl, D7, K7⟩; have HR7 := hid D7; have HK7 := hid (HK3.out.trans (HK6.out.trans K7)); clear D7 K7)
          | fail)
        go_ret
        exact ⟨rfl, HR7.out, HK7.out⟩)
    · simp only [ne_eq, not_true_eq_false, if_false, show ¬ ((9 : Int) = 0) by decide, not_false_eq_true, if_true]
      unfold dstEnd
      go_enter Try.func76, Try.ntmps76
      go_wp2_with (first
        | (go_at_call 47; go_loud (with_reducible refine HC1.out.mono ?_); rintro e w3 ⟨rfl, D3', K3⟩; have HR3 := hid D3'; have HK3 := hid K3; have HP3 := hid (HP.out.kept K3 (Or.inr HZ.out)); obtain ⟨y0, y1, y2, y3, yf⟩ := HP3.out.cells; clear D3' K3 HC1)
        | fail)
      go_region_held_law (fun w' => w'.cell? ⟨qb, 0, none⟩ = some (.pointer (some ⟨rb, 0, none⟩)) ∧ w'.cell? ⟨qb, 2, none⟩ = some (.int .i64 (G : Int))) (first | exact ⟨y0, y2⟩ | exact ⟨HP4.out.cells.1, HP4.out.cells.2.2.1⟩ | exact ⟨HP5.out.cells.1, HP5.out.cells.2.2.1⟩ | exact ⟨HP6.out.cells.1, HP6.out.cells.2.2.1⟩)
        (first
          | (go_at_call 32; go_loud (with_reducible refine (CH.out _).mono ?_); rintro e w4 ⟨q4, c4, rfl, Y4, B4, Q4⟩; have HY4 := hid Y4; have HB4 : Hid (Below w3.heap.size w3 w4) := (Below.refl _ _).drew.trans B4; have HP4 := hid (HP3.out.below HB4.out); have HR4 := hid (HR3.out.grow HB4.out); clear Y4 B4 Q4)
          | (go_at_call 31; go_loud (with_reducible refine (CP.out _ q4 c4 HY4.out).mono ?_); rintro e w5 ⟨q5, c5, rfl, Y5, B5, Q5⟩; have HY5 := hid Y5; have HP5 := hid (HP4.out.below B5); have HR5 := hid (HR4.out.grow B5); have HK5 := hid ((HR3.out.kgrow HB4.out).trans (HR4.out.kgrow B5)); have HQ5 := hid (Nat.ne_of_gt (Nat.lt_of_lt_of_le HR4.out.dlt Q5)); clear Y5 B5 Q5)
          | (go_at_call 46; go_loud (with_reducible refine (HC2.out _ q5 c5 HR5.out HY5.out HQ5.out).mono ?_); rintro e w6 ⟨rfl, D6, K6⟩; have HR6 := hid D6; have HK6 := hid (HK5.out.trans K6); have HP6 := hid (HP5.out.kept K6 (Or.inr HZ.out)); clear D6 K6)
          | fail)
      all_goals (
        go_wp2
        go_ret
        exact ⟨rfl, HR6.out, HK3.out.trans HK6.out⟩)
  · simp only [ne_eq, show ¬ ((9 : Int) = 0) by decide, not_false_eq_true, if_true]
    unfold dstEnd
    go_enter Try.func76, Try.ntmps76
    go_wp2_with (first
      | (go_at_call 47; go_loud (with_reducible refine HC1.out.mono ?_); rintro e w3 ⟨rfl, D3', K3⟩; have HR3 := hid D3'; have HK3 := hid K3; clear D3' K3 HC1)
      | fail)
    go_ret
    exact ⟨rfl, HR3.out, HK3.out⟩
/-! ### Commit -/
theorem Rag.newest {qb : Nat} {k : Pk} (h : Rag w qb rb k) (n : Nat) : Rag ((w.setCell ⟨qb, 1, none⟩ (.int .i64 (n : Int))).setCell ⟨qb, 2, none⟩ (.int .i64 ((k.gen : Int) + 1))) qb rb ⟨k.gen + 1, n, k.failed⟩ :=
  (Blk.set (Blk.set h (i := 1) (.int .i64 (n : Int))) (i := 2) (.int .i64 ((k.gen : Int) + 1)))
theorem Rag.fail {qb : Nat} {k : Pk} (h : Rag w qb rb k) : Rag (w.setCell ⟨qb, 3, none⟩ (.bool true)) qb rb ⟨k.gen, k.root, true⟩ :=
  (Blk.set h (i := 3) (.bool true))
set_option maxHeartbeats 1000000 in
theorem dcommit_failed (qb : Nat) (n : Int) (k : Pk) (P : Rag w qb rb k) (hf : k.failed = true) :
    Calls Try.prog 52 #[.pointer (some ⟨qb, 0, none⟩), .int .i64 n] w fun e w' => e = .returned (.int .i64 9) ∧ w' = w := by
  obtain ⟨p0, p1, p2, p3, pf⟩ := P.cells
  rw [hf] at p3
  clear P
  go_enter Try.func52, Try.ntmps52
  go_wp2
  go_ret
  exact ⟨rfl, rfl⟩
set_option maxHeartbeats 1000000 in
theorem dcommit_range (qb : Nat) (n : Int) (k : Pk) (h : RW s w0 w rb r Z) (P : Rag w qb rb k) (hf : k.failed = false) (hr : r.rootOk n = false) :
    Calls Try.prog 52 #[.pointer (some ⟨qb, 0, none⟩), .int .i64 n] w fun e w' => e = .returned (.int .i64 2) ∧ w' = w := by
  obtain ⟨p0, p1, p2, p3, pf⟩ := P.cells
  have C1 := dochas_any qb n k h P
  simp only [Dk.rootOk, Bool.or_eq_false_iff, decide_eq_false_iff_not] at hr
  rw [hr.2] at C1
  have HC1 := hid C1
  have h0 : (n == 0) = false := by simpa using hr.1
  have h1 := hr.1
  rw [hf] at p3
  clear P h hr C1
  go_enter Try.func52, Try.ntmps52
  go_wp2_with (first
    | (go_at_call 69; go_loud (with_reducible refine HC1.out.mono ?_); rintro e w3 ⟨rfl, hw⟩; subst w3)
    | fail)
  go_ret
  exact ⟨rfl, rfl⟩
/-- What a commit that goes its steps ends with. -/
def dcmEnd (s : Nat) (w0 w : World) (rb qb : Nat) (r : Dk) (Z : Nat → Prop) (k : Pk) (n : Nat) (e : Ending) (w' : World) : Prop :=
  e = .returned (.int .i64 (r.cmErr (k.gen + 1) n)) ∧ RW s w0 w' rb (r.cm (k.gen + 1) n) Z ∧ Rag w' qb rb (if r.cmErr (k.gen + 1) n = 0 then ⟨k.gen + 1, n, false⟩ else ⟨k.gen, k.root, true⟩) ∧ Kept (fun j => old s Z j ∧ j ≠ qb) w w'
set_option maxHeartbeats 2000000 in
theorem dcommit_steps (qb : Nat) (n : Nat) (k : Pk) (h : RW s w0 w rb r Z) (P : Rag w qb rb k) (hz : Z qb) (hs : s ≤ qb) (hf : k.failed = false) (hr : r.rootOk n = true) (hk : k.gen < 9223372036854775800) (hp : 3 ≤ r.pages) (hm : r.pend.length < 999990) :
    Calls Try.prog 52 #[.pointer (some ⟨qb, 0, none⟩), .int .i64 (n : Int)] w (dcmEnd s w0 w rb qb r Z k n) := by
  have hpg := h.okk.pages
  have hn63 : n < 9223372036854775808 := by
    simp only [Dk.rootOk, Dk.rangeErr, Bool.or_eq_true, decide_eq_true_eq] at hr
    omega
  obtain ⟨S, hS, htm, hGw, hSw, HG1⟩ := slotw k.gen hk
  have CS := hid (dsteps qb n k h P hz hk hn63 hp hm)
  have HE := hid (r.cmErr_cases (k.gen + 1) n hp)
  obtain ⟨p0, p1, p2, p3, pf⟩ := P.cells
  rw [hf] at p3
  have C1 := hid (dochas_any qb (n : Int) k h P)
  have HP := hid P
  have HZ := hid hz
  have HS := hid hs
  have HF := hid hf
  have hG2 : IntKind.i64.wrap ((k.gen : Int) + 1) = (k.gen : Int) + 1 := hGw
  have hdd : ((n : Int) = 0) ∨ (¬ ((n : Int) = 0) ∧ r.rangeErr (n : Int) = true) := by
    simp only [Dk.rootOk, Bool.or_eq_true, decide_eq_true_eq] at hr
    rcases hr with hr | hr
    · exact Or.inl hr
    · by_cases h0 : (n : Int) = 0
      · exact Or.inl h0
      · exact Or.inr ⟨h0, hr⟩
  unfold dstEnd at CS
  unfold dcmEnd
  generalize r.cmErr (k.gen + 1) n = E at *
  generalize r.cm (k.gen + 1) n = D at *
  clear h P hz hs hf hr hk hp hm hpg htm hSw hS hn63
  have hE : E = 0 ∨ E = 9 := HE.out
  have HCS : Hid (∀ w5 : World, w5 = w → Calls Try.prog 76 #[.pointer (some ⟨qb, 0, none⟩), .int .i64 (n : Int)] w5 fun e w' => e = .returned (.int .i64 E) ∧ RW s w0 w' rb D Z ∧ Rag w' qb rb k ∧ Kept (old s Z) w w') := fun w5 e => by
    subst e
    refine CS.out.mono ?_
    rintro e w' ⟨he, D', K'⟩
    exact ⟨he, D', HP.out.kept K' (Or.inr HZ.out), K'⟩
  clear CS HE
  have HPN : Hid (∀ w4 : World, Rag w4 qb rb k → Rag ((w4.setCell ⟨qb, 1, none⟩ (.int .i64 (n : Int))).setCell ⟨qb, 2, none⟩ (.int .i64 ((k.gen : Int) + 1))) qb rb ⟨k.gen + 1, n, false⟩) := fun w4 q => by
    have := q.newest n
    rwa [HF.out] at this
  generalize (n : Int) = z at *
  rcases hE with rfl | rfl
  · rcases hdd with rfl | ⟨h0, hrr⟩
    all_goals (
      try rw [hrr] at C1
      try (have h01 : (z == 0) = false := by simpa using h0)
      go_enter Try.func52, Try.ntmps52
      go_wp2_with (first
        | (go_at_call 69; go_loud (with_reducible refine C1.out.mono ?_); rintro e w3 ⟨rfl, hw⟩; subst w3)
        | (go_at_call 76; go_loud (with_reducible refine (HCS.out _ rfl).mono ?_); rintro e w4 ⟨rfl, D4, P4, K4⟩; have HD4 := hid D4; have HP4 := hid P4; have HK4 := hid K4; obtain ⟨z0, z1, z2, z3, zf⟩ := P4.cells; clear D4 P4 K4)
        | fail)
      go_ret
      refine ⟨rfl, (HD4.out.set HZ.out HS.out _).set HZ.out HS.out _, ?_, ((HK4.out.mono (fun j o => o.1)).trans (kept_set _ w4 (fun o => o.2 rfl) _)).trans (kept_set _ _ (fun o => o.2 rfl) _)⟩
      exact HPN.out _ HP4.out)
  · rcases hdd with rfl | ⟨h0, hrr⟩
    all_goals (
      try rw [hrr] at C1
      try (have h01 : (z == 0) = false := by simpa using h0)
      go_enter Try.func52, Try.ntmps52
      go_wp2_with (first
        | (go_at_call 69; go_loud (with_reducible refine C1.out.mono ?_); rintro e w3 ⟨rfl, hw⟩; subst w3)
        | (go_at_call 76; go_loud (with_reducible refine (HCS.out _ rfl).mono ?_); rintro e w4 ⟨rfl, D4, P4, K4⟩; have HD4 := hid D4; have HP4 := hid P4; have HK4 := hid K4; obtain ⟨z0, z1, z2, z3, zf⟩ := P4.cells; clear D4 P4 K4)
        | fail)
      go_ret
      refine ⟨rfl, HD4.out.set HZ.out HS.out _, ?_, (HK4.out.mono (fun j o => o.1)).trans (kept_set _ w4 (fun o => o.2 rfl) _)⟩
      exact HP4.out.fail)
/-- Commit. -/
theorem RW.commit (qb : Nat) (n : Int) (k : Pk) (h : RW s w0 w rb r Z) (P : Rag w qb rb k) (hz : Z qb) (hs : s ≤ qb) (hk : k.gen < 9223372036854775800) (hp : 3 ≤ r.pages) (hm : r.pend.length < 999990) :
    Calls Try.prog 52 #[.pointer (some ⟨qb, 0, none⟩), .int .i64 n] w fun e w' => e = .returned (.int .i64 (k.cmErr r n)) ∧ RW s w0 w' rb (k.cmDk r n) Z ∧ Rag w' qb rb (k.cm r n) ∧ Kept (fun j => old s Z j ∧ j ≠ qb) w w' := by
  unfold Pk.cmErr Pk.cmDk Pk.cm
  cases hf : k.failed
  · simp only [Bool.false_eq_true, if_false]
    cases hr : r.rootOk n
    · simp only [if_true]
      refine (dcommit_range qb n k h P hf hr).mono ?_
      rintro e w' ⟨he, rfl⟩
      exact ⟨he, h, P, Kept.refl _ _⟩
    · simp only [Bool.true_eq_false, if_false]
      obtain ⟨m, rfl⟩ : ∃ m : Nat, n = (m : Int) := by
        simp only [Dk.rootOk, Dk.rangeErr, Bool.or_eq_true, decide_eq_true_eq] at hr
        exact ⟨n.toNat, by omega⟩
      rw [Int.toNat_natCast]
      exact dcommit_steps qb m k h P hz hs hf hr hk hp hm
  · simp only [if_true]
    refine (dcommit_failed qb n k P hf).mono ?_
    rintro e w' ⟨he, rfl⟩
    exact ⟨he, h, P, Kept.refl _ _⟩
end Go.Proofs.Ytnecigbncggogaa
