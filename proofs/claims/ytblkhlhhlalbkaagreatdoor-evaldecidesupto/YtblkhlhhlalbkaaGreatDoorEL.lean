/- What the small functions of package eval, and of the document's answer, do: truth values, NULL, whether the first operand decides. No conditions. What applied of package eval makes of the operands: calc's answer, or whether it is NULL. Conditions: the values are right and within the reach. What Caught of package throw answers of a value's work; what column of package eval answers. No conditions. -/
import Derived.Test.YtblkhlhhlalbkaaGreatDoorEvMem
import Derived.Test.YtblkhlhhlalbkaaGreatDoorCB
import Derived.Test.YtblkhlhhlalbkaaGreatDoorCC
import Derived.Test.YtblkhlhhlalbkaaGreatDoorCY
import Derived.Test.YtblkhlhhlalbkaaGreatDoorCA
import Derived.Defers
import Derived.Recover
import Derived.Laws.Pointers
namespace Go.Proofs.YtblkhlhhlalbkaaGreatDoor
open Go.RowKit Go.Lib Go.Sort
set_option linter.unusedVariables false
set_option maxRecDepth 20000

theorem run_eqv2 (k n k2 n2 : Int) (s s2 : ByteArray) (w : World) :
    (binOp .eql 23 (.agg #[.int .i64 k, .int .i64 n, .string s]) (.agg #[.int .i64 k2, .int .i64 n2, .string s2])).run Tryz.prog w = .ok (.bool (eqv k n s k2 n2 s2)) w := run_eqv k n k2 n2 s s2 w
theorem evTruth_any (b : Bool) (w : World) :
    Calls Tryz.prog 77 #[.bool b] w fun e w' => e = .returned (truthV b).v ∧ Below w.heap.size w w' := by
  unfold Val.v
  cases b
  · rw [show truthV false = ⟨1, 0, ⟨#[]⟩⟩ from rfl]
    go_enter Tryz.func77, Tryz.ntmps77
    go_wp2
    go_returns
    exact ⟨rfl, by go_grown⟩
  · rw [show truthV true = ⟨1, 1, ⟨#[]⟩⟩ from rfl]
    go_enter Tryz.func77, Tryz.ntmps77
    go_wp2
    go_returns
    exact ⟨rfl, by go_grown⟩
theorem evNull_any (k n : Int) (s : ByteArray) (w : World) :
    Calls Tryz.prog 78 #[.agg #[.int .i64 k, .int .i64 n, .string s]] w fun e w' => e = .returned (.bool (eqv k n s 0 0 ⟨#[]⟩)) ∧ Below w.heap.size w w' := by
  have he := run_eqv2
  go_enter Tryz.func78, Tryz.ntmps78
  go_wp2
  go_ret
  exact ⟨rfl, by go_grown⟩
/-- An expression and a value, each in a variable of its own. -/
def EV2 (w : World) (e : Gx) (p : Option Addr) (c : Nat) (k n : Int) (s : ByteArray) : World := (w.alloc (.cells #[.int .i64 e.k, .int .i64 e.op, .int .i64 e.v.k, .int .i64 e.v.n, .string e.v.s, .string ⟨e.t.toArray⟩, .string ⟨e.n.toArray⟩, .int .i64 e.c, .int .i64 e.y, .slice p e.xs.length c] 26)).alloc (.cells #[.int .i64 k, .int .i64 n, .string s] 23)
theorem ev2_below (w : World) (e : Gx) (p : Option Addr) (c : Nat) (k n : Int) (s : ByteArray) : Below w.heap.size w (EV2 w e p c k n s) := albl2 _ _ _
theorem ev2_size (w : World) (e : Gx) (p : Option Addr) (c : Nat) (k n : Int) (s : ByteArray) : (EV2 w e p c k n s).heap.size = w.heap.size + 2 := by simp [EV2]
set_option maxHeartbeats 1000000 in
theorem dc_4 (e : Gx) (p : Option Addr) (c : Nat) (k n : Int) (s : ByteArray) (w : World) (hk : e.k = 4) (ho : e.op = 4) :
    Calls Tryz.prog 63 #[gV e p c, .agg #[.int .i64 k, .int .i64 n, .string s]] w fun r w' => r = .returned (.bool (eqv k n s 1 0 ⟨#[]⟩)) ∧ Below w.heap.size w w' := by
  obtain ⟨ek, eop, ev, et, en, ec, ey, exs⟩ := e
  simp only at hk ho
  subst hk ho
  obtain ⟨c0, c1, c2, _⟩ := Box.at (b := w.heap.size + 1) (w := w.alloc (.cells #[.int .i64 4, .int .i64 4, .int .i64 ev.k, .int .i64 ev.n, .string ev.s, .string ⟨et.toArray⟩, .string ⟨en.toArray⟩, .int .i64 ec, .int .i64 ey, .slice p exs.length c] 26)) (by simp) k n s 23
  have g0 := cell_regrown c0
  have g1 := cell_regrown c1
  have g2 := cell_regrown c2
  clear c0 c1 c2
  have C1 : Hid (∀ d os, Calls Tryz.prog 77 #[.bool false] (grow (redrawn ((w.alloc (.cells #[.int .i64 4, .int .i64 4, .int .i64 ev.k, .int .i64 ev.n, .string ev.s, .string ⟨et.toArray⟩, .string ⟨en.toArray⟩, .int .i64 ec, .int .i64 ey, .slice p exs.length c] 26)).alloc (.cells #[.int .i64 k, .int .i64 n, .string s] 23)) d) os) fun e w'' => e = .returned (.agg #[.int .i64 1, .int .i64 0, .string ⟨#[]⟩]) ∧ ∃ p' : Regrown, w'' = grow (redrawn ((w.alloc (.cells #[.int .i64 4, .int .i64 4, .int .i64 ev.k, .int .i64 ev.n, .string ev.s, .string ⟨et.toArray⟩, .string ⟨en.toArray⟩, .int .i64 ec, .int .i64 ey, .slice p exs.length c] 26)).alloc (.cells #[.int .i64 k, .int .i64 n, .string s] 23)) p'.d) p'.os) :=
    fun d os => Calls.regrown_of (evTruth_any false _)
  have he := run_eqv2
  go_enter Tryz.func63, Tryz.ntmps63
  go_wp2_with fail
  refine wp_region_quiet_below (by kernel_rfl) (by kernel_rfl) ?_
  repeat (quiet_step (first | (go_at_call 77; with_reducible exact C1.out _ _)))
  refine wpQuiet_nil ?_
  intro _ hw'
  obtain ⟨⟨dq, osq⟩, hw''⟩ := hw'
  subst hw''
  go_wp2
  go_ret
  exact ⟨rfl, (albl2 w _ _).trans ((below_regrown _ dq osq).mono (by simp; omega))⟩
set_option maxHeartbeats 1000000 in
theorem dc_3 (e : Gx) (p : Option Addr) (c : Nat) (k n : Int) (s : ByteArray) (w : World) (hk : e.k = 4) (ho : e.op = 3) :
    Calls Tryz.prog 63 #[gV e p c, .agg #[.int .i64 k, .int .i64 n, .string s]] w fun r w' => r = .returned (.bool (eqv k n s 1 1 ⟨#[]⟩)) ∧ Below w.heap.size w w' := by
  obtain ⟨ek, eop, ev, et, en, ec, ey, exs⟩ := e
  simp only at hk ho
  subst hk ho
  obtain ⟨c0, c1, c2, _⟩ := Box.at (b := w.heap.size + 1) (w := w.alloc (.cells #[.int .i64 4, .int .i64 3, .int .i64 ev.k, .int .i64 ev.n, .string ev.s, .string ⟨et.toArray⟩, .string ⟨en.toArray⟩, .int .i64 ec, .int .i64 ey, .slice p exs.length c] 26)) (by simp) k n s 23
  have g0 := cell_regrown c0
  have g1 := cell_regrown c1
  have g2 := cell_regrown c2
  clear c0 c1 c2
  have C1 : Hid (∀ d os, Calls Tryz.prog 77 #[.bool true] (grow (redrawn ((w.alloc (.cells #[.int .i64 4, .int .i64 3, .int .i64 ev.k, .int .i64 ev.n, .string ev.s, .string ⟨et.toArray⟩, .string ⟨en.toArray⟩, .int .i64 ec, .int .i64 ey, .slice p exs.length c] 26)).alloc (.cells #[.int .i64 k, .int .i64 n, .string s] 23)) d) os) fun e w'' => e = .returned (.agg #[.int .i64 1, .int .i64 1, .string ⟨#[]⟩]) ∧ ∃ p' : Regrown, w'' = grow (redrawn ((w.alloc (.cells #[.int .i64 4, .int .i64 3, .int .i64 ev.k, .int .i64 ev.n, .string ev.s, .string ⟨et.toArray⟩, .string ⟨en.toArray⟩, .int .i64 ec, .int .i64 ey, .slice p exs.length c] 26)).alloc (.cells #[.int .i64 k, .int .i64 n, .string s] 23)) p'.d) p'.os) :=
    fun d os => Calls.regrown_of (evTruth_any true _)
  have he := run_eqv2
  go_enter Tryz.func63, Tryz.ntmps63
  go_wp2_with fail
  refine wp_region_quiet_below (by kernel_rfl) (by kernel_rfl) ?_
  repeat (quiet_step (first | (go_at_call 77; with_reducible exact C1.out _ _)))
  refine wpQuiet_nil ?_
  intro _ hw'
  obtain ⟨⟨dq, osq⟩, hw''⟩ := hw'
  subst hw''
  go_wp2
  go_ret
  exact ⟨rfl, (albl2 w _ _).trans ((below_regrown _ dq osq).mono (by simp; omega))⟩
set_option maxHeartbeats 1000000 in
theorem dc_6 (e : Gx) (p : Option Addr) (c : Nat) (k n : Int) (s : ByteArray) (w : World) (hk : e.k = 5) (ho : e.op = 6) :
    Calls Tryz.prog 63 #[gV e p c, .agg #[.int .i64 k, .int .i64 n, .string s]] w fun r w' => r = .returned (.bool (!(eqv k n s 0 0 ⟨#[]⟩))) ∧ Below w.heap.size w w' := by
  obtain ⟨ek, eop, ev, et, en, ec, ey, exs⟩ := e
  simp only at hk ho
  subst hk ho
  go_enter Tryz.func63, Tryz.ntmps63
  go_wp2_with (first | (go_at_call 78; with_reducible refine (evNull_any _ _ _ _).mono ?_; rintro r w2 ⟨rfl, b2⟩; have HB := hid b2; clear b2) | fail)
  go_ret
  exact ⟨rfl, (albl2 w _ _).trans (HB.out.mono (by simp; omega))⟩
set_option maxHeartbeats 2000000 in
theorem dc_no (e : Gx) (p : Option Addr) (c : Nat) (k n : Int) (s : ByteArray) (w : World) (h1 : ¬ (e.k = 4 ∧ e.op = 4)) (h2 : ¬ (e.k = 4 ∧ e.op = 3)) (h3 : ¬ (e.k = 5 ∧ e.op = 6)) :
    Calls Tryz.prog 63 #[gV e p c, .agg #[.int .i64 k, .int .i64 n, .string s]] w fun r w' => r = .returned (.bool false) ∧ Below w.heap.size w w' := by
  by_cases k4 : e.k = 4
  · have a1 : (e.k == 4) = true := beq_iff_eq.2 k4
    have a2 : (e.op == 4) = false := beq_eq_false_iff_ne.2 (fun q => h1 ⟨k4, q⟩)
    have a3 : (e.op == 3) = false := beq_eq_false_iff_ne.2 (fun q => h2 ⟨k4, q⟩)
    have a4 : (e.k == 5) = false := beq_eq_false_iff_ne.2 (by omega)
    clear h1 h2 h3 k4
    go_enter Tryz.func63, Tryz.ntmps63
    go_wp2_with fail
    go_ret
    exact ⟨rfl, albl2 w _ _⟩
  · have a1 : (e.k == 4) = false := beq_eq_false_iff_ne.2 k4
    by_cases k5 : e.k = 5
    · have a4 : (e.k == 5) = true := beq_iff_eq.2 k5
      have a5 : (e.op == 6) = false := beq_eq_false_iff_ne.2 (fun q => h3 ⟨k5, q⟩)
      clear h1 h2 h3 k4 k5
      go_enter Tryz.func63, Tryz.ntmps63
      go_wp2_with fail
      go_ret
      exact ⟨rfl, albl2 w _ _⟩
    · have a4 : (e.k == 5) = false := beq_eq_false_iff_ne.2 k5
      clear h1 h2 h3 k4 k5
      go_enter Tryz.func63, Tryz.ntmps63
      go_wp2_with fail
      go_ret
      exact ⟨rfl, albl2 w _ _⟩
theorem dc_any (e : Gx) (p : Option Addr) (c : Nat) (a : Val) (w : World) (ha : RtV a) :
    Calls Tryz.prog 63 #[gV e p c, .agg #[.int .i64 a.k, .int .i64 a.n, .string a.s]] w fun r w' => r = .returned (.bool (decB e.k e.op a)) ∧ Below w.heap.size w w' := by
  unfold decB
  by_cases h1 : e.k = 4 ∧ e.op = 4
  · rw [if_pos h1]
    exact dc_4 e p c a.k a.n a.s w h1.1 h1.2
  by_cases h2 : e.k = 4 ∧ e.op = 3
  · rw [if_neg h1, if_pos h2]
    exact dc_3 e p c a.k a.n a.s w h2.1 h2.2
  by_cases h3 : e.k = 5 ∧ e.op = 6
  · rw [if_neg h1, if_neg h2, if_pos h3]
    have := dc_6 e p c a.k a.n a.s w h3.1 h3.2
    rw [show eqv a.k a.n a.s 0 0 ⟨#[]⟩ = (a.k == 0) from eqb_null ha] at this
    exact this
  · rw [if_neg h1, if_neg h2, if_neg h3]
    exact dc_no e p c a.k a.n a.s w h1 h2 h3
set_option maxHeartbeats 1000000 in
theorem dr_4 (e : Gx) (p : Option Addr) (c : Nat) (k n : Int) (s : ByteArray) (w : World) (hk : e.k = 4) (ho : e.op = 4) :
    Calls Tryz.prog 25 #[gV e p c, .agg #[.int .i64 k, .int .i64 n, .string s]] w fun r w' => r = .returned (.bool (eqv k n s 1 0 ⟨#[]⟩)) ∧ Below w.heap.size w w' := by
  obtain ⟨ek, eop, ev, et, en, ec, ey, exs⟩ := e
  simp only at hk ho
  subst hk ho
  obtain ⟨c0, c1, c2, _⟩ := Box.at (b := w.heap.size + 1) (w := w.alloc (.cells #[.int .i64 4, .int .i64 4, .int .i64 ev.k, .int .i64 ev.n, .string ev.s, .string ⟨et.toArray⟩, .string ⟨en.toArray⟩, .int .i64 ec, .int .i64 ey, .slice p exs.length c] 26)) (by simp) k n s 23
  have g0 := cell_regrown c0
  have g1 := cell_regrown c1
  have g2 := cell_regrown c2
  clear c0 c1 c2
  have C1 : Hid (∀ d os, Calls Tryz.prog 28 #[.bool false] (grow (redrawn ((w.alloc (.cells #[.int .i64 4, .int .i64 4, .int .i64 ev.k, .int .i64 ev.n, .string ev.s, .string ⟨et.toArray⟩, .string ⟨en.toArray⟩, .int .i64 ec, .int .i64 ey, .slice p exs.length c] 26)).alloc (.cells #[.int .i64 k, .int .i64 n, .string s] 23)) d) os) fun e w'' => e = .returned (.agg #[.int .i64 1, .int .i64 0, .string ⟨#[]⟩]) ∧ ∃ p' : Regrown, w'' = grow (redrawn ((w.alloc (.cells #[.int .i64 4, .int .i64 4, .int .i64 ev.k, .int .i64 ev.n, .string ev.s, .string ⟨et.toArray⟩, .string ⟨en.toArray⟩, .int .i64 ec, .int .i64 ey, .slice p exs.length c] 26)).alloc (.cells #[.int .i64 k, .int .i64 n, .string s] 23)) p'.d) p'.os) :=
    fun d os => Calls.regrown_of (refTruth_any false _)
  have he := run_eqv2
  go_enter Tryz.func25, Tryz.ntmps25
  go_wp2_with fail
  refine wp_region_quiet_below (by kernel_rfl) (by kernel_rfl) ?_
  repeat (quiet_step (first | (go_at_call 28; with_reducible exact C1.out _ _)))
  refine wpQuiet_nil ?_
  intro _ hw'
  obtain ⟨⟨dq, osq⟩, hw''⟩ := hw'
  subst hw''
  go_wp2
  go_ret
  exact ⟨rfl, (albl2 w _ _).trans ((below_regrown _ dq osq).mono (by simp; omega))⟩
set_option maxHeartbeats 1000000 in
theorem dr_3 (e : Gx) (p : Option Addr) (c : Nat) (k n : Int) (s : ByteArray) (w : World) (hk : e.k = 4) (ho : e.op = 3) :
    Calls Tryz.prog 25 #[gV e p c, .agg #[.int .i64 k, .int .i64 n, .string s]] w fun r w' => r = .returned (.bool (eqv k n s 1 1 ⟨#[]⟩)) ∧ Below w.heap.size w w' := by
  obtain ⟨ek, eop, ev, et, en, ec, ey, exs⟩ := e
  simp only at hk ho
  subst hk ho
  obtain ⟨c0, c1, c2, _⟩ := Box.at (b := w.heap.size + 1) (w := w.alloc (.cells #[.int .i64 4, .int .i64 3, .int .i64 ev.k, .int .i64 ev.n, .string ev.s, .string ⟨et.toArray⟩, .string ⟨en.toArray⟩, .int .i64 ec, .int .i64 ey, .slice p exs.length c] 26)) (by simp) k n s 23
  have g0 := cell_regrown c0
  have g1 := cell_regrown c1
  have g2 := cell_regrown c2
  clear c0 c1 c2
  have C1 : Hid (∀ d os, Calls Tryz.prog 28 #[.bool true] (grow (redrawn ((w.alloc (.cells #[.int .i64 4, .int .i64 3, .int .i64 ev.k, .int .i64 ev.n, .string ev.s, .string ⟨et.toArray⟩, .string ⟨en.toArray⟩, .int .i64 ec, .int .i64 ey, .slice p exs.length c] 26)).alloc (.cells #[.int .i64 k, .int .i64 n, .string s] 23)) d) os) fun e w'' => e = .returned (.agg #[.int .i64 1, .int .i64 1, .string ⟨#[]⟩]) ∧ ∃ p' : Regrown, w'' = grow (redrawn ((w.alloc (.cells #[.int .i64 4, .int .i64 3, .int .i64 ev.k, .int .i64 ev.n, .string ev.s, .string ⟨et.toArray⟩, .string ⟨en.toArray⟩, .int .i64 ec, .int .i64 ey, .slice p exs.length c] 26)).alloc (.cells #[.int .i64 k, .int .i64 n, .string s] 23)) p'.d) p'.os) :=
    fun d os => Calls.regrown_of (refTruth_any true _)
  have he := run_eqv2
  go_enter Tryz.func25, Tryz.ntmps25
  go_wp2_with fail
  refine wp_region_quiet_below (by kernel_rfl) (by kernel_rfl) ?_
  repeat (quiet_step (first | (go_at_call 28; with_reducible exact C1.out _ _)))
  refine wpQuiet_nil ?_
  intro _ hw'
  obtain ⟨⟨dq, osq⟩, hw''⟩ := hw'
  subst hw''
  go_wp2
  go_ret
  exact ⟨rfl, (albl2 w _ _).trans ((below_regrown _ dq osq).mono (by simp; omega))⟩
set_option maxHeartbeats 1000000 in
theorem dr_6 (e : Gx) (p : Option Addr) (c : Nat) (k n : Int) (s : ByteArray) (w : World) (hk : e.k = 5) (ho : e.op = 6) :
    Calls Tryz.prog 25 #[gV e p c, .agg #[.int .i64 k, .int .i64 n, .string s]] w fun r w' => r = .returned (.bool (!(k == 0))) ∧ Below w.heap.size w w' := by
  obtain ⟨ek, eop, ev, et, en, ec, ey, exs⟩ := e
  simp only at hk ho
  subst hk ho
  go_enter Tryz.func25, Tryz.ntmps25
  go_wp2_with fail
  go_ret
  exact ⟨rfl, albl2 w _ _⟩
set_option maxHeartbeats 2000000 in
theorem dr_no (e : Gx) (p : Option Addr) (c : Nat) (k n : Int) (s : ByteArray) (w : World) (h1 : ¬ (e.k = 4 ∧ e.op = 4)) (h2 : ¬ (e.k = 4 ∧ e.op = 3)) (h3 : ¬ (e.k = 5 ∧ e.op = 6)) :
    Calls Tryz.prog 25 #[gV e p c, .agg #[.int .i64 k, .int .i64 n, .string s]] w fun r w' => r = .returned (.bool false) ∧ Below w.heap.size w w' := by
  by_cases k4 : e.k = 4
  · have a1 : (e.k == 4) = true := beq_iff_eq.2 k4
    have a2 : (e.op == 4) = false := beq_eq_false_iff_ne.2 (fun q => h1 ⟨k4, q⟩)
    have a3 : (e.op == 3) = false := beq_eq_false_iff_ne.2 (fun q => h2 ⟨k4, q⟩)
    have a4 : (e.k == 5) = false := beq_eq_false_iff_ne.2 (by omega)
    clear h1 h2 h3 k4
    go_enter Tryz.func25, Tryz.ntmps25
    go_wp2_with fail
    go_ret
    exact ⟨rfl, albl2 w _ _⟩
  · have a1 : (e.k == 4) = false := beq_eq_false_iff_ne.2 k4
    by_cases k5 : e.k = 5
    · have a4 : (e.k == 5) = true := beq_iff_eq.2 k5
      have a5 : (e.op == 6) = false := beq_eq_false_iff_ne.2 (fun q => h3 ⟨k5, q⟩)
      clear h1 h2 h3 k4 k5
      go_enter Tryz.func25, Tryz.ntmps25
      go_wp2_with fail
      go_ret
      exact ⟨rfl, albl2 w _ _⟩
    · have a4 : (e.k == 5) = false := beq_eq_false_iff_ne.2 k5
      clear h1 h2 h3 k4 k5
      go_enter Tryz.func25, Tryz.ntmps25
      go_wp2_with fail
      go_ret
      exact ⟨rfl, albl2 w _ _⟩
theorem dr_any (e : Gx) (p : Option Addr) (c : Nat) (a : Val) (w : World) (ha : RtV a) :
    Calls Tryz.prog 25 #[gV e p c, .agg #[.int .i64 a.k, .int .i64 a.n, .string a.s]] w fun r w' => r = .returned (.bool (decB e.k e.op a)) ∧ Below w.heap.size w w' := by
  unfold decB
  by_cases h1 : e.k = 4 ∧ e.op = 4
  · rw [if_pos h1]
    exact dr_4 e p c a.k a.n a.s w h1.1 h1.2
  by_cases h2 : e.k = 4 ∧ e.op = 3
  · rw [if_neg h1, if_pos h2]
    exact dr_3 e p c a.k a.n a.s w h2.1 h2.2
  by_cases h3 : e.k = 5 ∧ e.op = 6
  · rw [if_neg h1, if_neg h2, if_pos h3]
    have := dr_6 e p c a.k a.n a.s w h3.1 h3.2
    exact this
  · rw [if_neg h1, if_neg h2, if_neg h3]
    exact dr_no e p c a.k a.n a.s w h1 h2 h3
end Go.Proofs.YtblkhlhhlalbkaaGreatDoor
namespace Go.Proofs.YtblkhlhhlalbkaaGreatDoor
open Go.RowKit Go.Lib Go.Sort
set_option linter.unusedVariables false
set_option maxRecDepth 20000

/-- The operator and the first operand, where they lie. -/
def AS1 (w : World) (b rb off : Nat) (o k1 n1 : Int) (s1 : ByteArray) : Prop :=
  w.cell? ⟨b, 1, none⟩ = some (.int .i64 o) ∧ w.cell? ⟨rb, off, none⟩ = some (.int .i64 k1) ∧ w.cell? ⟨rb, off + 1, none⟩ = some (.int .i64 n1) ∧ w.cell? ⟨rb, off + 2, none⟩ = some (.string s1)
theorem AS1.all {w : World} {b rb off : Nat} {o k1 n1 : Int} {s1 : ByteArray} (h : AS1 w b rb off o k1 n1 s1) :
  w.cell? ⟨b, 1, none⟩ = some (.int .i64 o) ∧ w.cell? ⟨rb, off, none⟩ = some (.int .i64 k1) ∧ w.cell? ⟨rb, off + 1, none⟩ = some (.int .i64 n1) ∧ w.cell? ⟨rb, off + 2, none⟩ = some (.string s1) := h
theorem AS1.below {w w' : World} {b rb off : Nat} {o k1 n1 : Int} {s1 : ByteArray} (h : AS1 w b rb off o k1 n1 s1) (k : Below w.heap.size w w') : AS1 w' b rb off o k1 n1 s1 :=
  ⟨below_cell k h.1, below_cell k h.2.1, below_cell k h.2.2.1, below_cell k h.2.2.2⟩
theorem AS1.drew {w : World} {b rb off : Nat} {o k1 n1 : Int} {s1 : ByteArray} (h : AS1 w b rb off o k1 n1 s1) : AS1 w.drew b rb off o k1 n1 s1 := h.below ((Below.refl _ _).drew)
theorem AS1.put3 {w : World} {b rb off d : Nat} {o k1 n1 : Int} {s1 : ByteArray} (h : AS1 w b rb off o k1 n1 s1) (hv : d ≠ b) (hr : d ≠ rb) (x y z : Value) : AS1 (((w.setCell ⟨d, 0, none⟩ x).setCell ⟨d, 1, none⟩ y).setCell ⟨d, 2, none⟩ z) b rb off o k1 n1 s1 := by
  unfold AS1
  rw [far3 hv, far3 hr, far3 hr, far3 hr]
  exact h
/-- The operator and both operands. -/
def AS2 (w : World) (b rb off : Nat) (o k1 n1 : Int) (s1 : ByteArray) (k2 n2 : Int) (s2 : ByteArray) : Prop :=
  w.cell? ⟨b, 1, none⟩ = some (.int .i64 o) ∧ w.cell? ⟨rb, off, none⟩ = some (.int .i64 k1) ∧ w.cell? ⟨rb, off + 1, none⟩ = some (.int .i64 n1) ∧ w.cell? ⟨rb, off + 2, none⟩ = some (.string s1) ∧
  w.cell? ⟨rb, off + 3, none⟩ = some (.int .i64 k2) ∧ w.cell? ⟨rb, off + 3 + 1, none⟩ = some (.int .i64 n2) ∧ w.cell? ⟨rb, off + 3 + 2, none⟩ = some (.string s2)
theorem AS2.all {w : World} {b rb off : Nat} {o k1 n1 k2 n2 : Int} {s1 s2 : ByteArray} (h : AS2 w b rb off o k1 n1 s1 k2 n2 s2) :
  w.cell? ⟨b, 1, none⟩ = some (.int .i64 o) ∧ w.cell? ⟨rb, off, none⟩ = some (.int .i64 k1) ∧ w.cell? ⟨rb, off + 1, none⟩ = some (.int .i64 n1) ∧ w.cell? ⟨rb, off + 2, none⟩ = some (.string s1) ∧
  w.cell? ⟨rb, off + 3, none⟩ = some (.int .i64 k2) ∧ w.cell? ⟨rb, off + 3 + 1, none⟩ = some (.int .i64 n2) ∧ w.cell? ⟨rb, off + 3 + 2, none⟩ = some (.string s2) := h
theorem AS2.below {w w' : World} {b rb off : Nat} {o k1 n1 k2 n2 : Int} {s1 s2 : ByteArray} (h : AS2 w b rb off o k1 n1 s1 k2 n2 s2) (k : Below w.heap.size w w') : AS2 w' b rb off o k1 n1 s1 k2 n2 s2 :=
  ⟨below_cell k h.1, below_cell k h.2.1, below_cell k h.2.2.1, below_cell k h.2.2.2.1, below_cell k h.2.2.2.2.1, below_cell k h.2.2.2.2.2.1, below_cell k h.2.2.2.2.2.2⟩
theorem AS2.drew {w : World} {b rb off : Nat} {o k1 n1 k2 n2 : Int} {s1 s2 : ByteArray} (h : AS2 w b rb off o k1 n1 s1 k2 n2 s2) : AS2 w.drew b rb off o k1 n1 s1 k2 n2 s2 := h.below ((Below.refl _ _).drew)
theorem AS2.put3 {w : World} {b rb off d : Nat} {o k1 n1 k2 n2 : Int} {s1 s2 : ByteArray} (h : AS2 w b rb off o k1 n1 s1 k2 n2 s2) (hv : d ≠ b) (hr : d ≠ rb) (x y z : Value) : AS2 (((w.setCell ⟨d, 0, none⟩ x).setCell ⟨d, 1, none⟩ y).setCell ⟨d, 2, none⟩ z) b rb off o k1 n1 s1 k2 n2 s2 := by
  unfold AS2
  rw [far3 hv, far3 hr, far3 hr, far3 hr, far3 hr, far3 hr, far3 hr]
  exact h
/-- The expression and the result, each in a variable of its own. -/
def AW (w : World) (e : Gx) (p : Option Addr) (c : Nat) : World := (w.alloc (.cells #[.int .i64 e.k, .int .i64 e.op, .int .i64 e.v.k, .int .i64 e.v.n, .string e.v.s, .string ⟨e.t.toArray⟩, .string ⟨e.n.toArray⟩, .int .i64 e.c, .int .i64 e.y, .slice p e.xs.length c] 26)).alloc (.cells #[.int .i64 0, .int .i64 0, .string ⟨#[]⟩] 23)
theorem AW.bgx (w : World) (e : Gx) (p : Option Addr) (c : Nat) : BGx (AW w e p c) w.heap.size e p c := (BGx.new w e p c).below (albl' _ _)
theorem AW.box (w : World) (e : Gx) (p : Option Addr) (c : Nat) : Box (AW w e p c) (w.heap.size + 1) ⟨0, 0, ⟨#[]⟩⟩ := Box.at (by simp) 0 0 ⟨#[]⟩ 23
theorem AW.low (w : World) (e : Gx) (p : Option Addr) (c : Nat) : Below w.heap.size w (AW w e p c) := albl2 _ _ _

set_option maxHeartbeats 4000000 in
theorem app_one (e : Gx) (p : Option Addr) (c : Nat) (q : Option Addr) (cq : Nat) (k1 n1 : Int) (s1 : ByteArray) (r : List Val) (w : World) (hk : e.k = 3) (hR : Row w q (⟨k1, n1, s1⟩ :: r)) (hn : inR n1) (hrl : r.length ≤ 1048576) :
    Calls Tryz.prog 64 #[gV e p c, .slice q (r.length + 1) cq] w fun x w' => x = .returned (unV e.op ⟨k1, n1, s1⟩).out ∧ Below w.heap.size w w' := by
  have K := hid (fun w => unary_any e.op ⟨k1, n1, s1⟩ w hn)
  unfold Val.v at K
  rw [Ans.out_eq] at *
  generalize unV e.op ⟨k1, n1, s1⟩ = rr at *
  obtain ⟨⟨k', n', s'⟩, er⟩ := rr
  simp only [] at K
  have B := AW.low w e p c
  have R := AW.box w e p c
  have HX := hid (AW.bgx w e p c)
  have hXl := HX.out.lt
  obtain ⟨x0, x1, _, _, _, _, _, _, _, _⟩ := HX.out.cells
  have hR1 := hR.below B
  obtain ⟨rb, off, rfl, c10, c11, c12⟩ := hR.at (i := 0) (by simp)
  have hrb : rb < w.heap.size := cell_lt c10
  simp only [List.getElem_cons_zero, Nat.zero_mul, Nat.add_zero] at c10 c11 c12
  have hS : AS1 (AW w e p c) w.heap.size rb off e.op k1 n1 s1 := ⟨x1, below_cell B c10, below_cell B c11, below_cell B c12⟩
  clear c10 c11 c12 hR hR1 x1
  rw [hk] at x0
  have q1 : w.heap.size + 1 ≠ w.heap.size := by omega
  have q2 : w.heap.size + 1 ≠ rb := by omega
  have q3 : w.heap.size ≤ w.heap.size + 1 := by omega
  obtain ⟨r0, r1, r2, f0, f1, f2⟩ := R.out
  have hl0 : (0 : Int) < ((r.length + 1 : Nat) : Int) := by omega
  have hl1 : (0 : Nat) < r.length + 1 := by omega
  unfold AW at *
  clear HX hk
  go_enter Tryz.func64, Tryz.ntmps64
  go_upto_region 1 with fail
  generalize hW : World.alloc _ _ = W at *
  clear hW
  go_upto_region 3 with fail
  go_region_held3 (fun w' => w'.cell? ⟨w.heap.size, 1, none⟩ = some (.int .i64 e.op) ∧ w'.cell? ⟨rb, off, none⟩ = some (.int .i64 k1) ∧ w'.cell? ⟨rb, off + 1, none⟩ = some (.int .i64 n1) ∧ w'.cell? ⟨rb, off + 2, none⟩ = some (.string s1))
    (with_reducible first | exact hS.all | exact hS.drew.all | exact (hS.put3 q1 q2 _ _ _).all)
    (first | (go_at_call 79; with_reducible refine (K.out _).mono ?_; rintro e wn ⟨rfl, bn⟩; (with_reducible first | replace hS := hS.below bn | replace hS := hS.drew.below bn); (with_reducible first | replace R := R.below bn | replace R := R.drew.below bn); (with_reducible first | replace B := B.trans (bn.mono B.size) | replace B := B.drew.trans (bn.mono B.drew.size)); obtain ⟨r0, r1, r2, f0, f1, f2⟩ := R.out))
  go_wp2_with fail
  have R' := R.put k' n' s'
  have B' := below_put3 B q3 (.int .i64 k') (.int .i64 n') (.string s')
  obtain ⟨r0, r1, r2, _, _, _⟩ := R'.out
  refine bodyPost_ret (by simp [results, Tryz.results64, go_sem, r0, r1, r2]; try rfl) rfl ?_
  exact ⟨rfl, B'⟩
set_option maxHeartbeats 4000000 in
theorem app_two (e : Gx) (p : Option Addr) (c : Nat) (q : Option Addr) (cq : Nat) (k1 n1 k2 n2 : Int) (s1 s2 : ByteArray) (r : List Val) (w : World) (hk : e.k = 4) (hR : Row w q (⟨k1, n1, s1⟩ :: ⟨k2, n2, s2⟩ :: r)) (hn : inR n1) (hn2 : inR n2) (hl : s1.size + s2.size ≤ maxLen) (hrl : r.length ≤ 1048576) :
    Calls Tryz.prog 64 #[gV e p c, .slice q (r.length + 1 + 1) cq] w fun x w' => x = .returned (binV e.op ⟨k1, n1, s1⟩ ⟨k2, n2, s2⟩).out ∧ Below w.heap.size w w' := by
  obtain ⟨L, hL⟩ : ∃ L : Nat, L = r.length + 1 + 1 := ⟨_, rfl⟩
  rw [← hL]
  have hl0 : (0 : Int) < (L : Int) := by omega
  have hl1 : (1 : Int) < (L : Int) := by omega
  have hl2 : (0 : Nat) < L := by omega
  have hl3 : (1 : Nat) < L := by omega
  clear hL
  have K := hid (fun w => binary_any e.op ⟨k1, n1, s1⟩ ⟨k2, n2, s2⟩ w hn hn2 hl)
  unfold Val.v at K
  rw [Ans.out_eq] at *
  generalize binV e.op ⟨k1, n1, s1⟩ ⟨k2, n2, s2⟩ = rr at *
  obtain ⟨⟨k', n', s'⟩, er⟩ := rr
  simp only [] at K
  have B := AW.low w e p c
  have R := AW.box w e p c
  have HX := hid (AW.bgx w e p c)
  have hXl := HX.out.lt
  obtain ⟨x0, x1, _, _, _, _, _, _, _, _⟩ := HX.out.cells
  have hR1 := hR.below B
  obtain ⟨rb, off, rfl, c10, c11, c12⟩ := hR.at (i := 0) (by simp)
  obtain ⟨rb', off', e1, c20, c21, c22⟩ := hR.at (i := 1) (by simp)
  obtain ⟨rfl, rfl⟩ : rb = rb' ∧ off = off' := by simpa using e1
  simp only [List.getElem_cons_succ, List.getElem_cons_zero, Nat.one_mul] at c20 c21 c22
  have hrb : rb < w.heap.size := cell_lt c10
  simp only [List.getElem_cons_zero, Nat.zero_mul, Nat.add_zero] at c10 c11 c12
  have hS : AS2 (AW w e p c) w.heap.size rb off e.op k1 n1 s1 k2 n2 s2 := ⟨x1, below_cell B c10, below_cell B c11, below_cell B c12, below_cell B c20, below_cell B c21, below_cell B c22⟩
  clear c10 c11 c12 c20 c21 c22 hR hR1 x1 e1
  rw [hk] at x0
  have q1 : w.heap.size + 1 ≠ w.heap.size := by omega
  have q2 : w.heap.size + 1 ≠ rb := by omega
  have q3 : w.heap.size ≤ w.heap.size + 1 := by omega
  obtain ⟨r0, r1, r2, f0, f1, f2⟩ := R.out
  unfold AW at *
  clear HX hk
  go_enter Tryz.func64, Tryz.ntmps64
  go_upto_region 1 with fail
  generalize hW : World.alloc _ _ = W at *
  clear hW
  go_upto_region 5 with fail
  go_region_held3 (fun w' => w'.cell? ⟨w.heap.size, 1, none⟩ = some (.int .i64 e.op) ∧ w'.cell? ⟨rb, off, none⟩ = some (.int .i64 k1) ∧ w'.cell? ⟨rb, off + 1, none⟩ = some (.int .i64 n1) ∧ w'.cell? ⟨rb, off + 2, none⟩ = some (.string s1) ∧ w'.cell? ⟨rb, off + 3, none⟩ = some (.int .i64 k2) ∧ w'.cell? ⟨rb, off + 3 + 1, none⟩ = some (.int .i64 n2) ∧ w'.cell? ⟨rb, off + 3 + 2, none⟩ = some (.string s2))
    (with_reducible first | exact hS.all | exact hS.drew.all | exact (hS.put3 q1 q2 _ _ _).all)
    (first | (go_at_call 80; with_reducible refine (K.out _).mono ?_; rintro e wn ⟨rfl, bn⟩; (with_reducible first | replace hS := hS.below bn | replace hS := hS.drew.below bn); (with_reducible first | replace R := R.below bn | replace R := R.drew.below bn); (with_reducible first | replace B := B.trans (bn.mono B.size) | replace B := B.drew.trans (bn.mono B.drew.size)); obtain ⟨r0, r1, r2, f0, f1, f2⟩ := R.out))
  go_wp2_with fail
  have R' := R.put k' n' s'
  have B' := below_put3 B q3 (.int .i64 k') (.int .i64 n') (.string s')
  obtain ⟨r0, r1, r2, _, _, _⟩ := R'.out
  refine bodyPost_ret (by simp [results, Tryz.results64, go_sem, r0, r1, r2]; try rfl) rfl ?_
  exact ⟨rfl, B'⟩
set_option maxHeartbeats 4000000 in
theorem app_null (e : Gx) (p : Option Addr) (c : Nat) (q : Option Addr) (cq : Nat) (k1 n1 : Int) (s1 : ByteArray) (r : List Val) (w : World) (h3 : e.k ≠ 3) (h4 : e.k ≠ 4) (h5 : e.k ≠ 5) (hR : Row w q (⟨k1, n1, s1⟩ :: r)) (hrl : r.length ≤ 1048576) :
    Calls Tryz.prog 64 #[gV e p c, .slice q (r.length + 1) cq] w fun x w' => x = .returned (⟨truthV (eqv k1 n1 s1 0 0 ⟨#[]⟩ == (e.op == 0)), 0⟩ : Ans).out ∧ Below w.heap.size w w' := by
  have K0 := hid (fun w => evNull_any k1 n1 s1 w)
  have K := hid (fun w => evTruth_any (eqv k1 n1 s1 0 0 ⟨#[]⟩ == (e.op == 0)) w)
  unfold Val.v at K
  rw [Ans.out_eq] at *
  generalize truthV (eqv k1 n1 s1 0 0 ⟨#[]⟩ == (e.op == 0)) = rr at *
  obtain ⟨k', n', s'⟩ := rr
  simp only [] at K
  generalize eqv k1 n1 s1 0 0 ⟨#[]⟩ = bb at *
  have B := AW.low w e p c
  have R := AW.box w e p c
  have HX := hid (AW.bgx w e p c)
  have hXl := HX.out.lt
  obtain ⟨x0, x1, _, _, _, _, _, _, _, _⟩ := HX.out.cells
  have hR1 := hR.below B
  obtain ⟨rb, off, rfl, c10, c11, c12⟩ := hR.at (i := 0) (by simp)
  have hrb : rb < w.heap.size := cell_lt c10
  simp only [List.getElem_cons_zero, Nat.zero_mul, Nat.add_zero] at c10 c11 c12
  have hS : AS1 (AW w e p c) w.heap.size rb off e.op k1 n1 s1 := ⟨x1, below_cell B c10, below_cell B c11, below_cell B c12⟩
  clear c10 c11 c12 hR hR1 x1
  have d3 : (e.k == 3) = false := beq_eq_false_iff_ne.2 h3
  have d4 : (e.k == 4) = false := beq_eq_false_iff_ne.2 h4
  have d5 : (e.k == 5) = false := beq_eq_false_iff_ne.2 h5
  have q1 : w.heap.size + 1 ≠ w.heap.size := by omega
  have q2 : w.heap.size + 1 ≠ rb := by omega
  have q3 : w.heap.size ≤ w.heap.size + 1 := by omega
  obtain ⟨r0, r1, r2, f0, f1, f2⟩ := R.out
  have hl0 : (0 : Int) < ((r.length + 1 : Nat) : Int) := by omega
  have hl1 : (0 : Nat) < r.length + 1 := by omega
  unfold AW at *
  clear HX h3 h4 h5
  go_enter Tryz.func64, Tryz.ntmps64
  go_upto_region 1 with fail
  generalize hW : World.alloc _ _ = W at *
  clear hW
  go_upto_region 8 with fail
  go_region_held3 (fun w' => w'.cell? ⟨w.heap.size, 1, none⟩ = some (.int .i64 e.op) ∧ w'.cell? ⟨rb, off, none⟩ = some (.int .i64 k1) ∧ w'.cell? ⟨rb, off + 1, none⟩ = some (.int .i64 n1) ∧ w'.cell? ⟨rb, off + 2, none⟩ = some (.string s1))
    (with_reducible first | exact hS.all | exact hS.drew.all | exact (hS.put3 q1 q2 _ _ _).all)
    (first | (go_at_call 78; with_reducible refine (K0.out _).mono ?_; rintro e wn ⟨rfl, bn⟩; (with_reducible first | replace hS := hS.below bn | replace hS := hS.drew.below bn); (with_reducible first | replace R := R.below bn | replace R := R.drew.below bn); (with_reducible first | replace B := B.trans (bn.mono B.size) | replace B := B.drew.trans (bn.mono B.drew.size)); obtain ⟨r0, r1, r2, f0, f1, f2⟩ := R.out) | (go_at_call 77; with_reducible refine (K.out _).mono ?_; rintro e wn ⟨rfl, bn⟩; (with_reducible first | replace hS := hS.below bn | replace hS := hS.drew.below bn); (with_reducible first | replace R := R.below bn | replace R := R.drew.below bn); (with_reducible first | replace B := B.trans (bn.mono B.size) | replace B := B.drew.trans (bn.mono B.drew.size)); obtain ⟨r0, r1, r2, f0, f1, f2⟩ := R.out))
  go_wp2_with fail
  have R' := R.put k' n' s'
  have B' := below_put3 B q3 (.int .i64 k') (.int .i64 n') (.string s')
  obtain ⟨r0, r1, r2, _, _, _⟩ := R'.out
  refine bodyPost_ret (by simp [results, Tryz.results64, go_sem, r0, r1, r2]; try rfl) rfl ?_
  exact ⟨rfl, B'⟩
set_option maxHeartbeats 4000000 in
theorem app_call (e : Gx) (p : Option Addr) (c : Nat) (q : Option Addr) (cq : Nat) (vs : List Val) (w : World) (hk : e.k = 5) (hR : Row w q vs) (hn : ∀ v ∈ vs, inR v.n) (hs : ∀ v ∈ vs, v.s.size ≤ 140737488351232) (hrl : vs.length ≤ 1048576) :
    Calls Tryz.prog 64 #[gV e p c, .slice q vs.length cq] w fun x w' => x = .returned (callV e.op vs).out ∧ Below w.heap.size w w' := by
  have K := hid (fun w (r : Row w q vs) => kCall_any e.op q vs cq w (by unfold maxLen; omega) r hn hs)
  rw [Ans.out_eq] at *
  generalize callV e.op vs = rr at *
  obtain ⟨⟨k', n', s'⟩, er⟩ := rr
  simp only [] at K
  have B := hid (AW.low w e p c)
  have R := hid (AW.box w e p c)
  have HX := hid (AW.bgx w e p c)
  have hXl := HX.out.lt
  obtain ⟨x0, x1, _, _, _, _, _, _, _, _⟩ := HX.out.cells
  have hR1 := hid (hR.below B.out)
  rw [hk] at x0
  have q3 : w.heap.size ≤ w.heap.size + 1 := by omega
  clear hR hn hs hk HX
  unfold AW at *
  go_enter Tryz.func64, Tryz.ntmps64
  go_upto_region 1 with fail
  generalize hW : World.alloc _ _ = W at *
  clear hW
  go_upto_region 7 with fail
  have T := hid (K.out W hR1.out)
  go_wp2_with (first
    | (go_at_call 81; with_reducible refine T.out.mono ?_; rintro e wn ⟨rfl, bn⟩; have RN := hid (R.out.below bn); have BN := hid (B.out.trans (bn.mono B.out.size)); obtain ⟨r0, r1, r2, f0, f1, f2⟩ := RN.out.out)
    | fail)
  have R' := RN.out.put k' n' s'
  have B' := below_put3 BN.out q3 (.int .i64 k') (.int .i64 n') (.string s')
  clear r0 r1 r2
  obtain ⟨r0, r1, r2, _, _, _⟩ := R'.out
  refine bodyPost_ret (by simp [results, Tryz.results64, go_sem, r0, r1, r2]; try rfl) rfl ?_
  exact ⟨rfl, B'⟩
/-- What is handed to applied: as many operands as it looks at. -/
def ApOk (k : Int) (vs : List Val) : Prop := vs ≠ [] ∧ (k = 4 → 2 ≤ vs.length) ∧ vs.length ≤ 1048576
theorem app_any (e : Gx) (p : Option Addr) (c : Nat) (q : Option Addr) (cq : Nat) (vs : List Val) (w : World) (hR : Row w q vs) (hg : ∀ v ∈ vs, RtV v) (ho : ApOk e.k vs) :
    Calls Tryz.prog 64 #[gV e p c, .slice q vs.length cq] w fun x w' => x = .returned (apB e.k e.op vs).out ∧ Below w.heap.size w w' := by
  obtain ⟨h0, h2, hl⟩ := ho
  have hn : ∀ v ∈ vs, inR v.n := fun v hv => (hg v hv).1
  have hs : ∀ v ∈ vs, v.s.size ≤ 2147483648 := fun v hv => (hg v hv).2.1
  unfold apB
  by_cases k3 : e.k = 3
  · rw [if_pos k3]
    match vs, h0 with
    | ⟨k1, n1, s1⟩ :: r, _ => exact app_one e p c q cq k1 n1 s1 r w k3 hR (hn ⟨k1, n1, s1⟩ (by simp)) (by simp at hl; omega)
  rw [if_neg k3]
  by_cases k4 : e.k = 4
  · rw [if_pos k4]
    have := h2 k4
    match vs, this with
    | ⟨k1, n1, s1⟩ :: ⟨k2, n2, s2⟩ :: r, _ =>
      have a1 := hs ⟨k1, n1, s1⟩ (by simp)
      have a2 := hs ⟨k2, n2, s2⟩ (by simp)
      exact app_two e p c q cq k1 n1 k2 n2 s1 s2 r w k4 hR (hn ⟨k1, n1, s1⟩ (by simp)) (hn ⟨k2, n2, s2⟩ (by simp)) (by unfold maxLen; simp only at a1 a2; omega) (by simp at hl; omega)
  rw [if_neg k4]
  by_cases k5 : e.k = 5
  · rw [if_pos k5]
    exact app_call e p c q cq vs w k5 hR hn (fun v hv => by have := hs v hv; omega) hl
  rw [if_neg k5]
  match vs, h0 with
  | ⟨k1, n1, s1⟩ :: r, _ =>
    have := app_null e p c q cq k1 n1 s1 r w k3 k4 k5 hR (by simp at hl; omega)
    rw [show eqv k1 n1 s1 0 0 ⟨#[]⟩ = (k1 == 0) from eqb_null (hg ⟨k1, n1, s1⟩ (by simp))] at this
    exact this
end Go.Proofs.YtblkhlhhlalbkaaGreatDoor
namespace Go.Proofs.YtblkhlhhlalbkaaGreatDoor
open Go.RowKit Go.Lib Go.Sort
set_option linter.unusedVariables false
set_option maxRecDepth 20000

/-- What is thrown. -/
def thrE (n : Int) : List PanicEntry := [{ v := .iface 35 (.int .i64 n), recovered := false }]
/-- How a work that answers a value, or throws, ends. -/
def WE (x : Ans) (e : Ending) : Prop := (x.e = 0 ∧ e = .returned (.agg #[.int .i64 x.v.k, .int .i64 x.v.n, .string x.v.s])) ∨ (x.e ≠ 0 ∧ e = .panicked (thrE x.e))
theorem ev_idle (p : Addr) (w : World) :
    CallsD Tryz.prog 38 #[.pointer (some p)] .returning w fun e u' w' => e = .returned (.tuple #[]) ∧ u' = .returning ∧ w' = w := by
  refine callsD_of_wpS Tryz.func38 rfl fun c₀ cs hu => ?_
  apply wpS_seq
  apply wpS_region
  simp [wpOpsS, go_sem, recoverD, hu, Tryz.ntmps38, Exit.thenS]
  refine wpS_of_wp ?_
  change Code.wp _ _ _ { tmps := #[.pointer (some p), .nilIface, .nilIface, undef, undef, undef, undef], defers := [] } w
  go_wp2
  cases c₀
  simp_all [bodyPostS, results, Tryz.results38]
theorem ev_panicking (b : Nat) (n : Int) (v : Value) (w : World) (c0 : w.cell? ⟨b, 0, none⟩ = some v) (f0 : w.frozen? ⟨b, 0, none⟩ = false) :
    CallsD Tryz.prog 38 #[.pointer (some ⟨b, 0, none⟩)] (.panicking (thrE n)) w fun e u' w' =>
      e = .returned (.tuple #[]) ∧ u' = .panicking [{ v := .iface 35 (.int .i64 n), recovered := true }] ∧ w' = w.setCell ⟨b, 0, none⟩ (.int .i64 n) := by
  refine callsD_of_wpS Tryz.func38 rfl fun c₀ cs hu => ?_
  apply wpS_seq
  apply wpS_region
  unfold thrE at hu
  simp [wpOpsS, go_sem, recoverD, hu, Tryz.ntmps38, Exit.thenS]
  refine wpS_of_wp ?_
  change Code.wp _ _ _ { tmps := #[.pointer (some ⟨b, 0, none⟩), .iface 35 (.int .i64 n), .iface 35 (.int .i64 n), undef, undef, undef, undef], defers := [] } w
  have hta := assert_errno
  go_wp2
  all_goals
    show bodyPostS _ _ _ _ _ Exit.normal _ _ _
    simp [bodyPostS, results, Tryz.results38]
theorem evIf_ok (w : World) : Calls Tryz.prog 65 #[.int .i64 0] w fun e w' => e = .returned (.tuple #[]) ∧ w' = w := by
  go_enter Tryz.func65, Tryz.ntmps65
  go_wp2
  exact end0 rfl rfl ⟨rfl, rfl⟩
theorem evIf_bad (n : Int) (w : World) (hn : (n != 0) = true) : Calls Tryz.prog 65 #[.int .i64 n] w fun e w' => e = .panicked (thrE n) ∧ w' = w := by
  go_enter Tryz.func65, Tryz.ntmps65
  go_wp2
  exact ⟨rfl, rfl, rfl⟩
set_option maxHeartbeats 2000000 in
theorem evCaught_any (g : FuncId) (caps : Array Value) (x : Ans) (w : World) (hg : ∀ w, (callFunc g caps).run Tryz.prog w = .ok (.enter g caps) w) (hx : x.e ≠ 0 → x.v = nullV)
    (h : ∀ w0, Below w.heap.size w w0 → Calls Tryz.prog g caps w0 fun e w' => WE x e ∧ Below w0.heap.size w0 w') :
    Calls Tryz.prog 21 #[.func (.func g) #[] caps] w fun e w' => e = .returned x.out ∧ Below w.heap.size w w' := by
  have hmf : ∀ (fn : Fn) (first cap : Array Value) (w : World), (Instr.makeFunc fn first cap).run Tryz.prog w = .ok (.func fn first cap) w := fun _ _ _ _ => rfl
  have H : Hid (∀ w0, Below w.heap.size w w0 → Calls Tryz.prog g caps w0 fun e w' => WE x e ∧ Below w0.heap.size w0 w') := h
  have HX := hid hx
  clear h hx
  go_enter_defers Tryz.func21, Tryz.ntmps21
  go_wp2
  refine (H.out _ (by go_grown)).mono ?_
  rintro e w1 ⟨he, b1⟩
  have N := named_new b1
  have B := below_new2 b1
  obtain ⟨c0, c1, c2, c3, f0, f1, f2, f3⟩ := N
  obtain ⟨⟨k, n, s⟩, er⟩ := x
  rcases he with ⟨hx, he⟩ | ⟨hx, he⟩
  · obtain rfl : er = 0 := hx
    obtain rfl : e = .returned (.agg #[.int .i64 k, .int .i64 n, .string s]) := he
    go_wp2
    refine leaves_cons (f := 38) (args := #[.pointer (some ⟨w.heap.size + 1, 0, none⟩)]) (by simp) (by simp [go_sem]) ?_
    refine (ev_idle _ _).mono ?_
    rintro e u' w'' ⟨rfl, rfl, rfl⟩
    simp [Leaves, settle, results, Tryz.results21, go_sem, c0, c1, c2, c3]
    exact ⟨rfl, by go_grown⟩
  · obtain rfl : e = .panicked (thrE er) := he
    go_wp2
    refine leaves_cons (f := 38) (args := #[.pointer (some ⟨w.heap.size + 1, 0, none⟩)]) (by simp) (by simp [go_sem]) ?_
    refine (ev_panicking (w.heap.size + 1) er _ _ c3 f3).mono ?_
    rintro e u' w2 ⟨rfl, rfl, rfl⟩
    have hv := HX.out hx
    have hv' : k = 0 ∧ n = 0 ∧ s = ⟨#[]⟩ := by simpa [nullV] using hv
    obtain ⟨rfl, rfl, rfl⟩ := hv'
    simp [Leaves, settle, results, Tryz.results21, go_sem, c0, c1, c2, c3]
    exact ⟨rfl, B.setCell (p := ⟨w.heap.size + 1, 0, none⟩) (by simp) _⟩
/-! ### A column -/
def ovV (pr : Option Addr) (nr cr : Nat) (pk : Option Addr) (nk ck : Nat) : Value := .agg #[.slice pr nr cr, .slice pk nk ck]
set_option maxHeartbeats 2000000 in
theorem col_any (row : List Val) (at_ : Int) (pr : Option Addr) (cr : Nat) (pk : Option Addr) (nk ck : Nat) (w : World) (hR : Row w pr row) (hl : row.length ≤ 1048576) :
    Calls Tryz.prog 43 #[.agg #[.slice pr row.length cr, .slice pk nk ck], .int .i64 at_] w fun e w' => WE (if 0 ≤ at_ ∧ at_ < row.length then ⟨row.getD at_.toNat nullV, 0⟩ else ⟨nullV, 2⟩) e ∧ Below w.heap.size w w' := by
  by_cases h0 : at_ < 0
  · rw [if_neg (by omega)]
    go_enter Tryz.func43, Tryz.ntmps43
    go_wp2_with fail
    exact ⟨rfl, Or.inr ⟨by decide, rfl⟩, albl2 w _ _⟩
  by_cases h1 : at_ < row.length
  · rw [if_pos ⟨by omega, h1⟩]
    obtain ⟨k, rfl⟩ : ∃ k : Nat, at_ = (k : Int) := ⟨at_.toNat, by omega⟩
    have hk : k < row.length := by omega
    rw [Int.toNat_natCast, List.getD_eq_getElem?_getD, List.getElem?_eq_getElem hk, Option.getD_some]
    have B := albl2 w (.cells #[.slice pr row.length cr, .slice pk nk ck] 55) (.cells #[.int .i64 0, .int .i64 0, .string ⟨#[]⟩] 23)
    obtain ⟨b, off, rfl, c0, c1, c2⟩ := (hR.below B).at hk
    obtain ⟨b', off', e1, d0, _, _⟩ := hR.at hk
    obtain ⟨rfl, rfl⟩ : b = b' ∧ off = off' := by simpa using e1
    have hb := cell_lt d0
    have hb1 : b < w.heap.size + 1 := Nat.lt_succ_of_lt hb
    clear d0 e1 hR
    generalize row[k] = v at *
    obtain ⟨vk, vn, vs⟩ := v
    simp only [] at c0 c1 c2
    clear h0
    go_enter Tryz.func43, Tryz.ntmps43
    go_wp2_with fail
    go_returns
    exact ⟨Or.inl ⟨rfl, rfl⟩, by go_grown⟩
  · rw [if_neg (by omega)]
    have h2 : (row.length : Int) ≤ at_ := by omega
    go_enter Tryz.func43, Tryz.ntmps43
    go_wp2_with fail
    exact ⟨rfl, Or.inr ⟨by decide, rfl⟩, albl2 w _ _⟩
end Go.Proofs.YtblkhlhhlalbkaaGreatDoor
