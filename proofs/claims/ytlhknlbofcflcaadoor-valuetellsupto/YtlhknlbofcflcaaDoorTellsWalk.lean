/- The law ValueTells returns true and writes nothing that was there. Conditions: the text is shorter than 2 to the 31st bytes; the library's table lies in memory as its text lays it. -/
import Derived.Test.YtlhknlbofcflcaaDoorRefLit
namespace Go.Proofs.YtlhknlbofcflcaaDoor
open Go.RowKit Go.Lib Go.Sort
set_option linter.unusedVariables false

set_option maxHeartbeats 1000000 in
theorem tells_core (k n t : Int) (s r q : ByteArray) (c : Int) (w : World) (hw : Ready w)
    (H1 : Hid (∀ w, Calls Tryd.prog 8 #[.agg #[.int .i64 k, .int .i64 n, .string s]] w fun e w' => e = .returned (.int .i64 c) ∧ Below w.heap.size w w'))
    (H2 : Hid (∀ w, Calls Tryd.prog 9 #[.agg #[.int .i64 k, .int .i64 n, .string s]] w fun e w' => e = .returned (.int .i64 c) ∧ Below w.heap.size w w'))
    (H3 : Hid (∀ w, Ready w → Calls Tryd.prog 10 #[.agg #[.int .i64 k, .int .i64 n, .string s]] w fun e w' => e = .returned (.string r) ∧ Below w.heap.size w w'))
    (H4 : Hid (∀ w, Calls Tryd.prog 11 #[.agg #[.int .i64 k, .int .i64 n, .string s]] w fun e w' => e = .returned (.string r) ∧ Below w.heap.size w w'))
    (H5 : Hid (∀ w, Calls Tryd.prog 12 #[.int .i64 t] w fun e w' => e = .returned (.string q) ∧ w' = w))
    (H6 : Hid (∀ w, Calls Tryd.prog 13 #[.int .i64 t] w fun e w' => e = .returned (.string q) ∧ w' = w)) :
    Calls Tryd.prog 3 #[.agg #[.int .i64 k, .int .i64 n, .string s], .int .i64 t] w fun e w' => e = .returned (.bool true) ∧ Below w.heap.size w w' := by
  have HW : Hid (Ready w) := hw
  clear hw
  go_enter Tryd.func3, Tryd.ntmps3
  go_wp2_with fail
  have B0 : Below w.heap.size w (w.alloc (.cells #[.int .i64 k, .int .i64 n, .string s] 23)) := (Below.refl _ _).alloc (Nat.le_refl _) _
  have x0 := cell_regrown (w := w.alloc (.cells #[.int .i64 k, .int .i64 n, .string s] 23)) (a := ⟨w.heap.size, 0, none⟩) (v := .int .i64 k) (by go_simp)
  have x1 := cell_regrown (w := w.alloc (.cells #[.int .i64 k, .int .i64 n, .string s] 23)) (a := ⟨w.heap.size, 1, none⟩) (v := .int .i64 n) (by go_simp)
  have x2 := cell_regrown (w := w.alloc (.cells #[.int .i64 k, .int .i64 n, .string s] 23)) (a := ⟨w.heap.size, 2, none⟩) (v := .string s) (by go_simp)
  generalize hW0 : w.alloc (.cells #[.int .i64 k, .int .i64 n, .string s] 23) = W0 at *
  have HR := HW.out.below B0
  have HR' : Hid (Ready W0) := HR
  clear HR hW0
  have D1 : Hid (∀ d os, Calls Tryd.prog 8 #[.agg #[.int .i64 k, .int .i64 n, .string s]] (grow (redrawn W0 d) os) fun e w'' => e = .returned (.int .i64 c) ∧ ∃ p : Regrown, w'' = grow (redrawn W0 p.d) p.os) := fun d os => Calls.regrown_of (H1.out _)
  have D2 : Hid (∀ d os, Calls Tryd.prog 9 #[.agg #[.int .i64 k, .int .i64 n, .string s]] (grow (redrawn W0 d) os) fun e w'' => e = .returned (.int .i64 c) ∧ ∃ p : Regrown, w'' = grow (redrawn W0 p.d) p.os) := fun d os => Calls.regrown_of (H2.out _)
  have D3 : Hid (∀ d os, Calls Tryd.prog 10 #[.agg #[.int .i64 k, .int .i64 n, .string s]] (grow (redrawn W0 d) os) fun e w'' => e = .returned (.string r) ∧ ∃ p : Regrown, w'' = grow (redrawn W0 p.d) p.os) := fun d os => Calls.regrown_of (H3.out _ (HR'.out.below (below_regrown W0 d os)))
  have D4 : Hid (∀ d os, Calls Tryd.prog 11 #[.agg #[.int .i64 k, .int .i64 n, .string s]] (grow (redrawn W0 d) os) fun e w'' => e = .returned (.string r) ∧ ∃ p : Regrown, w'' = grow (redrawn W0 p.d) p.os) := fun d os => Calls.regrown_of (H4.out _)
  have D5 : Hid (∀ d os, Calls Tryd.prog 12 #[.int .i64 t] (grow (redrawn W0 d) os) fun e w'' => e = .returned (.string q) ∧ ∃ p : Regrown, w'' = grow (redrawn W0 p.d) p.os) := fun d os => (H5.out _).mono fun _ _ h => ⟨h.1, ⟨d, os⟩, h.2⟩
  have D6 : Hid (∀ d os, Calls Tryd.prog 13 #[.int .i64 t] (grow (redrawn W0 d) os) fun e w'' => e = .returned (.string q) ∧ ∃ p : Regrown, w'' = grow (redrawn W0 p.d) p.os) := fun d os => (H6.out _).mono fun _ _ h => ⟨h.1, ⟨d, os⟩, h.2⟩
  clear H1 H2 H3 H4 H5 H6 HW HR'
  refine wp_region_quiet_below (by kernel_rfl) (by kernel_rfl) ?_
  repeat (first
    | go_big_quiet_step (first | (go_at_call 8; exact D1.out _ _) | (go_at_call 9; exact D2.out _ _) | (go_at_call 10; exact D3.out _ _) | (go_at_call 11; exact D4.out _ _) | (go_at_call 12; exact D5.out _ _) | (go_at_call 13; exact D6.out _ _))
    | quiet_step (first | (go_at_call 8; exact D1.out _ _) | (go_at_call 9; exact D2.out _ _) | (go_at_call 10; exact D3.out _ _) | (go_at_call 11; exact D4.out _ _) | (go_at_call 12; exact D5.out _ _) | (go_at_call 13; exact D6.out _ _)))
  refine wpQuiet_nil ?_
  intro _ hw'
  obtain ⟨⟨dq, osq⟩, hw''⟩ := hw'
  subst hw''
  go_wp2
  go_ret
  exact ⟨rfl, B0.trans ((below_regrown W0 dq osq).mono B0.size)⟩

theorem tells_any (a : Val) (t : Int) (w : World) (hw : Ready w) (hs : a.s.size ≤ 1048576) (hn0 : -9223372036854775808 ≤ a.n) (hn1 : a.n ≤ 9223372036854775807) :
    Calls Tryd.prog 3 #[a.v, .int .i64 t] w fun e w' => e = .returned (.bool true) ∧ Below w.heap.size w w' :=
  tells_core a.k a.n t a.s ⟨(litV a).toArray⟩ ⟨(typeL t).toArray⟩ (checkV a) w hw (fun w => check_any a w) (fun w => refCheck_any a w) (fun w hw => literal_any a w hw (by omega) hn0 hn1) (fun w => refLit_any a w (by omega) hn0 hn1) (fun w => type_any t w) (fun w => refType_any t w)
end Go.Proofs.YtlhknlbofcflcaaDoor
