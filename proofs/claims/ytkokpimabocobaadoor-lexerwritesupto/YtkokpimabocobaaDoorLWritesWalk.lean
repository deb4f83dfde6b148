/- The law LexerWrites returns true and writes nothing that was there. Conditions: the text is shorter than 2 to the 31st bytes, the number fits 64 bits; the library's table lies in memory as its text lays it. -/
import Derived.Test.YtkokpimabocobaaDoorLwRPrint
import Derived.Test.YtkokpimabocobaaDoorLwKey
import Derived.Lib.QuietBelow
namespace Go.Proofs.YtkokpimabocobaaDoor
open Go.RowKit Go.Lib Go.Sort
set_option linter.unusedVariables false

theorem xkey_any (s : ByteArray) (w : World) :
    Calls Tryd.prog 4 #[.string s] w fun e w' => e = .returned (.bool (kw s.data.toList)) ∧ w' = w := by
  have C := hidW (fun w => keyword_any s w)
  generalize kw s.data.toList = b at *
  go_enter Tryd.func4, Tryd.ntmps4
  go_wp2_with (go_at_call 8; with_reducible refine (C.out _).mono ?_; rintro e w2 ⟨rfl, hw⟩; subst hw)
  go_ret
  exact ⟨rfl, rfl⟩
theorem rkey_any (s : ByteArray) (w : World) :
    Calls Tryd.prog 5 #[.string s] w fun e w' => e = .returned (.bool (kw s.data.toList)) ∧ w' = w := by
  have C := hidW (fun w => rkeyword_any s w)
  generalize kw s.data.toList = b at *
  go_enter Tryd.func5, Tryd.ntmps5
  go_wp2_with (go_at_call 9; with_reducible refine (C.out _).mono ?_; rintro e w2 ⟨rfl, hw⟩; subst hw)
  go_ret
  exact ⟨rfl, rfl⟩

set_option maxHeartbeats 1000000 in
theorem lwrites_core (k i n : Int) (s r : ByteArray) (b : Bool) (w : World) (hw : Ready w)
    (H1 : Hid (∀ w, Calls Tryd.prog 4 #[.string s] w fun e w' => e = .returned (.bool b) ∧ w' = w))
    (H2 : Hid (∀ w, Calls Tryd.prog 5 #[.string s] w fun e w' => e = .returned (.bool b) ∧ w' = w))
    (H3 : Hid (∀ w, Ready w → Calls Tryd.prog 6 #[.agg #[.int .i64 k, .string s, .int .i64 i, .int .i64 n]] w fun e w' => e = .returned (.string r) ∧ Below w.heap.size w w'))
    (H4 : Hid (∀ w, Calls Tryd.prog 7 #[.agg #[.int .i64 k, .string s, .int .i64 i, .int .i64 n]] w fun e w' => e = .returned (.string r) ∧ Below w.heap.size w w')) :
    Calls Tryd.prog 3 #[.agg #[.int .i64 k, .string s, .int .i64 i, .int .i64 n]] w fun e w' => e = .returned (.bool true) ∧ Below w.heap.size w w' := by
  have HW : Hid (Ready w) := hw
  clear hw
  go_enter Tryd.func3, Tryd.ntmps3
  go_wp2_with fail
  have B0 : Below w.heap.size w (w.alloc (.cells #[.int .i64 k, .string s, .int .i64 i, .int .i64 n] 23)) := (Below.refl _ _).alloc (Nat.le_refl _) _
  have x0 := cell_regrown (w := w.alloc (.cells #[.int .i64 k, .string s, .int .i64 i, .int .i64 n] 23)) (a := ⟨w.heap.size, 0, none⟩) (v := .int .i64 k) (by go_simp)
  have x1 := cell_regrown (w := w.alloc (.cells #[.int .i64 k, .string s, .int .i64 i, .int .i64 n] 23)) (a := ⟨w.heap.size, 1, none⟩) (v := .string s) (by go_simp)
  have x2 := cell_regrown (w := w.alloc (.cells #[.int .i64 k, .string s, .int .i64 i, .int .i64 n] 23)) (a := ⟨w.heap.size, 2, none⟩) (v := .int .i64 i) (by go_simp)
  have x3 := cell_regrown (w := w.alloc (.cells #[.int .i64 k, .string s, .int .i64 i, .int .i64 n] 23)) (a := ⟨w.heap.size, 3, none⟩) (v := .int .i64 n) (by go_simp)
  generalize hW0 : w.alloc (.cells #[.int .i64 k, .string s, .int .i64 i, .int .i64 n] 23) = W0 at *
  have HR := HW.out.below B0
  have HR' : Hid (Ready W0) := HR
  clear HR hW0
  have D1 : Hid (∀ d os, Calls Tryd.prog 4 #[.string s] (grow (redrawn W0 d) os) fun e w'' => e = .returned (.bool b) ∧ ∃ p : Regrown, w'' = grow (redrawn W0 p.d) p.os) := fun d os => (H1.out _).mono fun _ _ h => ⟨h.1, ⟨d, os⟩, h.2⟩
  have D2 : Hid (∀ d os, Calls Tryd.prog 5 #[.string s] (grow (redrawn W0 d) os) fun e w'' => e = .returned (.bool b) ∧ ∃ p : Regrown, w'' = grow (redrawn W0 p.d) p.os) := fun d os => (H2.out _).mono fun _ _ h => ⟨h.1, ⟨d, os⟩, h.2⟩
  have D3 : Hid (∀ d os, Calls Tryd.prog 6 #[.agg #[.int .i64 k, .string s, .int .i64 i, .int .i64 n]] (grow (redrawn W0 d) os) fun e w'' => e = .returned (.string r) ∧ ∃ p : Regrown, w'' = grow (redrawn W0 p.d) p.os) := fun d os => Calls.regrown_of (H3.out _ (HR'.out.below (below_regrown W0 d os)))
  have D4 : Hid (∀ d os, Calls Tryd.prog 7 #[.agg #[.int .i64 k, .string s, .int .i64 i, .int .i64 n]] (grow (redrawn W0 d) os) fun e w'' => e = .returned (.string r) ∧ ∃ p : Regrown, w'' = grow (redrawn W0 p.d) p.os) := fun d os => Calls.regrown_of (H4.out _)
  clear H1 H2 H3 H4 HW HR'
  refine wp_region_quiet_below (by kernel_rfl) (by kernel_rfl) ?_
  repeat (first
    | go_big_quiet_step (first | (go_at_call 4; exact D1.out _ _) | (go_at_call 5; exact D2.out _ _) | (go_at_call 6; exact D3.out _ _) | (go_at_call 7; exact D4.out _ _))
    | quiet_step (first | (go_at_call 4; exact D1.out _ _) | (go_at_call 5; exact D2.out _ _) | (go_at_call 6; exact D3.out _ _) | (go_at_call 7; exact D4.out _ _)))
  refine wpQuiet_nil ?_
  intro _ hw'
  obtain ⟨⟨dq, osq⟩, hw''⟩ := hw'
  subst hw''
  go_wp2
  go_ret
  exact ⟨rfl, B0.trans ((below_regrown W0 dq osq).mono B0.size)⟩

theorem lwrites_any (k i n : Int) (s : ByteArray) (w : World) (hw : Ready w) (hs : s.size ≤ 1048576) (hn0 : -9223372036854775808 ≤ n) (hn1 : n ≤ 9223372036854775807) :
    Calls Tryd.prog 3 #[.agg #[.int .i64 k, .string s, .int .i64 i, .int .i64 n]] w fun e w' => e = .returned (.bool true) ∧ Below w.heap.size w w' :=
  lwrites_core k i n s ⟨(prtL k n s).toArray⟩ (kw s.data.toList) w hw (fun w => xkey_any s w) (fun w => rkey_any s w) (fun w hw => xprint_any k i n s w hw (by omega) hn0 hn1) (fun w => rprint_any k i n s w (by omega) hn0 hn1)
end Go.Proofs.YtkokpimabocobaaDoor
