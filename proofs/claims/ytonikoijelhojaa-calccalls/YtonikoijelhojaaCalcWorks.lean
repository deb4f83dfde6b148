/- The laws' own 'works' answers true. No conditions. -/
import Derived.Test.YtonikoijelhojaaCalcBin
import Derived.Test.YtonikoijelhojaaCallSub
namespace Go.Proofs.Ytonikoijelhojaa
open Go.RowKit Go.Lib Go.Sort
set_option linter.unusedVariables false

theorem num_any (n : Int) (w : World) :
    Calls Try.prog 22 #[.int .i64 n] w fun e w' => e = .returned (.agg #[.int .i64 2, .int .i64 n, .string ⟨#[]⟩]) ∧ Below w.heap.size w w' := by
  go_enter Try.func22, Try.ntmps22
  go_wp2
  go_returns
  exact ⟨rfl, by go_grown⟩

theorem eqv_same (k n : Int) (s : ByteArray) : eqv k n s k n s = true := by simp [eqv]

theorem rowOf3 (w : World) (k1 n1 k2 n2 k3 n3 : Int) (s1 s2 s3 : ByteArray) (t : TypeId) :
    Row (w.alloc (.cells #[.int .i64 k1, .int .i64 n1, .string s1, .int .i64 k2, .int .i64 n2, .string s2, .int .i64 k3, .int .i64 n3, .string s3] t)) (some ⟨w.heap.size, 0, none⟩) [⟨k1, n1, s1⟩, ⟨k2, n2, s2⟩, ⟨k3, n3, s3⟩] := by
  refine Or.inr ⟨_, _, rfl, fun i hi => ?_⟩
  have : i = 0 ∨ i = 1 ∨ i = 2 := by simp at hi; omega
  rcases this with rfl | rfl | rfl <;> refine ⟨?_, ?_, ?_⟩ <;> go_simp

theorem works_bin (op : Int) (k1 n1 k2 n2 k n e : Int) (h : binV op ⟨k1, n1, ⟨#[]⟩⟩ ⟨k2, n2, ⟨#[]⟩⟩ = ⟨⟨k, n, ⟨#[]⟩⟩, e⟩) (h1 : inR n1) (h2 : inR n2) (w : World) :
    Calls Try.prog 10 #[.int .i64 op, .agg #[.int .i64 k1, .int .i64 n1, .string ⟨#[]⟩], .agg #[.int .i64 k2, .int .i64 n2, .string ⟨#[]⟩]] w fun x w' => x = .returned (.tuple #[.agg #[.int .i64 k, .int .i64 n, .string ⟨#[]⟩], .int .i64 e]) ∧ Below w.heap.size w w' := by
  have := binary_any op ⟨k1, n1, ⟨#[]⟩⟩ ⟨k2, n2, ⟨#[]⟩⟩ w h1 h2 (show 0 ≤ maxLen from Nat.zero_le _)
  rw [h] at this
  exact this

set_option maxHeartbeats 4000000 in
theorem works_any (w : World) : Calls Try.prog 21 #[] w fun e w' => e = .returned (.bool true) ∧ Below w.heap.size w w' := by
  have he := run_eqv
  have C1 := works_bin 11 2 2 2 3 2 5 0 rfl (by decide) (by decide)
  have C2 := works_bin 4 0 0 1 0 1 0 0 rfl (by decide) (by decide)
  have C3 := works_bin 14 2 1 2 0 0 0 41 rfl (by decide) (by decide)
  have C4 := fun w => call_substr (some ⟨World.heap w |>.size, 0, none⟩) 3 0 2 3 ⟨#[104, 101, 108, 108, 111]⟩ ⟨#[]⟩ ⟨#[]⟩ _ (rowOf3 w 3 0 2 2 2 3 ⟨#[104, 101, 108, 108, 111]⟩ ⟨#[]⟩ ⟨#[]⟩ 23) (by decide) (by decide) (by decide)
  rw [show partV ⟨#[104, 101, 108, 108, 111]⟩ 2 3 = ⟨#[101, 108, 108]⟩ by decide] at C4
  simp only [Ans.out_eq, textV] at C4
  have q1 := eqv_same 2 5 ⟨#[]⟩
  have q2 := eqv_same 1 0 ⟨#[]⟩
  have B := Below.refl w.heap.size w
  go_enter Try.func21, Try.ntmps21
  go_wp2_with (first
    | (go_at_call 22; with_reducible refine (num_any _ _).mono ?_; rintro e wn ⟨rfl, bn⟩; (first | replace B := B.trans (bn.mono B.size) | replace B := B.trans ((below_new bn).mono B.size)); (first | replace X := X.below bn | replace X := (X.alloc _).below bn | have X := (Box.new _ 2 5 ⟨#[]⟩ 23).below bn | skip); (first | replace Y := Y.below bn | replace Y := (Y.alloc _).below bn | have Y := (Box.new _ 1 0 ⟨#[]⟩ 23).below bn | skip))
    | (go_at_call 10; with_reducible refine (C1 _).mono ?_; rintro e wn ⟨rfl, bn⟩; (first | replace B := B.trans (bn.mono B.size) | replace B := B.trans ((below_new bn).mono B.size)); (first | replace X := X.below bn | replace X := (X.alloc _).below bn | have X := (Box.new _ 2 5 ⟨#[]⟩ 23).below bn | skip); (first | replace Y := Y.below bn | replace Y := (Y.alloc _).below bn | have Y := (Box.new _ 1 0 ⟨#[]⟩ 23).below bn | skip))
    | (go_at_call 10; with_reducible refine (C2 _).mono ?_; rintro e wn ⟨rfl, bn⟩; (first | replace B := B.trans (bn.mono B.size) | replace B := B.trans ((below_new bn).mono B.size)); (first | replace X := X.below bn | replace X := (X.alloc _).below bn | have X := (Box.new _ 2 5 ⟨#[]⟩ 23).below bn | skip); (first | replace Y := Y.below bn | replace Y := (Y.alloc _).below bn | have Y := (Box.new _ 1 0 ⟨#[]⟩ 23).below bn | skip))
    | (go_at_call 10; with_reducible refine (C3 _).mono ?_; rintro e wn ⟨rfl, bn⟩; (first | replace B := B.trans (bn.mono B.size) | replace B := B.trans ((below_new bn).mono B.size)); (first | replace X := X.below bn | replace X := (X.alloc _).below bn | have X := (Box.new _ 2 5 ⟨#[]⟩ 23).below bn | skip); (first | replace Y := Y.below bn | replace Y := (Y.alloc _).below bn | have Y := (Box.new _ 1 0 ⟨#[]⟩ 23).below bn | skip))
    | (go_at_call 16; with_reducible refine (C4 _).mono ?_; rintro e wn ⟨rfl, bn⟩; (first | replace B := B.trans (bn.mono B.size) | replace B := B.trans ((below_new bn).mono B.size)); (first | replace X := X.below bn | replace X := (X.alloc _).below bn | have X := (Box.new _ 2 5 ⟨#[]⟩ 23).below bn | skip); (first | replace Y := Y.below bn | replace Y := (Y.alloc _).below bn | have Y := (Box.new _ 1 0 ⟨#[]⟩ 23).below bn | skip))
    | fail)
  have S := Box.new wn 3 0 ⟨#[101, 108, 108]⟩ 23
  replace X := X.alloc (.cells #[.int .i64 3, .int .i64 0, .string ⟨#[101, 108, 108]⟩] 23)
  replace Y := Y.alloc (.cells #[.int .i64 3, .int .i64 0, .string ⟨#[101, 108, 108]⟩] 23)
  replace B : Below w.heap.size w (wn.alloc (.cells #[.int .i64 3, .int .i64 0, .string ⟨#[101, 108, 108]⟩] 23)) := B.alloc B.size _
  clear bn C1 C2 C3 C4
  generalize wn.alloc (.cells #[.int .i64 3, .int .i64 0, .string ⟨#[101, 108, 108]⟩] 23) = W at *
  obtain ⟨x0, x1, x2, _⟩ := X.get
  obtain ⟨y0, y1, y2, _⟩ := Y.get
  obtain ⟨z0, z1, z2, _⟩ := S.get
  have x0 := cell_regrown x0
  have x1 := cell_regrown x1
  have x2 := cell_regrown x2
  have y0 := cell_regrown y0
  have y1 := cell_regrown y1
  have y2 := cell_regrown y2
  have z2 := cell_regrown z2
  have D1 : Hid (∀ d os, Calls Try.prog 22 #[.int .i64 5] (grow (redrawn W d) os) fun e w'' => e = .returned (.agg #[.int .i64 2, .int .i64 5, .string ⟨#[]⟩]) ∧ ∃ p : Regrown, w'' = grow (redrawn W p.d) p.os) :=
    fun d os => Calls.regrown_of (num_any 5 _)
  clear X Y S z0 z1
  refine wp_region_quiet_below (by kernel_rfl) (by kernel_rfl) ?_
  repeat (first | go_big_quiet_step (first | (go_at_call 22; with_reducible exact D1.out _ _)) | quiet_step (first | (go_at_call 22; with_reducible exact D1.out _ _)))
  refine wpQuiet_nil ?_
  intro _ hw'
  obtain ⟨⟨dq, osq⟩, hw''⟩ := hw'
  subst hw''
  go_wp2
  go_ret
  exact ⟨ret_bool (by simp), B.trans ((below_regrown W dq osq).mono B.size)⟩
end Go.Proofs.Ytonikoijelhojaa
