/- The laws' own 'works' answers true. No conditions. -/
import Derived.Test.YtfcecblppdgcbaaAgLaw
import Derived.Deep.CutRange
namespace Go.Proofs.Ytfcecblppdgcbaa
open Go.RowKit Go.Lib Go.Sort
set_option linter.unusedVariables false
set_option maxRecDepth 20000

theorem rowOf3 (w : World) (k1 n1 k2 n2 k3 n3 : Int) (s1 s2 s3 : ByteArray) (t : TypeId) :
    Row (w.alloc (.cells #[.int .i64 k1, .int .i64 n1, .string s1, .int .i64 k2, .int .i64 n2, .string s2, .int .i64 k3, .int .i64 n3, .string s3] t)) (some ⟨w.heap.size, 0, none⟩) [⟨k1, n1, s1⟩, ⟨k2, n2, s2⟩, ⟨k3, n3, s3⟩] := by
  refine Or.inr ⟨_, _, rfl, fun i hi => ?_⟩
  have : i = 0 ∨ i = 1 ∨ i = 2 := by simp at hi; omega
  rcases this with rfl | rfl | rfl <;> refine ⟨?_, ?_, ?_⟩ <;> go_simp
theorem rowOf2 (w : World) (k1 n1 k2 n2 : Int) (s1 s2 : ByteArray) (t : TypeId) :
    Row (w.alloc (.cells #[.int .i64 k1, .int .i64 n1, .string s1, .int .i64 k2, .int .i64 n2, .string s2] t)) (some ⟨w.heap.size, 0, none⟩) [⟨k1, n1, s1⟩, ⟨k2, n2, s2⟩] := by
  refine Or.inr ⟨_, _, rfl, fun i hi => ?_⟩
  have : i = 0 ∨ i = 1 := by simp at hi; omega
  rcases this with rfl | rfl <;> refine ⟨?_, ?_, ?_⟩ <;> go_simp
theorem gath3 (w : World) : Calls Try.prog 16 #[.int .i64 2, .slice (some ⟨w.heap.size, 0, none⟩) 3 3] (w.alloc (.cells #[.int .i64 2, .int .i64 1, .string ⟨#[]⟩, .int .i64 0, .int .i64 0, .string ⟨#[]⟩, .int .i64 2, .int .i64 2, .string ⟨#[]⟩] 32)) fun e w' => e = .returned (.tuple #[.agg #[.int .i64 2, .int .i64 3, .string ⟨#[]⟩], .bool true]) ∧ Below w.heap.size w w' := by
  have h := gathered_any 2 [⟨2, 1, ⟨#[]⟩⟩, ⟨0, 0, ⟨#[]⟩⟩, ⟨2, 2, ⟨#[]⟩⟩] _ 3 _ (by decide) (by decide) (rowOf3 w 2 1 0 0 2 2 ⟨#[]⟩ ⟨#[]⟩ ⟨#[]⟩ 32) (by
    intro x hx
    simp only [List.mem_cons, List.not_mem_nil, or_false] at hx
    rcases hx with rfl | rfl | rfl <;> decide)
  exact h.mono fun e w' ⟨he, b⟩ => ⟨he.trans rfl, below_new b⟩
theorem gath0 (w : World) : Calls Try.prog 16 #[.int .i64 2, .slice none 0 0] w fun e w' => e = .returned (.tuple #[.agg #[.int .i64 0, .int .i64 0, .string ⟨#[]⟩], .bool true]) ∧ Below w.heap.size w w' := by
  have h := gathered_any 2 [] none 0 w (by decide) (by decide) (Or.inl rfl) (by intro x hx; cases hx)
  exact h.mono fun e w' ⟨he, b⟩ => ⟨he.trans rfl, b⟩
theorem gathT (w : World) : Calls Try.prog 16 #[.int .i64 4, .slice (some ⟨w.heap.size, 0, none⟩) 2 2] (w.alloc (.cells #[.int .i64 3, .int .i64 0, .string ⟨#[97]⟩, .int .i64 3, .int .i64 0, .string ⟨#[98]⟩] 32)) fun e w' => e = .returned (.tuple #[.agg #[.int .i64 3, .int .i64 0, .string ⟨#[98]⟩], .bool true]) ∧ Below w.heap.size w w' := by
  have h := gathered_any 4 [⟨3, 0, ⟨#[97]⟩⟩, ⟨3, 0, ⟨#[98]⟩⟩] _ 2 _ (by decide) (by decide) (rowOf2 w 3 0 3 0 ⟨#[97]⟩ ⟨#[98]⟩ 32) (by
    intro x hx
    simp only [List.mem_cons, List.not_mem_nil, or_false] at hx
    rcases hx with rfl | rfl <;> decide)
  exact h.mono fun e w' ⟨he, b⟩ => ⟨he.trans rfl, below_new b⟩
theorem gathO (w : World) : Calls Try.prog 16 #[.int .i64 2, .slice (some ⟨w.heap.size, 0, none⟩) 2 2] (w.alloc (.cells #[.int .i64 2, .int .i64 9223372036854775807, .string ⟨#[]⟩, .int .i64 2, .int .i64 1, .string ⟨#[]⟩] 32)) fun e w' => e = .returned (.tuple #[.agg #[.int .i64 0, .int .i64 0, .string ⟨#[]⟩], .bool false]) ∧ Below w.heap.size w w' := by
  have h := gathered_any 2 [⟨2, 9223372036854775807, ⟨#[]⟩⟩, ⟨2, 1, ⟨#[]⟩⟩] _ 2 _ (by decide) (by decide) (rowOf2 w 2 9223372036854775807 2 1 ⟨#[]⟩ ⟨#[]⟩ 32) (by
    intro x hx
    simp only [List.mem_cons, List.not_mem_nil, or_false] at hx
    rcases hx with rfl | rfl <;> decide)
  exact h.mono fun e w' ⟨he, b⟩ => ⟨he.trans rfl, below_new b⟩
theorem eqv_same (k n : Int) (s : ByteArray) : eqv k n s k n s = true := by simp [eqv]

set_option maxHeartbeats 4000000 in
theorem works_any (w : World) : Calls Try.prog 15 #[] w fun e w' => e = .returned (.bool true) ∧ Below w.heap.size w w' := by
  have he := run_eqv
  have NB := fun n w => lnum_any n w
  go_enter Try.func15, Try.ntmps15
  go_upto_region 2 with (first
    | (go_at_call 18; with_reducible refine (NB 1 _).mono ?_; rintro e w1 ⟨rfl, b1⟩)
    | (go_at_call 18; with_reducible refine (NB 2 _).mono ?_; rintro e w2 ⟨rfl, b2⟩)
    | (go_at_call 16; with_reducible refine (gath3 _).mono ?_; rintro e w3 ⟨rfl, b3⟩)
    | fail)
  have X1 := hid (Box.new w3 2 3 ⟨#[]⟩ 32)
  have B3 := b1.trans ((b2.mono b1.size).trans (b3.mono (Nat.le_trans b1.size b2.size)))
  have B4 := hid (B3.alloc B3.size (.cells #[.int .i64 2, .int .i64 3, .string ⟨#[]⟩] 32))
  clear b1 b2 b3 B3
  generalize w3.heap.size = x1 at *
  generalize World.alloc w3 _ = W1 at *
  go_upto_region 3 with (first
    | (go_at_call 16; with_reducible refine (gath0 _).mono ?_; rintro e w1 ⟨rfl, b1⟩)
    | fail)
  have X1' := hid ((X1.out.below b1).alloc (.cells #[.int .i64 0, .int .i64 0, .string ⟨#[]⟩] 32))
  have X2 := hid (Box.new w1 0 0 ⟨#[]⟩ 32)
  have B5 := B4.out.trans (b1.mono B4.out.size)
  have B6 := hid (B5.alloc B5.size (.cells #[.int .i64 0, .int .i64 0, .string ⟨#[]⟩] 32))
  clear b1 B5 B4 X1
  generalize w1.heap.size = x2 at *
  generalize World.alloc w1 _ = W2 at *
  go_upto_region 4 with (first
    | (go_at_call 16; with_reducible refine (gathT _).mono ?_; rintro e w1 ⟨rfl, b1⟩)
    | fail)
  have X1 := hid ((X1'.out.below b1).alloc (.cells #[.int .i64 3, .int .i64 0, .string ⟨#[98]⟩] 32))
  have X2' := hid ((X2.out.below b1).alloc (.cells #[.int .i64 3, .int .i64 0, .string ⟨#[98]⟩] 32))
  have X3 := hid (Box.new w1 3 0 ⟨#[98]⟩ 32)
  have B7 := B6.out.trans (b1.mono B6.out.size)
  have B8 := hid (B7.alloc B7.size (.cells #[.int .i64 3, .int .i64 0, .string ⟨#[98]⟩] 32))
  clear b1 B6 B7 X1' X2
  generalize w1.heap.size = x3 at *
  generalize World.alloc w1 _ = W3 at *
  go_upto_region 5 with (first
    | (go_at_call 18; with_reducible refine (NB 9223372036854775807 _).mono ?_; rintro e w1 ⟨rfl, b1⟩)
    | (go_at_call 18; with_reducible refine (NB 1 _).mono ?_; rintro e w2 ⟨rfl, b2⟩)
    | (go_at_call 16; with_reducible refine (gathO _).mono ?_; rintro e w3 ⟨rfl, b3⟩)
    | fail)
  have bb := b1.trans ((b2.mono b1.size).trans (b3.mono (Nat.le_trans b1.size b2.size)))
  have Y1 := (X1.out.below bb).alloc (.cells #[.int .i64 0, .int .i64 0, .string ⟨#[]⟩] 32)
  have Y2 := (X2'.out.below bb).alloc (.cells #[.int .i64 0, .int .i64 0, .string ⟨#[]⟩] 32)
  have Y3 := (X3.out.below bb).alloc (.cells #[.int .i64 0, .int .i64 0, .string ⟨#[]⟩] 32)
  have B9 := B8.out.trans (bb.mono B8.out.size)
  have BB := hid (B9.alloc B9.size (.cells #[.int .i64 0, .int .i64 0, .string ⟨#[]⟩] 32))
  clear b1 b2 b3 bb B9 B8 X1 X2' X3
  generalize World.alloc w3 _ = W at *
  obtain ⟨a0, a1, a2, _⟩ := Y1.get
  obtain ⟨c0, c1, c2, _⟩ := Y2.get
  obtain ⟨d0, d1, d2, _⟩ := Y3.get
  have a0 := cell_regrown a0
  have a1 := cell_regrown a1
  have a2 := cell_regrown a2
  have c0 := cell_regrown c0
  have c1 := cell_regrown c1
  have c2 := cell_regrown c2
  have d0 := cell_regrown d0
  have d1 := cell_regrown d1
  have d2 := cell_regrown d2
  have q1 := eqv_same 2 3 ⟨#[]⟩
  have q2 := eqv_same 0 0 ⟨#[]⟩
  have D : Hid (∀ d os, Calls Try.prog 18 #[.int .i64 3] (grow (redrawn W d) os) fun e w'' => e = .returned (.agg #[.int .i64 2, .int .i64 3, .string ⟨#[]⟩]) ∧ ∃ p : Regrown, w'' = grow (redrawn W p.d) p.os) :=
    fun d os => Calls.regrown_of (NB 3 _)
  clear Y1 Y2 Y3 NB
  refine wp_region_quiet_below (by kernel_rfl) (by kernel_rfl) ?_
  repeat (first | go_big_quiet_step (first | (go_at_call 18; with_reducible exact D.out _ _)) | quiet_step (first | (go_at_call 18; with_reducible exact D.out _ _)))
  refine wpQuiet_nil ?_
  intro _ hw'
  obtain ⟨⟨dq, osq⟩, hw''⟩ := hw'
  subst hw''
  go_wp2
  go_ret
  exact ⟨rfl, BB.out.trans ((below_regrown W dq osq).mono BB.out.size)⟩
end Go.Proofs.Ytfcecblppdgcbaa
