/- What works does: it answers true. No conditions. -/
import Derived.Test.YtehfbdhkicdfiaaFrMake
namespace Go.Proofs.Ytehfbdhkicdfiaa
open Go.RowKit
set_option linter.unusedVariables false
set_option maxRecDepth 20000

theorem chg_below {g B : Nat} {w0 w w' : World} (b : Below B w0 w) (c : Chg (· = g) w w') (hg : B ≤ g) (hB : B ≤ w.heap.size) : Below B w0 w' := b.trans (c.below (fun k e => by rw [e]; exact hg) hB)
def u5 : List Bool := List.replicate 5 false
def u5t : List Bool := [false, false, true, false, false]
theorem wk_left (sb g : Nat) (w : World) (h : FSt w sb g u5) : Calls Try.prog 15 #[.pointer (some ⟨sb, 0, none⟩)] w fun e w' => e = .returned (.int .i64 3) ∧ w' = w := by
  have e : (left u5 : Int) = 3 := by decide
  have := left_any sb g u5 w h
  rw [e] at this
  exact this
theorem wk_take (sb g : Nat) (w : World) (h : FSt w sb g u5) : Calls Try.prog 8 #[.pointer (some ⟨sb, 0, none⟩)] w fun e w' => e = .returned (.tuple #[.int .i64 2, .bool true]) ∧ FSt w' sb g u5t ∧ Chg (· = g) w w' ∧ w'.heap.size = w.heap.size := by
  have e1 : takeN u5 = 2 := by decide
  have e2 : takeB u5 = true := by decide
  have e3 : takeU u5 = u5t := by decide
  have := take_any sb g u5 w h
  rw [e1, e2, e3] at this
  exact this
theorem wk_free (sb g : Nat) (w : World) (h : FSt w sb g u5t) : Calls Try.prog 17 #[.pointer (some ⟨sb, 0, none⟩), .int .i64 2] w fun e w' => e = .returned (.bool false) ∧ w' = w := by
  have e : fr u5t 2 = false := by decide
  have := free_any sb g u5t 2 w h
  rw [e] at this
  exact this
theorem wk_give (sb g : Nat) (w : World) (h : FSt w sb g u5t) : Calls Try.prog 10 #[.pointer (some ⟨sb, 0, none⟩), .int .i64 2] w fun e w' => e = .returned (.bool true) ∧ FSt w' sb g u5 ∧ Chg (· = g) w w' ∧ w'.heap.size = w.heap.size := by
  have e1 : giveB u5t 2 = true := by decide
  have e2 : giveU u5t 2 = u5 := by decide
  have := give_any sb g u5t 2 w h
  rw [e1, e2] at this
  exact this
theorem wk_only (sb g : Nat) (w : World) (h : FSt w sb g u5) (o : Obj) (ho : o = .cells #[.int .i64 1] 3) : Calls Try.prog 12 #[.pointer (some ⟨sb, 0, none⟩), .slice (some ⟨w.heap.size, 0, none⟩) 1 1] (w.alloc o) fun e w' => e = .returned (.int .i64 2) ∧ FSt w' sb g u5 ∧ Chg (· = g) (w.alloc o) w' ∧ w'.heap.size = (w.alloc o).heap.size := by
  have e1 : onlyE u5 [1] = 2 := by decide
  have e2 : onlyU u5 [1] = u5 := by decide
  have hi : Ints (w.alloc o) (some ⟨w.heap.size, 0, none⟩) [1] := Or.inr ⟨_, _, rfl, fun i hi => by
    have : i = 0 := by simp at hi; exact hi
    subst this
    rw [ho, cell_of_row _ _ _ _ _ _ (heap_alloc_new w _)]
    rfl⟩
  have := only_any sb g u5 (some ⟨w.heap.size, 0, none⟩) [1] 1 (w.alloc o) (h.below ((Below.refl _ _).alloc (Nat.le_refl _) _)) hi (by decide) (fun _ b off e => by
    simp only [Option.some.injEq, Addr.mk.injEq] at e
    have := h.lt
    omega)
  rw [e1, e2] at this
  exact this
set_option maxHeartbeats 1000000 in
theorem works_any (w : World) : Calls Try.prog 19 #[] w fun e w' => e = .returned (.bool true) ∧ Below w.heap.size w w' := by
  have N := new_any 5 w
  have e5 : sizeN 5 = 5 := by decide
  rw [e5] at N
  have HN := hid N
  clear N e5
  go_enter Try.func19, Try.ntmps19
  go_wp2_with (first
    | (go_at_call 6; go_loud ((with_reducible refine HN.out.mono ?_); rintro e w1 ⟨rfl, f1, b1, s1⟩; have HF1 := hid f1; have HB1 := hid b1; have HS1 := hid s1; have C1 := hid (wk_left _ _ w1 f1); have C2 := hid (wk_take _ _ w1 f1); clear f1 b1 s1))
    | (go_at_call 15; go_loud ((with_reducible refine C1.out.mono ?_); rintro e w2 ⟨rfl, hw⟩; subst w2))
    | (go_at_call 8; go_loud ((with_reducible refine C2.out.mono ?_); rintro e w3 ⟨rfl, f3, c3, s3⟩; have HB3 := hid (chg_below HB1.out c3 (Nat.le_refl _) HB1.out.size); have HS3 := hid (s3.trans HS1.out); have C3 := hid (wk_free _ _ w3 f3); have C4 := hid (wk_give _ _ w3 f3); clear f3 c3 s3))
    | (go_at_call 17; go_loud ((with_reducible refine C3.out.mono ?_); rintro e w4 ⟨rfl, hw⟩; subst w4))
    | (go_at_call 10; go_loud ((with_reducible refine C4.out.mono ?_); rintro e w5 ⟨rfl, f5, c5, s5⟩; have HB5 := hid (chg_below HB3.out c5 (Nat.le_refl _) HB3.out.size); have C5 := hid (wk_only _ _ w5 f5 _ rfl); clear f5 c5 s5))
    | (go_at_call 12; go_loud ((with_reducible refine C5.out.mono ?_); rintro e w6 ⟨rfl, f6, c6, s6⟩; have HB6 := hid (chg_below (HB5.out.alloc HB5.out.size _) c6 (Nat.le_refl _) (Nat.le_trans HB5.out.size (by simp))); clear f6 c6 s6))
    | fail)
  go_ret
  exact ⟨rfl, HB6.out⟩
end Go.Proofs.Ytehfbdhkicdfiaa
