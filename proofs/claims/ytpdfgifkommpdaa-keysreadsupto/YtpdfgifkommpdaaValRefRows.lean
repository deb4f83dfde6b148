/- What the document's own Rows answers: the order of rows, place by place. Conditions: the slices' lengths are Go's, texts' lengths too. -/
import Derived.Test.YtpdfgifkommpdaaValRef
import Derived.Test.YtpdfgifkommpdaaValRows
namespace Go.Proofs.Ytpdfgifkommpdaa
open Go.RowKit Go.Lib Go.Sort
set_option linter.unusedVariables false

set_option maxHeartbeats 1000000 in
theorem refRows_any (xs ys : List Val) (ds : List Bool) (pa pb pd : Option Addr) (ca cb cd : Nat) (w : World) (hA : xs.length ≤ maxLen) (hB : ys.length ≤ maxLen) (hD : ds.length ≤ maxLen)
    (tA : ∀ v ∈ xs, v.s.size ≤ maxLen) (tB : ∀ v ∈ ys, v.s.size ≤ maxLen) (rA : Row w pa xs) (rB : Row w pb ys) (rD : Bits w pd ds) :
    Calls Try.prog 19 #[.slice pa xs.length ca, .slice pb ys.length cb, .slice pd ds.length cd] w fun e w' => e = .returned (.int .i64 (cmpRow xs ys ds)) ∧ Below w.heap.size w w' := by
  unfold maxLen at hA hB hD
  go_enter Try.func19, Try.ntmps19
  go_wp2
  go_loopw [7] (fun i wr => ∃ k : Nat, k ≤ xs.length ∧ k ≤ ys.length ∧ i = .int .i64 k ∧ Upto xs ys ds k ∧ Below w.heap.size w wr) (fun i _ => xs.length - (intOf i).toNat)
  case atStart => exact ⟨0, Nat.zero_le _, Nat.zero_le _, rfl, rfl, Below.refl _ _⟩
  case round =>
    obtain ⟨k, hkx, hky, rfl, hu, hbel⟩ := hrel
    by_cases hx : k < xs.length
    · by_cases hy : k < ys.length
      · have hnx := fun h0 => hu.next hx hy h0
        have hhe := fun h0 => hu.here hx hy h0
        have HB := cmpV_bd xs[k] ys[k]
        have sA := tA xs[k] (List.getElem_mem hx)
        have sB := tB ys[k] (List.getElem_mem hy)
        obtain ⟨b1, o1, rfl, c10, c11, c12⟩ := (rA.below hbel).at hx
        obtain ⟨b2, o2, rfl, c20, c21, c22⟩ := (rB.below hbel).at hy
        generalize xs[k] = x at *
        generalize ys[k] = y at *
        obtain ⟨xk, xn, xt⟩ := x
        obtain ⟨yk, yn, yt⟩ := y
        have cC : ∀ d os, Calls Try.prog 32 #[.agg #[.int .i64 xk, .int .i64 xn, .string xt], .agg #[.int .i64 yk, .int .i64 yn, .string yt]] (grow (redrawn wr d) os) fun e w'' => e = .returned (.int .i64 (cmpV ⟨xk, xn, xt⟩ ⟨yk, yn, yt⟩)) ∧ ∃ p : Regrown, w'' = grow (redrawn wr p.d) p.os :=
          fun d os => Calls.regrown_of (refCompare_any ⟨xk, xn, xt⟩ ⟨yk, yn, yt⟩ _ sA sB)
        generalize cmpV ⟨xk, xn, xt⟩ ⟨yk, yn, yt⟩ = c at *
        have H1 : Hid (c = 0 → Upto xs ys ds (k + 1)) := hnx
        have H2 : Hid (c ≠ 0 → cmpRow xs ys ds = if ds.getD k false then -c else c) := hhe
        have k10 := cell_regrown c10
        have k11 := cell_regrown c11
        have k12 := cell_regrown c12
        have k20 := cell_regrown c20
        have k21 := cell_regrown c21
        have k22 := cell_regrown c22
        have HC : Hid (∀ d os, Calls Try.prog 32 #[.agg #[.int .i64 xk, .int .i64 xn, .string xt], .agg #[.int .i64 yk, .int .i64 yn, .string yt]] (grow (redrawn wr d) os) fun e w'' => e = .returned (.int .i64 c) ∧ ∃ p : Regrown, w'' = grow (redrawn wr p.d) p.os) := cC
        clear cC hnx hhe hu sA sB tA tB
        go_wp2_with fail
        refine wp_region_quiet_below (by kernel_rfl) (by kernel_rfl) ?_
        repeat (quiet_step (exact HC.out _ _))
        refine wpQuiet_nil ?_
        intro _ hw'
        obtain ⟨⟨dq, osq⟩, hw''⟩ := hw'
        subst hw''
        have hb2 : Below w.heap.size w (grow (redrawn wr dq) osq) := hbel.trans ((below_regrown wr dq osq).mono hbel.size)
        simp only []
        clear k10 k11 k12 k20 k21 k22 c10 c11 c12 c20 c21 c22 HC hbel rA rB
        generalize grow (redrawn wr dq) osq = w2 at *
        by_cases h0 : c = 0
        · subst h0
          go_wp2
          go_roundw
          case rel => exact ⟨k + 1, by omega, by omega, by go_num, H1.out rfl, hb2⟩
          case measure => simp [intOf]; omega
        · have h0' : (c != 0) = true := bne_iff_ne.2 h0
          have H3 : Hid (cmpRow xs ys ds = if ds.getD k false then -c else c) := H2.out h0
          clear H1 H2 h0
          by_cases hd : k < ds.length
          · obtain ⟨b3, o3, rfl, c30⟩ := (rD.below hb2).at hd
            have H4 : Hid (ds.getD k false = ds[k]) := by simp [Hid, hd]
            generalize ds[k] = bit at *
            cases bit
            · go_wp2
              go_ret
              exact ⟨ret_int (by rw [H3.out, H4.out]; rfl), hb2⟩
            · go_wp2
              go_ret
              exact ⟨ret_int (by rw [H3.out, H4.out]; rfl), hb2⟩
          · have H4 : Hid (ds.getD k false = false) := by simp [Hid, hd]
            go_wp2
            go_ret
            exact ⟨ret_int (by rw [H3.out, H4.out]; rfl), hb2⟩
      · have H2 : Hid (cmpRow xs ys ds = cmpI xs.length ys.length) := hu.done hkx hky (by omega)
        clear hu
        go_wp2
        all_goals
          go_ret
          exact ⟨ret_int (by rw [H2.out]; first | exact (cmpI_lt (by omega)).symm | exact (cmpI_gt (by omega)).symm | exact (cmpI_eq (by omega)).symm), hbel⟩
    · have H2 : Hid (cmpRow xs ys ds = cmpI xs.length ys.length) := hu.done hkx hky (by omega)
      clear hu
      go_wp2
      all_goals
        go_ret
        exact ⟨ret_int (by rw [H2.out]; first | exact (cmpI_lt (by omega)).symm | exact (cmpI_gt (by omega)).symm | exact (cmpI_eq (by omega)).symm), hbel⟩
end Go.Proofs.Ytpdfgifkommpdaa
