/- What the document's accumulator answers. Conditions: numbers within the numbers, texts within the reach. -/
import Derived.Test.YtfcecblppdgcbaaAgRAdd
namespace Go.Proofs.Ytfcecblppdgcbaa
open Go.RowKit Go.Lib Go.Sort
set_option linter.unusedVariables false
set_option maxRecDepth 20000

theorem bestL_take (op : Int) (L : List Val) (k : Nat) (hk : 0 < k) (h : k < L.length) : bestL op (L.take (k + 1)) = bestV op (bestL op (L.take k)) L[k] := by
  rw [List.take_succ_eq_append_getElem h]
  cases hL : L.take k with
  | nil => have := congrArg List.length hL; rw [List.length_take, List.length_nil] at this; omega
  | cons x r => simp [bestL, List.foldl_append]
theorem best_or (op : Int) (L : List Val) (h : L ≠ []) : bestL op L ∈ L := by
  cases L with
  | nil => exact absurd rfl h
  | cons x r =>
    have : ∀ (r : List Val) (m : Val), r.foldl (bestV op) m = m ∨ r.foldl (bestV op) m ∈ r := by
      intro r
      induction r with
      | nil => intro m; exact Or.inl rfl
      | cons y r ih =>
        intro m
        have h2 : bestV op m y = m ∨ bestV op m y = y := by unfold bestV; split; exact Or.inr rfl; exact Or.inl rfl
        rcases ih (bestV op m y) with h1 | h1
        · rcases h2 with h2 | h2
          · exact Or.inl (by rw [List.foldl_cons, h1, h2])
          · exact Or.inr (by rw [List.foldl_cons, h1, h2]; exact List.mem_cons_self ..)
        · exact Or.inr (by rw [List.foldl_cons]; exact List.mem_cons_of_mem _ h1)
    rcases this r x with h1 | h1
    · show r.foldl (bestV op) x ∈ x :: r; rw [h1]; exact List.mem_cons_self ..
    · exact List.mem_cons_of_mem _ h1

set_option maxHeartbeats 4000000 in
theorem rvalue_any (c base : Nat) (op : Int) (rows : Bool) (L : List Val) (w : World) (hR : RAc w c base op rows L) (hn : ∀ x ∈ L, inR x.n ∧ x.s.size ≤ maxLen) (ho : 1 ≤ op ∧ op ≤ 4) :
    Calls Try.prog 12 #[.pointer (some ⟨c, 0, none⟩)] w fun e w' => e = .returned (gatV op L).v ∧ Below w.heap.size w w' := by
  have B0 := (Below.refl _ w).alloc (Nat.le_refl _) (.cells #[.int .i64 0, .int .i64 0, .string ⟨#[]⟩] 32)
  have R := hR.below B0
  have c0 := R.c0
  have c1 := R.c1
  have hcl := cell_lt c0
  obtain ⟨p, kk, c2, rw', hm⟩ := R.row
  unfold maxLen at hm
  by_cases h1 : op = 1
  · subst h1
    have hg : gatV 1 L = numV L.length := rfl
    rw [hg]
    have N := fun w => rNumber_any L.length w
    unfold numV Val.v
    simp only []
    generalize L.length = n at *
    clear R hR rw' hn
    go_enter Try.func12, Try.ntmps12
    go_wp2_with (go_at_call 21; with_reducible refine (N _).mono ?_; rintro e w1 ⟨rfl, b1⟩; have B1 := below_new b1; obtain ⟨r0, r1, r2, f0, f1, f2⟩ := cells3 b1)
    refine bodyPost_ret (by simp [results, Try.results12, go_sem, r0, r1, r2]; try rfl) rfl ?_
    exact ⟨rfl, by go_grown⟩
  have e1 : (op == 1) = false := beq_eq_false_iff_ne.2 h1
  by_cases hL : L = []
  · have hg : gatV op L = nullV := by unfold gatV; rw [if_neg h1, if_pos hL]
    rw [hg]
    subst hL
    unfold nullV Val.v
    simp only [List.length_nil] at *
    clear R hR rw' hn hg h1
    go_enter Try.func12, Try.ntmps12
    go_wp2
    go_returns
    exact ⟨rfl, by go_grown⟩
  have hpos : 0 < L.length := List.length_pos_iff.2 hL
  have e0 : ((L.length : Int) == 0) = false := beq_eq_false_iff_ne.2 (by omega)
  by_cases h2 : op = 2
  · subst h2
    have hg : gatV 2 L = sumL L := by unfold gatV; rw [if_neg (by decide), if_neg hL, if_pos rfl]
    rw [hg]
    have S := rsum_any c base 2 rows L _ R hn
    generalize sumL L = s at *
    obtain ⟨sk, sn, ss⟩ := s
    unfold Val.v at *
    simp only [] at *
    clear R hR rw' hn hg h1 hL
    go_enter Try.func12, Try.ntmps12
    go_wp2_with (go_at_call 22; with_reducible refine S.mono ?_; rintro e w1 ⟨rfl, b1⟩; have B1 := below_new b1; obtain ⟨r0, r1, r2, f0, f1, f2⟩ := cells3 b1)
    refine bodyPost_ret (by simp [results, Try.results12, go_sem, r0, r1, r2]; try rfl) rfl ?_
    exact ⟨rfl, by go_grown⟩
  have e2 : (op == 2) = false := beq_eq_false_iff_ne.2 h2
  have hg : gatV op L = bestL op L := by unfold gatV; rw [if_neg h1, if_neg hL, if_neg h2]
  rw [hg]
  have hop : op = 3 ∨ op = 4 := by omega
  have HR := hid hR
  obtain ⟨b, off, rfl, d0, d1, d2⟩ := rw'.at hpos
  simp only [Nat.zero_mul, Nat.add_zero] at d0 d1 d2
  have hbl := cell_lt d0
  have hp0 : (0 : Int) < (L.length : Int) := by omega
  have HW := hid (rw'.below ((Below.refl _ _).alloc (Nat.le_refl _) (.cells #[.int .i64 L[0].k, .int .i64 L[0].n, .string L[0].s] 32)))
  clear R hR rw' hg h1 h2
  go_enter Try.func12, Try.ntmps12
  go_wp2_with fail
  go_loopw [4, 5] (fun i j wr => ∃ k : Nat, 1 ≤ k ∧ k ≤ L.length ∧ i = .int .i64 k ∧ Box wr w.heap.size nullV ∧ Box wr (w.heap.size + 1) (bestL op (L.take k)) ∧ Below w.heap.size w wr) (fun i j _ => L.length - (intOf i).toNat)
  case atStart =>
    refine ⟨1, Nat.le_refl _, hpos, rfl, (Box.new w 0 0 ⟨#[]⟩ 32).alloc _, ?_, B0.alloc B0.size _⟩
    have h1 : L.take 1 = [L[0]] := by rw [List.take_succ_eq_append_getElem hpos]; simp
    rw [h1]
    exact Box.at (by simp) L[0].k L[0].n L[0].s 32
  case round =>
    obtain ⟨k, hk1, hkx, rfl, Z, X, hb⟩ := hrel
    have R' := HR.out.below hb
    obtain ⟨p', kk', c2', rw', hm'⟩ := R'.row
    by_cases hlt : k < L.length
    · obtain ⟨b2, o2, rfl, g0, g1, g2⟩ := rw'.at hlt
      have hx := hn _ (List.getElem_mem hlt)
      have hmm := hn _ (List.mem_of_mem_take (best_or op (L.take k) (by intro h; have := congrArg List.length h; rw [List.length_take, List.length_nil] at this; omega)))
      have C := fun w => refCompare_any L[k] (bestL op (L.take k)) w hx.2 hmm.2
      have ht := bestL_take op L k hk1 hlt
      generalize bestL op (L.take k) = m at *
      generalize L[k] = x at *
      unfold bestV at ht
      generalize cmpV x m = cc at *
      obtain ⟨xk, xn, xs⟩ := x
      obtain ⟨mk, mn, ms⟩ := m
      unfold Val.v at C
      simp only [] at *
      have HT := hid ht
      have HZ := hid Z
      have HX := hid X
      have HB := hid hb
      have HR' := hid R'
      obtain ⟨x0, x1, x2, _⟩ := X.out
      have c2r := cell_regrown c2'
      have g0r := cell_regrown g0
      have g1r := cell_regrown g1
      have g2r := cell_regrown g2
      have x0 := cell_regrown x0
      have x1 := cell_regrown x1
      have x2 := cell_regrown x2
      have D : Hid (∀ d os, Calls Try.prog 17 #[.agg #[.int .i64 xk, .int .i64 xn, .string xs], .agg #[.int .i64 mk, .int .i64 mn, .string ms]] (grow (redrawn wr d) os) fun e w'' => e = .returned (.int .i64 cc) ∧ ∃ p : Regrown, w'' = grow (redrawn wr p.d) p.os) :=
        fun d os => Calls.regrown_of (C _)
      have hkl : (k : Int) < (L.length : Int) := by omega
      clear ht Z X hb R' C hx hmm rw' d0 d1 d2 c0 c1
      go_wp2_with fail
      refine wp_region_quiet_below (by kernel_rfl) (by kernel_rfl) ?_
      repeat (first | go_big_quiet_step (first | (go_at_call 17; with_reducible exact D.out _ _)) | quiet_step (first | (go_at_call 17; with_reducible exact D.out _ _)))
      refine wpQuiet_nil ?_
      intro _ hw'
      obtain ⟨⟨dq, osq⟩, hw''⟩ := hw'
      subst hw''
      have BB := below_regrown wr dq osq
      have HB2 := hid (HB.out.trans (BB.mono HB.out.size))
      have HZ2 := hid (HZ.out.below BB)
      have HX2 := hid (HX.out.below BB)
      have c0' := (HR'.out.below BB).c0
      have c2'' := below_cell BB c2'
      have g0' := below_cell BB g0
      have g1' := below_cell BB g1
      have g2' := below_cell BB g2
      clear c2r g0r g1r g2r x0 x1 x2 D BB c2' g0 g1 g2
      generalize grow (redrawn wr dq) osq = Y at *
      obtain ⟨x0, x1, x2, fx0, fx1, fx2⟩ := HX2.out.out
      have hcl' := cell_lt c0'
      have hgl := cell_lt g0'
      rcases hop with rfl | rfl
      · by_cases hc : cc < 0
        · have ht := HT.out
          rw [if_pos (Or.inl ⟨rfl, hc⟩)] at ht
          have HT' := hid ht
          go_wp2_with fail
          go_roundw
          case rel => exact ⟨k + 1, by omega, by omega, by go_num, HZ2.out.put3 (by omega) _ _ _, by rw [HT'.out]; exact HX2.out.put _ _ _, below_put3 HB2.out (by omega) _ _ _⟩
          case measure => simp [intOf]; omega
        · have ht := HT.out
          rw [if_neg (by intro h; rcases h with h | h <;> omega)] at ht
          have HT' := hid ht
          go_wp2_with fail
          go_roundw
          case rel => exact ⟨k + 1, by omega, by omega, by go_num, HZ2.out, by rw [HT'.out]; exact HX2.out, HB2.out⟩
          case measure => simp [intOf]; omega
      · by_cases hc : 0 < cc
        · have ht := HT.out
          rw [if_pos (Or.inr ⟨rfl, hc⟩)] at ht
          have HT' := hid ht
          go_wp2_with fail
          go_roundw
          case rel => exact ⟨k + 1, by omega, by omega, by go_num, HZ2.out.put3 (by omega) _ _ _, by rw [HT'.out]; exact HX2.out.put _ _ _, below_put3 HB2.out (by omega) _ _ _⟩
          case measure => simp [intOf]; omega
        · have ht := HT.out
          rw [if_neg (by intro h; rcases h with h | h <;> omega)] at ht
          have HT' := hid ht
          go_wp2_with fail
          go_roundw
          case rel => exact ⟨k + 1, by omega, by omega, by go_num, HZ2.out, by rw [HT'.out]; exact HX2.out, HB2.out⟩
          case measure => simp [intOf]; omega
    · have hl : L.take k = L := List.take_of_length_le (by omega)
      rw [hl] at X
      have HX := hid X
      have HZ := hid Z
      have HB := hid hb
      clear X Z hb
      obtain ⟨s, hs⟩ : ∃ s, s = bestL op L := ⟨_, rfl⟩
      rw [← hs] at HX
      obtain ⟨sk, sn, st⟩ := s
      have HS := hid hs
      clear hs
      obtain ⟨x0, x1, x2, _⟩ := HX.out.out
      obtain ⟨z0, z1, z2, fz0, fz1, fz2⟩ := HZ.out.out
      have hcl' := cell_lt c2'
      go_wp2_with fail
      have R := HZ.out.put sk sn st
      have B := below_put3 HB.out (Nat.le_refl _) (.int .i64 sk) (.int .i64 sn) (.string st)
      obtain ⟨r0, r1, r2, _⟩ := R.out
      refine bodyPost_ret (by simp [results, Try.results12, go_sem, r0, r1, r2]; try rfl) rfl ?_
      rw [← HS.out]
      exact ⟨rfl, B⟩
end Go.Proofs.Ytfcecblppdgcbaa
