/- The document's accumulator: what it keeps, and what it answers. Conditions: numbers within the numbers, texts within the reach. -/
import Derived.Test.YtfcecblppdgcbaaAgMem
namespace Go.Proofs.Ytfcecblppdgcbaa
open Go.RowKit Go.Lib Go.Sort
set_option linter.unusedVariables false
set_option maxRecDepth 20000

/-- The document's accumulator in memory. -/
structure RAc (w : World) (c base : Nat) (op : Int) (rows : Bool) (L : List Val) : Prop where
  c0 : w.cell? ⟨c, 0, none⟩ = some (.int .i64 op)
  c1 : w.cell? ⟨c, 1, none⟩ = some (.bool rows)
  sl : ∃ v, w.cell? ⟨c, 2, none⟩ = some v ∧ OwnV w base v L
  fz : w.frozen? ⟨c, 2, none⟩ = false
  lt : c < base
  le : base ≤ w.heap.size
theorem OwnV.chg {F : Nat → Prop} {w w' : World} {base : Nat} {v : Value} {l : List Val} (o : OwnV w base v l) (C : Chg F w w') (hF : ∀ k, F k → k < base) : OwnV w' base v l := by
  obtain ⟨h1, h2⟩ := o
  refine ⟨h1, ?_⟩
  rcases h2 with h2 | ⟨g, cap, cur, hv, hg, hh, r⟩
  · exact Or.inl h2
  · exact Or.inr ⟨g, cap, cur, hv, hg, by rw [C.block g (Array.getElem?_eq_some_iff.1 hh).1 (fun f => by have := hF g f; omega)]; exact hh, r⟩
theorem RAc.chg {F : Nat → Prop} {w w' : World} {c base : Nat} {op : Int} {rows : Bool} {L : List Val} (R : RAc w c base op rows L) (C : Chg F w w') (hc : ¬ F c) (hF : ∀ k, F k → k < base) : RAc w' c base op rows L := by
  obtain ⟨c0, c1, ⟨v, c2, o⟩, f, lt, le⟩ := R
  exact ⟨C.cell c0 hc, C.cell c1 hc, ⟨v, C.cell c2 hc, o.chg C hF⟩, by rw [C.frozen (p := ⟨c, 2, none⟩) (cell_lt c2) hc]; exact f, lt, Nat.le_trans le C.size⟩
theorem RAc.below {w w' : World} {c base : Nat} {op : Int} {rows : Bool} {L : List Val} (R : RAc w c base op rows L) (B : Below w.heap.size w w') : RAc w' c base op rows L :=
  R.chg (F := fun _ => False) (Chg.of_below B) id (fun _ h => h.elim)
theorem RAc.row {w : World} {c base : Nat} {op : Int} {rows : Bool} {L : List Val} (R : RAc w c base op rows L) : ∃ p k, w.cell? ⟨c, 2, none⟩ = some (.slice p L.length k) ∧ Row w p L ∧ L.length ≤ maxLen := by
  obtain ⟨v, c2, o⟩ := R.sl
  obtain ⟨p, k, rfl, r, _, hm⟩ := ownV_slice o
  exact ⟨p, k, c2, r, hm⟩

def rnewEnd (W : World) (op : Int) (rows : Bool) (e : Ending) (w' : World) : Prop :=
  ((op < 1 ∨ 4 < op ∨ (rows = true ∧ op ≠ 1)) → e = .returned (.tuple #[.pointer none, .int .i64 5])) ∧
  (¬ (op < 1 ∨ 4 < op ∨ (rows = true ∧ op ≠ 1)) → ∃ c, e = .returned (.tuple #[.pointer (some ⟨c, 0, none⟩), .int .i64 0]) ∧ W.heap.size ≤ c ∧ c < w'.heap.size ∧ ∀ base, c < base → base ≤ w'.heap.size → RAc w' c base op rows [])
theorem rnew_any (op : Int) (rows : Bool) (w : World) :
    Calls Try.prog 9 #[.int .i64 op, .bool rows] w fun e w' => rnewEnd w op rows e w' ∧ Below w.heap.size w w' := by
  by_cases h1 : op < 1
  · go_enter Try.func9, Try.ntmps9
    go_wp2
    go_returns
    exact ⟨⟨fun _ => rfl, fun hn => absurd (Or.inl h1) hn⟩, Below.refl _ _⟩
  by_cases h4 : 4 < op
  · go_enter Try.func9, Try.ntmps9
    go_wp2
    go_returns
    exact ⟨⟨fun _ => rfl, fun hn => absurd (Or.inr (Or.inl h4)) hn⟩, Below.refl _ _⟩
  obtain rfl | rfl | rfl | rfl : op = 1 ∨ op = 2 ∨ op = 3 ∨ op = 4 := by omega
  all_goals
    clear h1 h4
    cases rows
    all_goals
      go_enter Try.func9, Try.ntmps9
      go_wp2
      go_returns
      first
        | exact ⟨⟨fun _ => rfl, fun hn => absurd (by decide) hn⟩, Below.refl _ _⟩
        | exact ⟨⟨fun hn => absurd hn (by decide), fun _ => ⟨_, rfl, Nat.le_refl _, by simp, fun base hb hl => ⟨by go_simp, by go_simp, ⟨_, by go_simp, ownV_nil _ _⟩, by go_simp, hb, hl⟩⟩⟩, by go_grown⟩
theorem rNumber_any (n : Int) (w : World) :
    Calls Try.prog 21 #[.int .i64 n] w fun e w' => e = .returned (.agg #[.int .i64 2, .int .i64 n, .string ⟨#[]⟩]) ∧ Below w.heap.size w w' := by
  go_enter Try.func21, Try.ntmps21
  go_wp2
  go_returns
  exact ⟨rfl, by go_grown⟩

set_option maxHeartbeats 2000000 in
theorem rsum_any (c base : Nat) (op : Int) (rows : Bool) (L : List Val) (w : World) (hR : RAc w c base op rows L) (hn : ∀ x ∈ L, inR x.n ∧ x.s.size ≤ maxLen) :
    Calls Try.prog 22 #[.pointer (some ⟨c, 0, none⟩)] w fun e w' => e = .returned (sumL L).v ∧ Below w.heap.size w w' := by
  have NB := fun w => rNumber_any 0 w
  have HR := hid hR
  have hcw := cell_lt hR.c0
  go_enter Try.func22, Try.ntmps22
  go_wp2_with (go_at_call 21; with_reducible refine (NB _).mono ?_; rintro e w1 ⟨rfl, b1⟩; have B1 := hid (below_new b1); have S1 := hid ((Box.new w 0 0 ⟨#[]⟩ 32).below b1))
  go_loopw [4] (fun i wr => ∃ k : Nat, k ≤ L.length ∧ i = .int .i64 k ∧ Box wr w.heap.size ⟨0, 0, ⟨#[]⟩⟩ ∧ Box wr w1.heap.size (sumL (L.take k)) ∧ Below w.heap.size w wr) (fun i _ => L.length - (intOf i).toNat)
  case atStart => exact ⟨0, Nat.zero_le _, rfl, S1.out.alloc _, Box.new _ _ _ _ _, B1.out.alloc B1.out.size _⟩
  case round =>
    obtain ⟨k, hkx, rfl, Z, X, hb⟩ := hrel
    have hw1 := hid B1.out.size
    have hw2 := hid (cell_lt S1.out.1)
    have R' := HR.out.below hb
    obtain ⟨p, kk, c2, rw', hm⟩ := R'.row
    unfold maxLen at hm
    by_cases hlt : k < L.length
    · obtain ⟨b2, o2, rfl, c10, c11, c12⟩ := rw'.at hlt
      have hx := hn _ (List.getElem_mem hlt)
      have hsg := sumL_good (L.take k)
      have C := fun w => refBinary_any 11 (sumL (L.take k)) L[k] w hsg.1 hx.1 (by rw [hsg.2]; exact Nat.zero_le _) hx.2
      have ht : sumL (L.take (k + 1)) = (binV 11 (sumL (L.take k)) L[k]).v := by rw [List.take_succ_eq_append_getElem hlt, sumL_snoc]
      generalize binV 11 (sumL (L.take k)) L[k] = r at *
      generalize sumL (L.take k) = s at *
      generalize L[k] = x at *
      obtain ⟨xk, xn, xt⟩ := x
      obtain ⟨sk, sn, st⟩ := s
      obtain ⟨⟨rk, rn, rt⟩, re⟩ := r
      simp only [Ans.out_eq] at C
      unfold Val.v at C
      simp only [] at *
      have HC := hid C
      have HT := hid ht
      have HB := hid hb
      have HZ := hid Z
      have HX := hid X
      have HR1 := hid R'
      have HW := hid rw'
      clear C ht hb Z R' rw' hsg hx
      obtain ⟨x0, x1, x2, fx0, fx1, fx2⟩ := X.out
      clear X
      go_wp2_with fail
      go_region_with (first
        | (go_at_call 23; with_reducible refine (HC.out _).mono ?_; rintro e w2 ⟨rfl, b2⟩; have X2 := hid (HX.out.drew.below b2); have Z2 := hid (HZ.out.drew.below b2); have B2 := hid (HB.out.drew.trans (b2.mono HB.out.drew.size)); obtain ⟨x0, x1, x2, fx0, fx1, fx2⟩ := X2.out.out))
      all_goals
        go_wp2_with fail
        go_roundw
        case rel => exact ⟨k + 1, by omega, by go_num, Z2.out.put3 (Nat.ne_of_gt hw2.out) _ _ _, by rw [HT.out]; exact X2.out.put _ _ _, below_put3 B2.out hw1.out _ _ _⟩
        case measure => simp [intOf]; omega
    · have hl : L.take k = L := List.take_of_length_le (by omega)
      rw [hl] at X
      have HX := hid X
      have HZ := hid Z
      have HB := hid hb
      clear X Z hb
      obtain ⟨s, hs⟩ : ∃ s, s = sumL L := ⟨_, rfl⟩
      rw [← hs] at HX
      obtain ⟨sk, sn, st⟩ := s
      have HS := hid hs
      clear hs
      obtain ⟨x0, x1, x2, _⟩ := HX.out.out
      obtain ⟨z0, z1, z2, fz0, fz1, fz2⟩ := HZ.out.out
      go_wp2_with fail
      have R := HZ.out.put sk sn st
      have B := below_put3 HB.out (Nat.le_refl _) (.int .i64 sk) (.int .i64 sn) (.string st)
      obtain ⟨r0, r1, r2, _⟩ := R.out
      refine bodyPost_ret (by simp [results, Try.results22, go_sem, r0, r1, r2]; try rfl) rfl ?_
      rw [← HS.out]
      exact ⟨rfl, B⟩
end Go.Proofs.Ytfcecblppdgcbaa
