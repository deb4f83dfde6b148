/- What the document's own Call answers. Conditions: the values are right, the numbers are within the numbers, the texts lie within the reach. -/
import Derived.Test.YtonikoijelhojaaCallAll
import Derived.Test.YtonikoijelhojaaRefTakes
import Derived.Test.YtonikoijelhojaaRefPart
import Derived.Test.YtonikoijelhojaaRefUnary
import Derived.Test.YtonikoijelhojaaTwoVals
namespace Go.Proofs.Ytonikoijelhojaa
open Go.RowKit Go.Lib Go.Sort
set_option linter.unusedVariables false

theorem rt_bad {f : Int} (h6 : f ≠ 6) (j : Nat) (v : Val) : badV f j v = !rtakesV f j v.k := by
  unfold badV rtakesV
  by_cases h : v.k = 0
  · rw [if_pos (Or.inl h), h]; rfl
  · rw [if_neg (by omega), bne_iff_ne.2 h, Bool.true_and]

theorem callV_bad {f : Int} {xs : List Val} (h0 : argsV f ≠ 0) (hl : (xs.length : Int) = argsV f) (k : Nat) (hk : k < xs.length) (h : rtakesV f k xs[k].k = false) : callV f xs = ⟨nullV, 35⟩ := by
  have h6 : f ≠ 6 := by rintro rfl; unfold rtakesV at h; rw [if_pos (Or.inr rfl)] at h; exact absurd h (by decide)
  unfold callV
  rw [if_neg h0, if_neg (by omega), if_neg h6, if_pos ((badFrom_iff f xs 0).2 ⟨k, hk, by rw [Nat.zero_add, rt_bad h6, h]; rfl⟩)]

theorem callV_good {f : Int} {xs : List Val} (h0 : argsV f ≠ 0) (hl : (xs.length : Int) = argsV f) (h6 : f ≠ 6) (h : ∀ k (hk : k < xs.length), rtakesV f k xs[k].k = true) : callV f xs = if xs.any isNull then ⟨nullV, 0⟩ else worthV f xs := by
  unfold callV
  have : badFrom f 0 xs = false := by
    cases hb : badFrom f 0 xs
    · rfl
    · obtain ⟨j, hj, hb'⟩ := (badFrom_iff f xs 0).1 hb
      rw [Nat.zero_add, rt_bad h6, h j hj] at hb'
      exact absurd hb' (by decide)
  rw [if_neg h0, if_neg (by omega), if_neg h6, this, if_neg (by decide)]

set_option maxHeartbeats 400000 in
theorem rcall_kind (f : Int) (p : Option Addr) (xs : List Val) (c : Nat) (w : World) (h : argsV f = 0) :
    Calls Try.prog 17 #[.int .i64 f, .slice p xs.length c] w fun e w' => e = .returned (⟨nullV, 5⟩ : Ans).out ∧ Below w.heap.size w w' := by
  have A := fun w => rargs_any f w
  rw [h] at A
  go_enter Try.func17, Try.ntmps17
  go_wp2_with (go_at_call 19; with_reducible refine (A _).mono ?_; rintro e w' ⟨rfl, rfl⟩)
  go_returns
  exact ⟨rfl, by go_grown⟩

set_option maxHeartbeats 400000 in
theorem rcall_count (f : Int) (p : Option Addr) (xs : List Val) (c : Nat) (w : World) (h : argsV f ≠ 0) (hl : (xs.length : Int) ≠ argsV f) :
    Calls Try.prog 17 #[.int .i64 f, .slice p xs.length c] w fun e w' => e = .returned (⟨nullV, 37⟩ : Ans).out ∧ Below w.heap.size w w' := by
  have A := fun w => rargs_any f w
  have d0 : (argsV f == 0) = false := beq_eq_false_iff_ne.2 h
  have d1 : ((xs.length : Int) != argsV f) = true := bne_iff_ne.2 hl
  generalize argsV f = m at *
  clear h hl
  go_enter Try.func17, Try.ntmps17
  go_wp2_with (go_at_call 19; with_reducible refine (A _).mono ?_; rintro e w' ⟨rfl, rfl⟩)
  go_returns
  exact ⟨rfl, by go_grown⟩

theorem right_bool' {a : Val} (h : rightV a = true) : boolRight a := by
  intro hk
  have hr := rightV_right h
  unfold Val.right at hr
  simp [hk] at hr
  exact ⟨hr.1, by simpa using hr.2⟩

/-- What Substr reads. -/
def PS (w : World) (b off : Nat) (s1 : ByteArray) (n2 n3 : Int) : Prop := w.cell? ⟨b, off + 2, none⟩ = some (.string s1) ∧ w.cell? ⟨b, off + 3 + 1, none⟩ = some (.int .i64 n2) ∧ w.cell? ⟨b, off + 2 * 3 + 1, none⟩ = some (.int .i64 n3)
theorem PS.all {w : World} {b off : Nat} {s1 : ByteArray} {n2 n3 : Int} (h : PS w b off s1 n2 n3) : w.cell? ⟨b, off + 2, none⟩ = some (.string s1) ∧ w.cell? ⟨b, off + 3 + 1, none⟩ = some (.int .i64 n2) ∧ w.cell? ⟨b, off + 2 * 3 + 1, none⟩ = some (.int .i64 n3) := h
theorem PS.below {w w' : World} {b off : Nat} {s1 : ByteArray} {n2 n3 : Int} (h : PS w b off s1 n2 n3) (k : Below w.heap.size w w') : PS w' b off s1 n2 n3 := ⟨below_cell k h.1, below_cell k h.2.1, below_cell k h.2.2⟩
theorem PS.drew {w : World} {b off : Nat} {s1 : ByteArray} {n2 n3 : Int} (h : PS w b off s1 n2 n3) : PS w.drew b off s1 n2 n3 := h.below ((Below.refl _ _).drew)
theorem PS.put3 {w : World} {b off d : Nat} {s1 : ByteArray} {n2 n3 : Int} (h : PS w b off s1 n2 n3) (hd : d ≠ b) (x y z : Value) : PS (((w.setCell ⟨d, 0, none⟩ x).setCell ⟨d, 1, none⟩ y).setCell ⟨d, 2, none⟩ z) b off s1 n2 n3 := by
  unfold PS
  rw [far3 hd, far3 hd, far3 hd]
  exact h

/-- What stands behind the loop, function by function. -/
def Rest (f : Int) (xs : List Val) : Prop :=
  (f = 6 ∧ ∃ k1 n1 s1 k2 n2 s2, xs = [⟨k1, n1, s1⟩, ⟨k2, n2, s2⟩]) ∨
  (f ≠ 6 ∧ xs.any isNull = true ∧ callV f xs = ⟨nullV, 0⟩) ∨
  (f = 1 ∧ ∃ k n s, xs = [⟨k, n, s⟩] ∧ xs.any isNull = false ∧ callV f xs = ⟨numV s.size, 0⟩) ∨
  (f = 2 ∧ ∃ n s, xs = [⟨2, n, s⟩] ∧ xs.any isNull = false ∧ n < 0 ∧ inR n ∧ callV f xs = unV 1 ⟨2, n, s⟩) ∨
  (f = 2 ∧ ∃ n s, xs = [⟨2, n, s⟩] ∧ xs.any isNull = false ∧ ¬ n < 0 ∧ callV f xs = ⟨⟨2, n, s⟩, 0⟩) ∨
  (f = 3 ∧ ∃ k n s, xs = [⟨k, n, s⟩] ∧ xs.any isNull = false ∧ s.size ≤ 140737488351232 ∧ callV f xs = ⟨textV (exV 97 65 s), 0⟩) ∨
  (f = 4 ∧ ∃ k n s, xs = [⟨k, n, s⟩] ∧ xs.any isNull = false ∧ s.size ≤ 140737488351232 ∧ callV f xs = ⟨textV (exV 65 97 s), 0⟩) ∨
  (f = 5 ∧ ∃ k1 n1 s1 k2 n2 s2 k3 n3 s3, xs = [⟨k1, n1, s1⟩, ⟨k2, n2, s2⟩, ⟨k3, n3, s3⟩] ∧ xs.any isNull = false ∧ s1.size ≤ 140737488351232 ∧ inR n2 ∧ inR n3 ∧ callV f xs = ⟨textV (partV s1 n2 n3), 0⟩)

theorem rest_of {f : Int} {xs : List Val} (h0 : argsV f ≠ 0) (hl : (xs.length : Int) = argsV f) (hn : ∀ v ∈ xs, inR v.n) (hs : ∀ v ∈ xs, v.s.size ≤ 140737488351232) (hr : ∀ v ∈ xs, rightV v = true)
    (h : ∀ k (hk : k < xs.length), rtakesV f k xs[k].k = true) : Rest f xs := by
  unfold Rest
  by_cases h6 : f = 6
  · left
    subst h6
    obtain ⟨⟨k1, n1, s1⟩, ⟨k2, n2, s2⟩, rfl⟩ := len_two (hl.trans rfl)
    exact ⟨rfl, k1, n1, s1, k2, n2, s2, rfl⟩
  right
  have hc := callV_good h0 hl h6 h
  by_cases ha : xs.any isNull = true
  · left
    exact ⟨h6, ha, by rw [hc, if_pos ha]⟩
  right
  rw [if_neg ha] at hc
  have ha' : xs.any isNull = false := by simpa using ha
  rcases args_cases h0 with ⟨rfl, hA⟩ | ⟨rfl, hA⟩ | ⟨rfl, hA⟩ | ⟨rfl, hA⟩ | ⟨rfl, hA⟩ | ⟨rfl, hA⟩
  · obtain ⟨⟨k, n, s⟩, rfl⟩ := len_one (hl.trans hA)
    exact Or.inl ⟨rfl, k, n, s, rfl, ha', hc⟩
  · obtain ⟨⟨k, n, s⟩, rfl⟩ := len_one (hl.trans hA)
    have hk0 : k ≠ 0 := fun e => by subst e; simp [isNull] at ha'
    obtain rfl : k = 2 := by
      simpa [rtakesV, takesV, hk0] using h 0 (by simp)
    right
    have hi := hn ⟨2, n, s⟩ (by simp)
    by_cases hz : n < 0
    · exact Or.inl ⟨rfl, n, s, rfl, ha', hz, hi, by rw [hc]; show absV n = _; unfold absV; rw [if_pos hz]; rfl⟩
    · right; left
      refine ⟨rfl, n, s, rfl, ha', hz, ?_⟩
      rw [hc]
      show absV n = _
      unfold absV
      rw [if_neg hz]
      have hri := rightV_right (hr ⟨2, n, s⟩ (by simp))
      obtain ⟨⟨s⟩⟩ := s
      simp only [Val.right, Bool.or_eq_true, Bool.and_eq_true, beq_iff_eq, List.isEmpty_iff] at hri
      have : s = [] := by
        rcases hri with ((h1 | h1) | h1) | h1 <;> first | exact h1.2 | omega
      subst this
      rfl
  · obtain ⟨⟨k, n, s⟩, rfl⟩ := len_one (hl.trans hA)
    exact Or.inr (Or.inr (Or.inr (Or.inl ⟨rfl, k, n, s, rfl, ha', hs ⟨k, n, s⟩ (by simp), hc⟩)))
  · obtain ⟨⟨k, n, s⟩, rfl⟩ := len_one (hl.trans hA)
    exact Or.inr (Or.inr (Or.inr (Or.inr (Or.inl ⟨rfl, k, n, s, rfl, ha', hs ⟨k, n, s⟩ (by simp), hc⟩))))
  · exact absurd rfl h6
  · obtain ⟨⟨k1, n1, s1⟩, ⟨k2, n2, s2⟩, ⟨k3, n3, s3⟩, rfl⟩ := len_three (hl.trans hA)
    exact Or.inr (Or.inr (Or.inr (Or.inr (Or.inr ⟨rfl, k1, n1, s1, k2, n2, s2, k3, n3, s3, rfl, ha', hs ⟨k1, n1, s1⟩ (by simp), hn ⟨k2, n2, s2⟩ (by simp), hn ⟨k3, n3, s3⟩ (by simp), hc⟩))))

set_option maxRecDepth 100000 in
set_option maxHeartbeats 8000000 in
theorem rcall_main (f : Int) (p : Option Addr) (xs : List Val) (c : Nat) (w : World) (h : argsV f ≠ 0) (hl : (xs.length : Int) = argsV f) (hL : xs.length ≤ maxLen) (rX : Row w p xs) (hn : ∀ v ∈ xs, inR v.n) (hs : ∀ v ∈ xs, v.s.size ≤ 140737488351232) (hr : ∀ v ∈ xs, rightV v = true) :
    Calls Try.prog 17 #[.int .i64 f, .slice p xs.length c] w fun e w' => e = .returned (callV f xs).out ∧ Below w.heap.size w w' := by
  have A := fun w => rargs_any f w
  have d0 : (argsV f == 0) = false := beq_eq_false_iff_ne.2 h
  have d1 : ((xs.length : Int) != argsV f) = false := by rw [hl]; simp
  have HB : Hid (∀ k (hk : k < xs.length), rtakesV f k xs[k].k = false → callV f xs = ⟨nullV, 35⟩) := fun k hk => callV_bad h hl k hk
  have HR : Hid ((∀ k (hk : k < xs.length), rtakesV f k xs[k].k = true) → Rest f xs) := rest_of h hl hn hs hr
  have HB2 : Hid (∀ v ∈ xs, boolRight v) := fun v hv => right_bool' (hr v hv)
  have rX' : Hid (Row (w.alloc (.cells #[.int .i64 0, .int .i64 0, .string ⟨#[]⟩] 23)) p xs) := rX.below ((Below.refl _ _).alloc (Nat.le_refl _) _)
  have hbne : ∀ {b off : Nat}, p = some ⟨b, off, none⟩ → 0 < xs.length → w.heap.size ≠ b := fun {b off} e h0 => by
    obtain ⟨b', off', e', c, _, _⟩ := rX.at (i := 0) h0
    rw [e] at e'
    obtain ⟨rfl, rfl⟩ : b = b' ∧ off = off' := by simpa using e'
    exact Nat.ne_of_gt (cell_lt c)
  have HNE : Hid (∀ {b off : Nat}, p = some ⟨b, off, none⟩ → 0 < xs.length → w.heap.size ≠ b) := hbne
  clear h hl hn hs hr rX hbne
  unfold maxLen at hL
  generalize argsV f = m at *
  go_enter Try.func17, Try.ntmps17
  go_wp2_with (go_at_call 19; with_reducible refine (A _).mono ?_; rintro e w' ⟨rfl, rfl⟩)
  go_loopw [6, 7] (fun nl i wr => ∃ k : Nat, k ≤ xs.length ∧ i = .int .i64 k ∧ nl = .bool ((xs.take k).any isNull) ∧ (∀ j (h : j < xs.length), j < k → rtakesV f j xs[j].k = true) ∧ wr = w.alloc (.cells #[.int .i64 0, .int .i64 0, .string ⟨#[]⟩] 23)) (fun _ i _ => xs.length - (intOf i).toNat)
  case atStart => exact ⟨0, Nat.zero_le _, rfl, rfl, fun j _ h => absurd h (Nat.not_lt_zero _), rfl⟩
  case round =>
  obtain ⟨k, hkx, rfl, rfl, hk, rfl⟩ := hrel
  by_cases hx : k < xs.length
  · obtain ⟨q1, q2, rfl, c10, c11, c12⟩ := rX'.out.at hx
    have cl := cell_lt c10
    have tk : (xs.take (k + 1)).any isNull = ((xs.take k).any isNull || isNull xs[k]) := by
      rw [List.take_succ_eq_append_getElem hx, List.any_append]; simp
    have TK := fun w => rtakes_any f k xs[k].k w
    have hnull : isNull xs[k] = (xs[k].k == 0) := rfl
    have nx : Hid (rtakesV f k xs[k].k = true → ∀ j (h : j < xs.length), j < k + 1 → rtakesV f j xs[j].k = true) := fun hh j hj hjk => by
      by_cases e : j = k
      · subst e; exact hh
      · exact hk j hj (by omega)
    have bad : Hid (rtakesV f k xs[k].k = false → callV f xs = ⟨nullV, 35⟩) := HB.out k hx
    have tk' : Hid ((xs.take (k + 1)).any isNull = ((xs.take k).any isNull || isNull xs[k])) := tk
    clear tk hk
    rw [hnull] at tk'
    clear hnull HB HR HB2
    generalize hnb : (xs.take k).any isNull = nb at *
    clear hnb
    generalize xs[k] = x at *
    obtain ⟨xk, xn, xt⟩ := x
    simp only [] at *
    cases ht : rtakesV f k xk
    · rw [ht] at TK
      have hr : Hid (callV f xs = ⟨nullV, 35⟩) := bad.out ht
      clear ht bad nx tk'
      go_wp2_with (go_at_call 49; with_reducible refine (TK _).mono ?_; rintro e w' ⟨rfl, rfl⟩)
      go_returns
      exact ⟨by rw [hr.out]; rfl, by go_grown⟩
    · rw [ht] at TK
      have n1' : Hid (∀ j (h : j < xs.length), j < k + 1 → rtakesV f j xs[j].k = true) := nx.out ht
      clear ht bad nx
      cases nb
      · cases hz : (xk == 0)
        · rw [hz] at tk'
          go_wp2_with (go_at_call 49; with_reducible refine (TK _).mono ?_; rintro e w' ⟨rfl, rfl⟩)
          go_roundw
          case rel => exact ⟨k + 1, by omega, by go_num, by rw [tk'.out]; rfl, n1'.out, trivial⟩
          case measure => simp [intOf]; omega
        · rw [hz] at tk'
          go_wp2_with (go_at_call 49; with_reducible refine (TK _).mono ?_; rintro e w' ⟨rfl, rfl⟩)
          go_roundw
          case rel => exact ⟨k + 1, by omega, by go_num, by rw [tk'.out]; rfl, n1'.out, trivial⟩
          case measure => simp [intOf]; omega
      · go_wp2_with (go_at_call 49; with_reducible refine (TK _).mono ?_; rintro e w' ⟨rfl, rfl⟩)
        go_roundw
        case rel => exact ⟨k + 1, by omega, by go_num, by rw [tk'.out]; rfl, n1'.out, trivial⟩
        case measure => simp [intOf]; omega
  · have hrest := HR.out (fun j hj => hk j hj (by omega))
    have hl2 : xs.take k = xs := List.take_of_length_le (by omega)
    rw [hl2]
    obtain rfl : k = xs.length := by omega
    clear hl2 hk HR HB hx hkx d0 d1 A
    have bR := Box.new w 0 0 ⟨#[]⟩ 23
    have hB : Below w.heap.size w (w.alloc (.cells #[.int .i64 0, .int .i64 0, .string ⟨#[]⟩] 23)) := (Below.refl _ _).alloc (Nat.le_refl _) _
    have hBn : ∀ n, Below w.heap.size w ((w.alloc (.cells #[.int .i64 0, .int .i64 0, .string ⟨#[]⟩] 23)).drewN n) := fun n => hB.trans ⟨rfl, rfl, rfl, Nat.le_refl _, fun _ _ => rfl⟩
    rcases hrest with ⟨rfl, k1, n1, s1, k2, n2, s2, rfl⟩ | ⟨h6, ha, hc⟩ | ⟨rfl, k, n, s, rfl, ha, hc⟩ | ⟨rfl, n, s, rfl, ha, hz, hi, hc⟩ | ⟨rfl, n, s, rfl, ha, hz, hc⟩ | ⟨rfl, k, n, s, rfl, ha, hsz, hc⟩ | ⟨rfl, k, n, s, rfl, ha, hsz, hc⟩ | ⟨rfl, k1, n1, s1, k2, n2, s2, k3, n3, s3, rfl, ha, hsz, i2, i3, hc⟩
    · have HC : Hid (callV 6 [⟨k1, n1, s1⟩, ⟨k2, n2, s2⟩] = coalV ⟨k1, n1, s1⟩ ⟨k2, n2, s2⟩) := rfl
      obtain ⟨b, off, rfl, c10, c11, c12⟩ := rX'.out.at (i := 0) (by simp)
      simp only [List.getElem_cons_zero, Nat.zero_mul, Nat.add_zero] at c10 c11 c12
      have cl := cell_lt c10
      obtain ⟨b', off', e1, c20, c21, c22⟩ := rX'.out.at (i := 1) (by simp)
      obtain ⟨rfl, rfl⟩ : b = b' ∧ off = off' := by simpa using e1
      simp only [List.getElem_cons_zero, List.getElem_cons_succ, Nat.one_mul] at c20 c21 c22
      clear rX' HB2 e1
      by_cases h1 : k1 = 0
      · subst h1
        rw [show ([⟨0, n1, s1⟩, ⟨k2, n2, s2⟩] : List Val).any isNull = true by simp [isNull]]
        rw [show coalV ⟨0, n1, s1⟩ ⟨k2, n2, s2⟩ = ⟨⟨k2, n2, s2⟩, 0⟩ from rfl] at HC
        go_wp2
        go_quiet (fail)
        go_wp2
        go_returns
        exact ⟨by rw [HC.out]; rfl, by first | exact below_put3 (hBn _) (Nat.le_refl _) _ _ _ | go_grown⟩
      have e1 : (k1 == 0) = false := beq_eq_false_iff_ne.2 h1
      have g1 : coalV ⟨k1, n1, s1⟩ ⟨k2, n2, s2⟩ = if nullOrV k1 ⟨k2, n2, s2⟩ then ⟨⟨k1, n1, s1⟩, 0⟩ else ⟨nullV, 35⟩ := if_neg h1
      rw [g1] at HC
      clear g1
      by_cases h2 : k2 = 0
      · subst h2
        rw [show ([⟨k1, n1, s1⟩, ⟨0, n2, s2⟩] : List Val).any isNull = true by simp [isNull]]
        rw [show nullOrV k1 ⟨0, n2, s2⟩ = true by simp [nullOrV]] at HC
        clear h1
        go_wp2
        go_quiet (fail)
        go_wp2
        go_returns
        exact ⟨by rw [HC.out]; rfl, by first | exact below_put3 (hBn _) (Nat.le_refl _) _ _ _ | go_grown⟩
      have e2 : (k2 == 0) = false := beq_eq_false_iff_ne.2 h2
      rw [show ([⟨k1, n1, s1⟩, ⟨k2, n2, s2⟩] : List Val).any isNull = false by simp [isNull, e1, e2]]
      by_cases h3 : k1 = k2
      · subst h3
        rw [show nullOrV k1 ⟨k1, n2, s2⟩ = true by simp [nullOrV]] at HC
        clear h1 h2
        go_wp2
        go_quiet (fail)
        go_wp2
        go_returns
        exact ⟨by rw [HC.out]; rfl, by first | exact below_put3 (hBn _) (Nat.le_refl _) _ _ _ | go_grown⟩
      · rw [show nullOrV k1 ⟨k2, n2, s2⟩ = false by simp [nullOrV, h2]; omega] at HC
        have e3 : (k1 != k2) = true := bne_iff_ne.2 h3
        clear h1 h2 h3
        go_wp2
        go_quiet (fail)
        go_wp2
        go_returns
        exact ⟨by rw [HC.out]; rfl, by first | exact below_put3 (hBn _) (Nat.le_refl _) _ _ _ | go_grown⟩
    · have d6 : (f == 6) = false := beq_eq_false_iff_ne.2 h6
      have HC : Hid (callV f xs = ⟨nullV, 0⟩) := hc
      rw [ha]
      clear hc ha h6
      go_wp2
      go_returns
      exact ⟨by rw [HC.out]; rfl, by go_grown⟩
    · have HC : Hid (callV 1 [⟨k, n, s⟩] = ⟨numV s.size, 0⟩) := hc
      obtain ⟨b, off, rfl, c10, c11, c12⟩ := rX'.out.at (i := 0) (by simp)
      simp only [List.getElem_cons_zero, Nat.zero_mul, Nat.add_zero] at c10 c11 c12
      have cl := cell_lt c10
      rw [ha]
      have T := fun w => refNumber_any (s.size : Int) w
      clear rX' hc ha HB2
      go_wp2_with (first | (go_at_call 41; with_reducible refine (T _).mono ?_; rintro e w2 ⟨rfl, b2⟩; obtain ⟨r0, r1, r2, f0, f1, f2⟩ := (bR.below b2).out; have B2 := hB.trans (b2.mono hB.size)))
      refine bodyPost_ret (by simp [results, Try.results17, go_sem, r0, r1, r2]; try rfl) rfl ?_
      exact ⟨by rw [HC.out]; rfl, by go_grown⟩
    · have HC : Hid (callV 2 [⟨2, n, s⟩] = unV 1 ⟨2, n, s⟩) := hc
      obtain ⟨b, off, rfl, c10, c11, c12⟩ := rX'.out.at (i := 0) (by simp)
      simp only [List.getElem_cons_zero, Nat.zero_mul, Nat.add_zero] at c10 c11 c12
      have cl := cell_lt c10
      have U := fun w => refUnary_any 1 ⟨2, n, s⟩ w hi (HB2.out ⟨2, n, s⟩ (by simp))
      unfold Val.v at U
      simp only [Ans.out_eq] at U
      generalize unV 1 ⟨2, n, s⟩ = r at *
      obtain ⟨⟨k', n', s'⟩, er⟩ := r
      simp only [] at U
      rw [ha]
      clear rX' hc ha HB2 hi
      go_wp2_with (first | (go_at_call 13; with_reducible refine (U _).mono ?_; rintro e w2 ⟨rfl, b2⟩; obtain ⟨r0, r1, r2, f0, f1, f2⟩ := (bR.below b2).out; have B2 := hB.trans (b2.mono hB.size)))
      refine bodyPost_ret (by simp [results, Try.results17, go_sem, r0, r1, r2]; try rfl) rfl ?_
      exact ⟨by rw [HC.out]; rfl, by go_grown⟩
    · have HC : Hid (callV 2 [⟨2, n, s⟩] = ⟨⟨2, n, s⟩, 0⟩) := hc
      obtain ⟨b, off, rfl, c10, c11, c12⟩ := rX'.out.at (i := 0) (by simp)
      simp only [List.getElem_cons_zero, Nat.zero_mul, Nat.add_zero] at c10 c11 c12
      have cl := cell_lt c10
      rw [ha]
      clear rX' hc ha HB2
      go_wp2
      go_returns
      exact ⟨by rw [HC.out]; rfl, by go_grown⟩
    · have HC : Hid (callV 3 [⟨k, n, s⟩] = ⟨textV (exV 97 65 s), 0⟩) := hc
      obtain ⟨b, off, rfl, c10, c11, c12⟩ := rX'.out.at (i := 0) (by simp)
      simp only [List.getElem_cons_zero, Nat.zero_mul, Nat.add_zero] at c10 c11 c12
      have cl := cell_lt c10
      rw [ha]
      have X : ∀ w, Calls Try.prog 50 #[.string s, .int .u8 97, .int .u8 65] w fun e w' => e = .returned (.string (exV 97 65 s)) ∧ Below w.heap.size w w' := fun w => letters_any 97 65 s w hsz (by omega) (by omega)
      have T := fun w => refText_any (exV 97 65 s) w
      generalize exV 97 65 s = t at *
      clear rX' hc ha HB2 hsz
      go_wp2_with (first | (go_at_call 50; with_reducible refine (X _).mono ?_; rintro e w1 ⟨rfl, b1⟩; replace bR := bR.below b1; replace hB := hB.trans (b1.mono hB.size)) | (go_at_call 39; with_reducible refine (T _).mono ?_; rintro e w2 ⟨rfl, b2⟩; obtain ⟨r0, r1, r2, f0, f1, f2⟩ := (bR.below b2).out; have B2 := hB.trans (b2.mono hB.size)))
      refine bodyPost_ret (by simp [results, Try.results17, go_sem, r0, r1, r2]; try rfl) rfl ?_
      exact ⟨by rw [HC.out]; rfl, by go_grown⟩
    · have HC : Hid (callV 4 [⟨k, n, s⟩] = ⟨textV (exV 65 97 s), 0⟩) := hc
      obtain ⟨b, off, rfl, c10, c11, c12⟩ := rX'.out.at (i := 0) (by simp)
      simp only [List.getElem_cons_zero, Nat.zero_mul, Nat.add_zero] at c10 c11 c12
      have cl := cell_lt c10
      rw [ha]
      have X : ∀ w, Calls Try.prog 50 #[.string s, .int .u8 65, .int .u8 97] w fun e w' => e = .returned (.string (exV 65 97 s)) ∧ Below w.heap.size w w' := fun w => letters_any 65 97 s w hsz (by omega) (by omega)
      have T := fun w => refText_any (exV 65 97 s) w
      generalize exV 65 97 s = t at *
      clear rX' hc ha HB2 hsz
      go_wp2_with (first | (go_at_call 50; with_reducible refine (X _).mono ?_; rintro e w1 ⟨rfl, b1⟩; replace bR := bR.below b1; replace hB := hB.trans (b1.mono hB.size)) | (go_at_call 39; with_reducible refine (T _).mono ?_; rintro e w2 ⟨rfl, b2⟩; obtain ⟨r0, r1, r2, f0, f1, f2⟩ := (bR.below b2).out; have B2 := hB.trans (b2.mono hB.size)))
      refine bodyPost_ret (by simp [results, Try.results17, go_sem, r0, r1, r2]; try rfl) rfl ?_
      exact ⟨by rw [HC.out]; rfl, by go_grown⟩
    · have HC : Hid (callV 5 [⟨k1, n1, s1⟩, ⟨k2, n2, s2⟩, ⟨k3, n3, s3⟩] = ⟨textV (partV s1 n2 n3), 0⟩) := hc
      obtain ⟨b, off, rfl, c10, c11, c12⟩ := rX'.out.at (i := 0) (by simp)
      simp only [List.getElem_cons_zero, Nat.zero_mul, Nat.add_zero] at c10 c11 c12
      have cl := cell_lt c10
      obtain ⟨b', off', e1, c20, c21, c22⟩ := rX'.out.at (i := 1) (by simp)
      obtain ⟨rfl, rfl⟩ : b = b' ∧ off = off' := by simpa using e1
      simp only [List.getElem_cons_zero, List.getElem_cons_succ, Nat.one_mul] at c20 c21 c22
      obtain ⟨b', off', e2, c30, c31, c32⟩ := rX'.out.at (i := 2) (by simp)
      obtain ⟨rfl, rfl⟩ : b = b' ∧ off = off' := by simpa using e2
      simp only [List.getElem_cons_zero, List.getElem_cons_succ] at c30 c31 c32
      rw [ha]
      have X := fun w => rpart_any s1 n2 n3 w hsz i2 i3
      have T := fun w => refText_any (partV s1 n2 n3) w
      generalize partV s1 n2 n3 = t at *
      clear rX' hc ha HB2 hsz i2 i3 e1 e2
      have hS : PS (w.alloc (.cells #[.int .i64 0, .int .i64 0, .string ⟨#[]⟩] 23)) b off s1 n2 n3 := ⟨c12, c21, c31⟩
      have hbw : w.heap.size ≠ b := HNE.out rfl (by simp)
      clear HNE
      go_upto_region 31 with fail
      go_region_held3 (fun w' => w'.cell? ⟨b, off + 2, none⟩ = some (.string s1) ∧ w'.cell? ⟨b, off + 3 + 1, none⟩ = some (.int .i64 n2) ∧ w'.cell? ⟨b, off + 2 * 3 + 1, none⟩ = some (.int .i64 n3))
        (with_reducible first | exact hS.all | exact hS.drew.all | exact (hS.put3 hbw _ _ _).all)
        (first
          | (go_at_call 51; with_reducible refine (X _).mono ?_; rintro e w1 ⟨rfl, b1⟩; (with_reducible first | replace bR := bR.below b1 | replace bR := bR.drew.below b1); (with_reducible first | replace hS := hS.below b1 | replace hS := hS.drew.below b1); (with_reducible first | replace hB := hB.trans (b1.mono hB.size) | replace hB := hB.drew.trans (b1.mono hB.drew.size)))
          | (go_at_call 39; with_reducible refine (T _).mono ?_; rintro e w1 ⟨rfl, b1⟩; replace bR := bR.below b1; replace hS := hS.below b1; replace hB := hB.trans (b1.mono hB.size); obtain ⟨r0, r1, r2, f0, f1, f2⟩ := bR.out))
      go_wp2_with fail
      have R' := bR.put 3 0 t
      have B' := below_put3 hB (Nat.le_refl _) (.int .i64 3) (.int .i64 0) (.string t)
      obtain ⟨r0, r1, r2, _, _, _⟩ := R'.out
      refine bodyPost_ret (by simp [results, Try.results17, go_sem, r0, r1, r2]; try rfl) rfl ?_
      exact ⟨by rw [HC.out]; rfl, B'⟩
end Go.Proofs.Ytonikoijelhojaa
