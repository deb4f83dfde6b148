/- What calc.Call answers, its work being a contract. Conditions: the slice's length is Go's. What calc.Call answers at a function that looks at each value, its work being a contract. Conditions: the slice's length is Go's. What calc.Binary answers. Conditions: the numbers are within the numbers; the texts' lengths together are Go's. What calc.Binary answers at a comparison of two values that are not NULL. No conditions. What calc.Binary answers, whole: arithmetic (what is thrown is caught) and comparisons beside the rest. Conditions: the numbers are within the numbers; the texts' lengths together are Go's. -/
import Derived.Test.YtblkhlhhlalbkaaGreatDoorCB
import Derived.Deep.RegionWith
import Derived.Test.YtblkhlhhlalbkaaGreatDoorValWalks
namespace Go.Proofs.YtblkhlhhlalbkaaGreatDoor
open Go.RowKit Go.Lib Go.Sort
set_option linter.unusedVariables false
set_option maxRecDepth 20000

/-- The variables of Call. -/
def CB (w : World) (b : Nat) (f : Int) (v : Value) : Prop := w.cell? ⟨b, 0, none⟩ = some (.int .i64 f) ∧ w.cell? ⟨b + 1, 0, none⟩ = some v ∧ Box w (b + 1 + 1) ⟨0, 0, ⟨#[]⟩⟩
theorem CB.below {w w' : World} {b : Nat} {f : Int} {v : Value} (h : CB w b f v) (k : Below w.heap.size w w') : CB w' b f v := ⟨below_cell k h.1, below_cell k h.2.1, h.2.2.below k⟩
theorem CB.out {w : World} {b : Nat} {f : Int} {v : Value} (h : CB w b f v) : w.cell? ⟨b, 0, none⟩ = some (.int .i64 f) ∧ w.cell? ⟨b + 1, 0, none⟩ = some v ∧ b < w.heap.size ∧ b + 1 < w.heap.size ∧ b + 1 + 1 < w.heap.size := ⟨h.1, h.2.1, cell_lt h.1, cell_lt h.2.1, cell_lt h.2.2.1⟩
theorem CB.r {w : World} {b : Nat} {f : Int} {v : Value} (h : CB w b f v) : Box w (b + 1 + 1) ⟨0, 0, ⟨#[]⟩⟩ := h.2.2
theorem cb_new (w : World) (f : Int) (p : Option Addr) (xs : List Val) (c : Nat) : CB (((w.alloc (.cells #[.int .i64 f] 3)).alloc (.cells #[.slice p xs.length c] 27)).alloc (.cells #[.int .i64 0, .int .i64 0, .string ⟨#[]⟩] 23)) w.heap.size f (.slice p xs.length c) :=
  ⟨by go_simp, by go_simp, Box.at (by simp) 0 0 ⟨#[]⟩ 23⟩

set_option maxHeartbeats 400000 in
theorem call_kind (f : Int) (p : Option Addr) (xs : List Val) (c : Nat) (w : World) (h : argsV f = 0) :
    Calls Tryz.prog 81 #[.int .i64 f, .slice p xs.length c] w fun e w' => e = .returned (⟨nullV, 5⟩ : Ans).out ∧ Below w.heap.size w w' := by
  have A := fun w => args_any f w
  rw [h] at A
  go_enter Tryz.func81, Tryz.ntmps81
  go_wp2_with (go_at_call 119; with_reducible refine (A _).mono ?_; rintro e w' ⟨rfl, rfl⟩)
  go_returns
  exact ⟨rfl, by go_grown⟩

set_option maxHeartbeats 400000 in
theorem call_count (f : Int) (p : Option Addr) (xs : List Val) (c : Nat) (w : World) (h : argsV f ≠ 0) (hl : (xs.length : Int) ≠ argsV f) :
    Calls Tryz.prog 81 #[.int .i64 f, .slice p xs.length c] w fun e w' => e = .returned (⟨nullV, 37⟩ : Ans).out ∧ Below w.heap.size w w' := by
  have A := fun w => args_any f w
  have d0 : (argsV f == 0) = false := beq_eq_false_iff_ne.2 h
  have d1 : ((xs.length : Int) != argsV f) = true := bne_iff_ne.2 hl
  have X := cb_new w f p xs c
  generalize argsV f = m at *
  have AH : Hid (∀ d os, Calls Tryz.prog 119 #[.int .i64 f] (grow (redrawn (((w.alloc (.cells #[.int .i64 f] 3)).alloc (.cells #[.slice p xs.length c] 27)).alloc (.cells #[.int .i64 0, .int .i64 0, .string ⟨#[]⟩] 23)) d) os) fun e w'' => e = .returned (.int .i64 m) ∧ ∃ q : Regrown, w'' = grow (redrawn (((w.alloc (.cells #[.int .i64 f] 3)).alloc (.cells #[.slice p xs.length c] 27)).alloc (.cells #[.int .i64 0, .int .i64 0, .string ⟨#[]⟩] 23)) q.d) q.os) :=
    fun d os => Calls.regrown_of ((A _).mono (by rintro e w' ⟨rfl, rfl⟩; exact ⟨rfl, Below.refl _ _⟩))
  obtain ⟨o0, o1, _⟩ := X.out
  have g0 := cell_regrown o0
  have g1 := cell_regrown o1
  clear h hl
  go_enter Tryz.func81, Tryz.ntmps81
  go_wp2_with (go_at_call 119; with_reducible refine (A _).mono ?_; rintro e w' ⟨rfl, rfl⟩)
  refine wp_region_quiet_below (by kernel_rfl) (by kernel_rfl) ?_
  repeat (quiet_step (first | (go_at_call 119; with_reducible exact AH.out _ _)))
  refine wpQuiet_nil ?_
  intro _ hw'
  obtain ⟨⟨dq, osq⟩, hw''⟩ := hw'
  subst hw''
  have b1 := below_regrown (((w.alloc (.cells #[.int .i64 f] 3)).alloc (.cells #[.slice p xs.length c] 27)).alloc (.cells #[.int .i64 0, .int .i64 0, .string ⟨#[]⟩] 23)) dq osq
  obtain ⟨r0, r1, r2, f0, f1, f2⟩ := (X.below b1).r.out
  have B1 := below_new3 b1
  simp only [] at *
  go_wp2
  refine bodyPost_ret (by simp [results, Tryz.results81, go_sem, r0, r1, r2]; try rfl) rfl ?_
  exact ⟨rfl, by go_grown⟩
end Go.Proofs.YtblkhlhhlalbkaaGreatDoor
namespace Go.Proofs.YtblkhlhhlalbkaaGreatDoor
open Go.RowKit Go.Lib Go.Sort
set_option linter.unusedVariables false
set_option maxRecDepth 20000

set_option maxHeartbeats 4000000 in
theorem call_main (f : Int) (p : Option Addr) (xs : List Val) (c : Nat) (r : Ans) (w : World) (h : argsV f ≠ 0) (h6 : f ≠ 6) (hl : (xs.length : Int) = argsV f) (hL : xs.length ≤ maxLen) (rX : Row w p xs)
    (H1 : (∃ j, ∃ h : j < xs.length, badV f j xs[j] = true) → r = ⟨nullV, 35⟩)
    (H2 : (∀ j (h : j < xs.length), badV f j xs[j] = false) → xs.any isNull = true → r = ⟨nullV, 0⟩)
    (H3 : (∀ j (h : j < xs.length), badV f j xs[j] = false) → xs.any isNull = false → ∀ w1, CB w1 w.heap.size f (.slice p xs.length c) → Row w1 p xs →
      Calls Tryz.prog 107 #[.func (.func 122) #[] #[.pointer (some ⟨w.heap.size, 0, none⟩), .pointer (some ⟨w.heap.size + 1, 0, none⟩)]] w1 fun e w' => e = .returned r.out ∧ Below w1.heap.size w1 w') :
    Calls Tryz.prog 81 #[.int .i64 f, .slice p xs.length c] w fun e w' => e = .returned r.out ∧ Below w.heap.size w w' := by
  have hmf : ∀ (fn : Fn) (first cap : Array Value) (w : World), (Instr.makeFunc fn first cap).run Tryz.prog w = .ok (.func fn first cap) w := fun _ _ _ _ => rfl
  have A := fun w => args_any f w
  have d0 : (argsV f == 0) = false := beq_eq_false_iff_ne.2 h
  have d1 : ((xs.length : Int) != argsV f) = false := by rw [hl]; simp
  have d6 : (f == 6) = false := beq_eq_false_iff_ne.2 h6
  have X := cb_new w f p xs c
  have rX' : Hid (Row (((w.alloc (.cells #[.int .i64 f] 3)).alloc (.cells #[.slice p xs.length c] 27)).alloc (.cells #[.int .i64 0, .int .i64 0, .string ⟨#[]⟩] 23)) p xs) := rX.below ((((Below.refl _ _).alloc (Nat.le_refl _) _).alloc (by simp) _).alloc (by simp; omega) _)
  have H1' : Hid ((∃ j, ∃ h : j < xs.length, badV f j xs[j] = true) → r = ⟨nullV, 35⟩) := H1
  have H2' : Hid ((∀ j (h : j < xs.length), badV f j xs[j] = false) → xs.any isNull = true → r = ⟨nullV, 0⟩) := H2
  have H3' : Hid ((∀ j (h : j < xs.length), badV f j xs[j] = false) → xs.any isNull = false → ∀ w1, CB w1 w.heap.size f (.slice p xs.length c) → Row w1 p xs →
      Calls Tryz.prog 107 #[.func (.func 122) #[] #[.pointer (some ⟨w.heap.size, 0, none⟩), .pointer (some ⟨w.heap.size + 1, 0, none⟩)]] w1 fun e w' => e = .returned r.out ∧ Below w1.heap.size w1 w') := H3
  clear H1 H2 H3 rX h h6 hl
  unfold maxLen at hL
  generalize argsV f = m at *
  have AH : Hid (∀ d os, Calls Tryz.prog 119 #[.int .i64 f] (grow (redrawn (((w.alloc (.cells #[.int .i64 f] 3)).alloc (.cells #[.slice p xs.length c] 27)).alloc (.cells #[.int .i64 0, .int .i64 0, .string ⟨#[]⟩] 23)) d) os) fun e w'' => e = .returned (.int .i64 m) ∧ ∃ q : Regrown, w'' = grow (redrawn (((w.alloc (.cells #[.int .i64 f] 3)).alloc (.cells #[.slice p xs.length c] 27)).alloc (.cells #[.int .i64 0, .int .i64 0, .string ⟨#[]⟩] 23)) q.d) q.os) :=
    fun d os => Calls.regrown_of ((A _).mono (by rintro e w' ⟨rfl, rfl⟩; exact ⟨rfl, Below.refl _ _⟩))
  obtain ⟨o0, o1, _⟩ := X.out
  have g0 := cell_regrown o0
  have g1 := cell_regrown o1
  clear o0 o1
  go_enter Tryz.func81, Tryz.ntmps81
  go_wp2_with (go_at_call 119; with_reducible refine (A _).mono ?_; rintro e w' ⟨rfl, rfl⟩)
  refine wp_region_quiet_below (by kernel_rfl) (by kernel_rfl) ?_
  repeat (quiet_step (first | (go_at_call 119; with_reducible exact AH.out _ _)))
  refine wpQuiet_nil ?_
  intro _ hw'
  obtain ⟨⟨dq, osq⟩, hw''⟩ := hw'
  subst hw''
  simp only []
  have b1 := below_regrown (((w.alloc (.cells #[.int .i64 f] 3)).alloc (.cells #[.slice p xs.length c] 27)).alloc (.cells #[.int .i64 0, .int .i64 0, .string ⟨#[]⟩] 23)) dq osq
  have X1 := X.below b1
  have R1 : Hid (Row _ p xs) := rX'.out.below b1
  have B1 := below_new3 b1
  generalize grow (redrawn (((w.alloc (.cells #[.int .i64 f] 3)).alloc (.cells #[.slice p xs.length c] 27)).alloc (.cells #[.int .i64 0, .int .i64 0, .string ⟨#[]⟩] 23)) dq) osq = W at *
  clear X rX' b1 g0 g1 AH A
  obtain ⟨o0, o1, l0, l1, l2⟩ := X1.out
  go_wp2
  go_loopw [32, 6] (fun i nl wr => ∃ k : Nat, k ≤ xs.length ∧ i = .int .i64 k ∧ nl = .bool ((xs.take k).any isNull) ∧ (∀ j (h : j < xs.length), j < k → badV f j xs[j] = false) ∧ Below W.heap.size W wr) (fun i _ _ => xs.length - (intOf i).toNat)
  case atStart => exact ⟨0, Nat.zero_le _, rfl, rfl, fun j _ h => absurd h (Nat.not_lt_zero _), Below.refl _ _⟩
  case round =>
    obtain ⟨k, hkx, rfl, rfl, hk, hb⟩ := hrel
    clear o0 o1 l0 l1 l2
    have X2 := X1.below hb
    have R2 := R1.out.below hb
    have B2 := B1.trans (hb.mono B1.size)
    have hbs := hb.size
    obtain ⟨o0, o1, l0, l1, l2⟩ := X2.out
    by_cases hx : k < xs.length
    · obtain ⟨q1, q2, rfl, c10, c11, c12⟩ := R2.at hx
      have cl := cell_lt c10
      have tk : (xs.take (k + 1)).any isNull = ((xs.take k).any isNull || isNull xs[k]) := by
        rw [List.take_succ_eq_append_getElem hx, List.any_append]; simp
      have TK := fun w => takes_any f k xs[k].k w
      have hbad : badV f k xs[k] = (xs[k].k != 0 && !takesV f k xs[k].k) := rfl
      have hnull : isNull xs[k] = (xs[k].k == 0) := rfl
      have nx : badV f k xs[k] = false → ∀ j (h : j < xs.length), j < k + 1 → badV f j xs[j] = false := fun hh j hj hjk => by
        by_cases e : j = k
        · subst e; exact hh
        · exact hk j hj (by omega)
      have fail35 : Hid (badV f k xs[k] = true → r = ⟨nullV, 35⟩) := fun hh => H1'.out ⟨k, hx, hh⟩
      have nx' : Hid (badV f k xs[k] = false → ∀ j (h : j < xs.length), j < k + 1 → badV f j xs[j] = false) := nx
      have tk' : Hid ((xs.take (k + 1)).any isNull = ((xs.take k).any isNull || isNull xs[k])) := tk
      clear nx tk
      rw [hbad] at fail35 nx'
      rw [hnull] at tk'
      clear hbad hnull hk
      generalize hnb : (xs.take k).any isNull = nb at *
      clear hnb
      generalize xs[k] = x at *
      obtain ⟨xk, xn, xt⟩ := x
      simp only [] at *
      by_cases hz : xk = 0
      · subst hz
        have n1 := nx'.out rfl
        have e1 : Hid ((xs.take (k + 1)).any isNull = true) := by rw [tk'.out]; cases nb <;> rfl
        have n1' : Hid (∀ j (h : j < xs.length), j < k + 1 → badV f j xs[j] = false) := n1
        clear n1 nx' tk' fail35 TK
        cases nb
        all_goals
          go_wp2
          go_roundw
          case rel => exact ⟨k + 1, by omega, by go_num, by rw [e1.out], n1'.out, by go_grown⟩
          case measure => simp [intOf]; omega
      · have z0 : (xk != 0) = true := bne_iff_ne.2 hz
        have z1 : (xk == 0) = false := beq_eq_false_iff_ne.2 hz
        rw [z0, Bool.true_and] at fail35 nx'
        rw [z1, Bool.or_false] at tk'
        clear hz
        cases ht : takesV f k xk
        · rw [ht] at TK
          have hr : Hid (r = ⟨nullV, 35⟩) := fail35.out (by rw [ht]; rfl)
          obtain ⟨r0, r1, r2, f0, f1, f2⟩ := X2.r.out
          clear ht fail35 nx' tk'
          go_wp2_with (go_at_call 121; with_reducible refine (TK _).mono ?_; rintro e w' ⟨rfl, rfl⟩)
          refine bodyPost_ret (by simp [results, Tryz.results81, go_sem, r0, r1, r2, l2]; try rfl) rfl ?_
          exact ⟨by rw [hr.out]; rfl, by go_grown⟩
        · rw [ht] at TK
          have n1' : Hid (∀ j (h : j < xs.length), j < k + 1 → badV f j xs[j] = false) := nx'.out (by rw [ht]; rfl)
          clear ht fail35 nx'
          cases nb
          all_goals
            go_wp2_with (go_at_call 121; with_reducible refine (TK _).mono ?_; rintro e w' ⟨rfl, rfl⟩)
            go_roundw
            case rel => exact ⟨k + 1, by omega, by go_num, by rw [tk'.out], n1'.out, by go_grown⟩
            case measure => simp [intOf]; omega
    · have hall : Hid (∀ j (h : j < xs.length), badV f j xs[j] = false) := fun j hj => hk j hj (by omega)
      have hl2 : xs.take k = xs := List.take_of_length_le (by omega)
      rw [hl2]
      clear hl2 hk
      obtain ⟨r0, r1, r2, f0, f1, f2⟩ := X2.r.out
      cases hn : xs.any isNull
      · have H := H3'.out hall.out hn _ X2 R2
        simp only [Ans.out_eq] at *
        obtain ⟨⟨k', n', s'⟩, er⟩ := r
        simp only [] at *
        clear H1' H2' H3' hn hall
        go_wp2_with (go_at_call 107; with_reducible refine H.mono ?_; rintro e w2 ⟨rfl, b2⟩; obtain ⟨r0, r1, r2, f0, f1, f2⟩ := (X2.below b2).r.out; have B3 := B2.trans (b2.mono B2.size))
        refine bodyPost_ret (by simp [results, Tryz.results81, go_sem, r0, r1, r2]; try rfl) rfl ?_
        exact ⟨rfl, by go_grown⟩
      · have hr : Hid (r = ⟨nullV, 0⟩) := H2'.out hall.out hn
        clear H1' H2' H3' hn hall
        go_wp2
        refine bodyPost_ret (by simp [results, Tryz.results81, go_sem, r0, r1, r2]; try rfl) rfl ?_
        exact ⟨by rw [hr.out]; rfl, by go_grown⟩
end Go.Proofs.YtblkhlhhlalbkaaGreatDoor
namespace Go.Proofs.YtblkhlhhlalbkaaGreatDoor
open Go.RowKit Go.Lib Go.Sort
set_option linter.unusedVariables false
set_option maxRecDepth 20000

set_option maxHeartbeats 400000 in
theorem joined_any (s t : ByteArray) (w : World) (h : s.size + t.size ≤ maxLen) :
    Calls Tryz.prog 116 #[.string s, .string t] w fun e w' => e = .returned (joinV s t).out ∧ Below w.heap.size w w' := by
  unfold maxLen at h
  by_cases hs : 2048 < s.size + t.size
  · rw [show joinV s t = ⟨nullV, 8⟩ from if_pos hs]
    go_enter Tryz.func116, Tryz.ntmps116
    go_wp2
    go_returns
    exact ⟨rfl, by go_grown⟩
  · rw [show joinV s t = ⟨textV (s ++ t), 0⟩ from if_neg hs]
    go_enter Tryz.func116, Tryz.ntmps116
    go_wp2_with (go_at_call 164; with_reducible refine (text_any _ _).mono ?_; rintro e w1 ⟨rfl, b1⟩; obtain ⟨r0, r1, r2, f0, f1, f2⟩ := cells3 b1; have B1 := below_new b1)
    refine bodyPost_ret (by simp [results, Tryz.results116, go_sem, r0, r1, r2]; try rfl) rfl ?_
    exact ⟨rfl, by go_grown⟩

/-- The variables of Binary. -/
def Boxes (w : World) (b : Nat) (op : Int) (x y r : Val) : Prop := w.cell? ⟨b, 0, none⟩ = some (.int .i64 op) ∧ Box w (b + 1) x ∧ Box w (b + 1 + 1) y ∧ Box w (b + 1 + 1 + 1) r
theorem Boxes.below {w w' : World} {b : Nat} {op : Int} {x y r : Val} (h : Boxes w b op x y r) (k : Below w.heap.size w w') : Boxes w' b op x y r :=
  ⟨below_cell k h.1, h.2.1.below k, h.2.2.1.below k, h.2.2.2.below k⟩
theorem boxes4 (w : World) (op k1 n1 k2 n2 : Int) (s1 s2 : ByteArray) :
    Boxes ((((w.alloc (.cells #[.int .i64 op] 3)).alloc (.cells #[.int .i64 k1, .int .i64 n1, .string s1] 23)).alloc (.cells #[.int .i64 k2, .int .i64 n2, .string s2] 23)).alloc (.cells #[.int .i64 0, .int .i64 0, .string ⟨#[]⟩] 23)) w.heap.size op ⟨k1, n1, s1⟩ ⟨k2, n2, s2⟩ ⟨0, 0, ⟨#[]⟩⟩ :=
  ⟨by go_simp, ((Box.at (by simp) k1 n1 s1 23).alloc _).alloc _, (Box.at (by simp) k2 n2 s2 23).alloc _, Box.at (by simp) 0 0 ⟨#[]⟩ 23⟩
theorem Boxes.op {w : World} {b : Nat} {op : Int} {x y r : Val} (h : Boxes w b op x y r) : w.cell? ⟨b, 0, none⟩ = some (.int .i64 op) := h.1
theorem Boxes.a {w : World} {b : Nat} {op : Int} {x y r : Val} (h : Boxes w b op x y r) : Box w (b + 1) x := h.2.1
theorem Boxes.b {w : World} {b : Nat} {op : Int} {x y r : Val} (h : Boxes w b op x y r) : Box w (b + 1 + 1) y := h.2.2.1
theorem Boxes.r {w : World} {b : Nat} {op : Int} {x y r : Val} (h : Boxes w b op x y r) : Box w (b + 1 + 1 + 1) r := h.2.2.2

set_option maxHeartbeats 400000 in
theorem binary_kind (op : Int) (a b : Val) (w : World) (h : op < 3 ∨ 16 < op) :
    Calls Tryz.prog 80 #[.int .i64 op, a.v, b.v] w fun e w' => e = .returned (⟨nullV, 5⟩ : Ans).out ∧ Below w.heap.size w w' := by
  obtain ⟨k1, n1, s1⟩ := a
  obtain ⟨k2, n2, s2⟩ := b
  unfold Val.v
  rcases h with h | h
  all_goals
    go_enter Tryz.func80, Tryz.ntmps80
    go_wp2
    go_returns
    exact ⟨rfl, by go_grown⟩

set_option maxHeartbeats 800000 in
theorem binary_type (op : Int) (a b : Val) (w : World) (h1 : 3 ≤ op) (h2 : op ≤ 16) (hf : fitV op a b = false) :
    Calls Tryz.prog 80 #[.int .i64 op, a.v, b.v] w fun e w' => e = .returned (⟨nullV, 35⟩ : Ans).out ∧ Below w.heap.size w w' := by
  obtain ⟨k1, n1, s1⟩ := a
  obtain ⟨k2, n2, s2⟩ := b
  have X := boxes4 w op k1 n1 k2 n2 s1 s2
  have C := fun w => fit_any op ⟨k1, n1, s1⟩ ⟨k2, n2, s2⟩ w (by omega)
  rw [hf] at C
  clear hf
  unfold Val.v at *
  simp only [] at *
  go_enter Tryz.func80, Tryz.ntmps80
  go_wp2_with (first
    | (go_at_call 111; with_reducible refine (C _).mono ?_; rintro e w1 ⟨rfl, b1⟩; have X1 := X.below b1; have o0 := X1.op; obtain ⟨a0, a1, a2, _⟩ := X1.a.out; obtain ⟨d0, d1, d2, _⟩ := X1.b.out; obtain ⟨r0, r1, r2, f0, f1, f2⟩ := X1.r.out; have B1 := below_new4 b1)
    | fail)
  refine bodyPost_ret (by simp [results, Tryz.results80, go_sem, r0, r1, r2]; try rfl) rfl ?_
  exact ⟨rfl, by go_grown⟩

set_option maxHeartbeats 800000 in
theorem binary_and (op : Int) (a b : Val) (w : World) (h : op = 4) (hf : fitV op a b = true) :
    Calls Tryz.prog 80 #[.int .i64 op, a.v, b.v] w fun e w' => e = .returned (⟨andV a b, 0⟩ : Ans).out ∧ Below w.heap.size w w' := by
  obtain ⟨k1, n1, s1⟩ := a
  obtain ⟨k2, n2, s2⟩ := b
  have X := boxes4 w op k1 n1 k2 n2 s1 s2
  have C := fun w => fit_any op ⟨k1, n1, s1⟩ ⟨k2, n2, s2⟩ w (by omega)
  rw [hf] at C
  clear hf
  unfold Val.v at *
  simp only [] at *
  have D := fun w => and_any ⟨k1, n1, s1⟩ ⟨k2, n2, s2⟩ w
  rw [Ans.out_eq]
  unfold Val.v at D
  simp only [] at *
  generalize andV ⟨k1, n1, s1⟩ ⟨k2, n2, s2⟩ = r at *
  obtain ⟨k', n', s'⟩ := r
  simp only [] at *
  subst h
  go_enter Tryz.func80, Tryz.ntmps80
  go_wp2_with (first
    | (go_at_call 111; with_reducible refine (C _).mono ?_; rintro e w1 ⟨rfl, b1⟩; have X1 := X.below b1; have o0 := X1.op; obtain ⟨a0, a1, a2, _⟩ := X1.a.out; obtain ⟨d0, d1, d2, _⟩ := X1.b.out; obtain ⟨r0, r1, r2, f0, f1, f2⟩ := X1.r.out; have B1 := below_new4 b1)
    | (go_at_call 112; with_reducible refine (D _).mono ?_; rintro e w2 ⟨rfl, b2⟩; obtain ⟨r0, r1, r2, f0, f1, f2⟩ := (X1.below b2).r.out; have B2 := B1.trans (b2.mono B1.size)))
  refine bodyPost_ret (by simp [results, Tryz.results80, go_sem, r0, r1, r2]; try rfl) rfl ?_
  exact ⟨rfl, by go_grown⟩

set_option maxHeartbeats 800000 in
theorem binary_or (op : Int) (a b : Val) (w : World) (h : op = 3) (hf : fitV op a b = true) :
    Calls Tryz.prog 80 #[.int .i64 op, a.v, b.v] w fun e w' => e = .returned (⟨orV a b, 0⟩ : Ans).out ∧ Below w.heap.size w w' := by
  obtain ⟨k1, n1, s1⟩ := a
  obtain ⟨k2, n2, s2⟩ := b
  have X := boxes4 w op k1 n1 k2 n2 s1 s2
  have C := fun w => fit_any op ⟨k1, n1, s1⟩ ⟨k2, n2, s2⟩ w (by omega)
  rw [hf] at C
  clear hf
  unfold Val.v at *
  simp only [] at *
  have D := fun w => or_any ⟨k1, n1, s1⟩ ⟨k2, n2, s2⟩ w
  rw [Ans.out_eq]
  unfold Val.v at D
  simp only [] at *
  generalize orV ⟨k1, n1, s1⟩ ⟨k2, n2, s2⟩ = r at *
  obtain ⟨k', n', s'⟩ := r
  simp only [] at *
  subst h
  go_enter Tryz.func80, Tryz.ntmps80
  go_wp2_with (first
    | (go_at_call 111; with_reducible refine (C _).mono ?_; rintro e w1 ⟨rfl, b1⟩; have X1 := X.below b1; have o0 := X1.op; obtain ⟨a0, a1, a2, _⟩ := X1.a.out; obtain ⟨d0, d1, d2, _⟩ := X1.b.out; obtain ⟨r0, r1, r2, f0, f1, f2⟩ := X1.r.out; have B1 := below_new4 b1)
    | (go_at_call 113; with_reducible refine (D _).mono ?_; rintro e w2 ⟨rfl, b2⟩; obtain ⟨r0, r1, r2, f0, f1, f2⟩ := (X1.below b2).r.out; have B2 := B1.trans (b2.mono B1.size)))
  refine bodyPost_ret (by simp [results, Tryz.results80, go_sem, r0, r1, r2]; try rfl) rfl ?_
  exact ⟨rfl, by go_grown⟩

set_option maxHeartbeats 800000 in
theorem binary_null1 (op : Int) (a b : Val) (w : World) (h : 4 < op) (h2 : op ≤ 16) (h0 : a.k = 0) (hf : fitV op a b = true) :
    Calls Tryz.prog 80 #[.int .i64 op, a.v, b.v] w fun e w' => e = .returned (⟨nullV, 0⟩ : Ans).out ∧ Below w.heap.size w w' := by
  obtain ⟨k1, n1, s1⟩ := a
  obtain ⟨k2, n2, s2⟩ := b
  have X := boxes4 w op k1 n1 k2 n2 s1 s2
  have C := fun w => fit_any op ⟨k1, n1, s1⟩ ⟨k2, n2, s2⟩ w (by omega)
  rw [hf] at C
  clear hf
  unfold Val.v at *
  simp only [] at *
  subst h0
  go_enter Tryz.func80, Tryz.ntmps80
  go_wp2_with (first
    | (go_at_call 111; with_reducible refine (C _).mono ?_; rintro e w1 ⟨rfl, b1⟩; have X1 := X.below b1; have o0 := X1.op; obtain ⟨a0, a1, a2, _⟩ := X1.a.out; obtain ⟨d0, d1, d2, _⟩ := X1.b.out; obtain ⟨r0, r1, r2, f0, f1, f2⟩ := X1.r.out; have B1 := below_new4 b1)
    | fail)
  refine bodyPost_ret (by simp [results, Tryz.results80, go_sem, r0, r1, r2]; try rfl) rfl ?_
  exact ⟨rfl, by go_grown⟩

set_option maxHeartbeats 800000 in
theorem binary_null2 (op : Int) (a b : Val) (w : World) (h : 4 < op) (h2 : op ≤ 16) (h0 : a.k ≠ 0) (h3 : b.k = 0) (hf : fitV op a b = true) :
    Calls Tryz.prog 80 #[.int .i64 op, a.v, b.v] w fun e w' => e = .returned (⟨nullV, 0⟩ : Ans).out ∧ Below w.heap.size w w' := by
  obtain ⟨k1, n1, s1⟩ := a
  obtain ⟨k2, n2, s2⟩ := b
  have X := boxes4 w op k1 n1 k2 n2 s1 s2
  have C := fun w => fit_any op ⟨k1, n1, s1⟩ ⟨k2, n2, s2⟩ w (by omega)
  rw [hf] at C
  clear hf
  unfold Val.v at *
  simp only [] at *
  have e0 : (k1 == 0) = false := beq_eq_false_iff_ne.2 h0
  subst h3
  clear h0
  go_enter Tryz.func80, Tryz.ntmps80
  go_wp2_with (first
    | (go_at_call 111; with_reducible refine (C _).mono ?_; rintro e w1 ⟨rfl, b1⟩; have X1 := X.below b1; have o0 := X1.op; obtain ⟨a0, a1, a2, _⟩ := X1.a.out; obtain ⟨d0, d1, d2, _⟩ := X1.b.out; obtain ⟨r0, r1, r2, f0, f1, f2⟩ := X1.r.out; have B1 := below_new4 b1)
    | fail)
  refine bodyPost_ret (by simp [results, Tryz.results80, go_sem, r0, r1, r2]; try rfl) rfl ?_
  exact ⟨rfl, by go_grown⟩

set_option maxHeartbeats 800000 in
theorem binary_cat (op : Int) (a b : Val) (w : World) (h : op = 16) (h0 : a.k ≠ 0) (h3 : b.k ≠ 0) (hl : a.s.size + b.s.size ≤ maxLen) (hf : fitV op a b = true) :
    Calls Tryz.prog 80 #[.int .i64 op, a.v, b.v] w fun e w' => e = .returned (joinV a.s b.s).out ∧ Below w.heap.size w w' := by
  obtain ⟨k1, n1, s1⟩ := a
  obtain ⟨k2, n2, s2⟩ := b
  have X := boxes4 w op k1 n1 k2 n2 s1 s2
  have C := fun w => fit_any op ⟨k1, n1, s1⟩ ⟨k2, n2, s2⟩ w (by omega)
  rw [hf] at C
  clear hf
  unfold Val.v at *
  simp only [] at *
  have e0 : (k1 == 0) = false := beq_eq_false_iff_ne.2 h0
  have e1 : (k2 == 0) = false := beq_eq_false_iff_ne.2 h3
  have D := fun w => joined_any s1 s2 w hl
  clear h0 h3 hl
  subst h
  rw [Ans.out_eq] at *
  generalize joinV s1 s2 = r at *
  obtain ⟨⟨k', n', s'⟩, er⟩ := r
  simp only [] at *
  go_enter Tryz.func80, Tryz.ntmps80
  go_wp2_with (first
    | (go_at_call 111; with_reducible refine (C _).mono ?_; rintro e w1 ⟨rfl, b1⟩; have X1 := X.below b1; have o0 := X1.op; obtain ⟨a0, a1, a2, _⟩ := X1.a.out; obtain ⟨d0, d1, d2, _⟩ := X1.b.out; obtain ⟨r0, r1, r2, f0, f1, f2⟩ := X1.r.out; have B1 := below_new4 b1)
    | (go_at_call 116; with_reducible refine (D _).mono ?_; rintro e w2 ⟨rfl, b2⟩; obtain ⟨r0, r1, r2, f0, f1, f2⟩ := (X1.below b2).r.out; have B2 := B1.trans (b2.mono B1.size)))
  refine bodyPost_ret (by simp [results, Tryz.results80, go_sem, r0, r1, r2]; try rfl) rfl ?_
  exact ⟨rfl, by go_grown⟩
end Go.Proofs.YtblkhlhhlalbkaaGreatDoor
namespace Go.Proofs.YtblkhlhhlalbkaaGreatDoor
open Go.RowKit Go.Lib Go.Sort
set_option linter.unusedVariables false
set_option maxRecDepth 20000

set_option maxHeartbeats 2000000 in
theorem binary_cmp (op : Int) (a b : Val) (w : World) (h1 : 5 ≤ op) (h2 : op ≤ 10) (h0 : a.k ≠ 0) (h3 : b.k ≠ 0) (hf : fitV op a b = true) :
    Calls Tryz.prog 80 #[.int .i64 op, a.v, b.v] w fun e w' => e = .returned (⟨truthV (holdsV op (cmpV a b)), 0⟩ : Ans).out ∧ Below w.heap.size w w' := by
  obtain ⟨k1, n1, s1⟩ := a
  obtain ⟨k2, n2, s2⟩ := b
  have X := boxes4 w op k1 n1 k2 n2 s1 s2
  have C := fun w => fit_any op ⟨k1, n1, s1⟩ ⟨k2, n2, s2⟩ w (by omega)
  rw [hf] at C
  clear hf
  have e0 : (k1 == 0) = false := beq_eq_false_iff_ne.2 h0
  have e1 : (k2 == 0) = false := beq_eq_false_iff_ne.2 h3
  have D := fun w => compare_any ⟨k1, n1, s1⟩ ⟨k2, n2, s2⟩ w
  generalize cmpV ⟨k1, n1, s1⟩ ⟨k2, n2, s2⟩ = c at *
  have E := fun w => holds_any op c w
  have F := fun w => kTruth_any (holdsV op c) w
  generalize holdsV op c = t at *
  unfold Val.v at *
  simp only [] at *
  clear h0 h3
  have key : (⟨truthV t, 0⟩ : Ans).out = .tuple #[.agg #[.int .i64 1, .int .i64 (if t then 1 else 0), .string ⟨#[]⟩], .int .i64 0] := by cases t <;> rfl
  rw [key]
  clear key
  generalize (if t then 1 else 0 : Int) = z at *
  go_enter Tryz.func80, Tryz.ntmps80
  go_wp2_with (go_at_call 111; with_reducible refine (C _).mono ?_; rintro e w1 ⟨rfl, b1⟩; have X1 := X.below b1; have o0 := X1.op; obtain ⟨a0, a1, a2, _⟩ := X1.a.out; obtain ⟨d0, d1, d2, _⟩ := X1.b.out; obtain ⟨r0, r1, r2, f0, f1, f2⟩ := X1.r.out; have B1 := below_new4 b1)
  have X1d : Boxes w1.drew w.heap.size op ⟨k1, n1, s1⟩ ⟨k2, n2, s2⟩ ⟨0, 0, ⟨#[]⟩⟩ := X1.below ((Below.refl _ _).drew)
  have B1d : Below w.heap.size w w1.drew := B1.drew
  go_region_with (first
    | (go_at_call 115; with_reducible refine (D _).mono ?_; rintro e w2 ⟨rfl, b2⟩; have X2 := X1d.below b2; have o0 := X2.op; have B2 := B1d.trans (b2.mono B1d.size))
    | (go_at_call 114; with_reducible refine (E _).mono ?_; rintro e w3 ⟨rfl, rfl⟩)
    | (go_at_call 105; with_reducible refine (F _).mono ?_; rintro e w3 ⟨rfl, b3⟩; obtain ⟨r0, r1, r2, f0, f1, f2⟩ := (X2.below b3).r.out; have B3 := B2.trans (b3.mono B2.size)))
  all_goals
    go_wp2
    refine bodyPost_ret (by simp [results, Tryz.results80, go_sem, r0, r1, r2]; try rfl) rfl ?_
    exact ⟨rfl, by go_grown⟩
end Go.Proofs.YtblkhlhhlalbkaaGreatDoor
namespace Go.Proofs.YtblkhlhhlalbkaaGreatDoor
open Go.RowKit Go.Lib Go.Sort
set_option linter.unusedVariables false
set_option maxRecDepth 20000

theorem enters_binary1 (args : Array Value) (w : World) : (callFunc 117 args).run Tryz.prog w = .ok (.enter 117 args) w := by
  first | (simp [go_sem]; done) | kernel_rfl

set_option maxHeartbeats 400000 in
theorem binary1_any (b : Nat) (op : Int) (x y r : Val) (w : World) (hB : Boxes w b op x y r) (h1 : 11 ≤ op) (h2 : op ≤ 15) (hx : inR x.n) (hy : inR y.n) :
    Calls Tryz.prog 117 #[.pointer (some ⟨b, 0, none⟩), .pointer (some ⟨b + 1, 0, none⟩), .pointer (some ⟨b + 1 + 1, 0, none⟩)] w fun e w' => endA (sumV op x.n y.n) e ∧ Below w.heap.size w w' := by
  obtain ⟨k1, n1, s1⟩ := x
  obtain ⟨k2, n2, s2⟩ := y
  have Q := fun w => sum_any op n1 n2 w h1 h2 hx hy
  have hB' := hB.below ((Below.refl _ _).alloc (Nat.le_refl _) (.cells #[.int .i64 0, .int .i64 0, .string ⟨#[]⟩] 23))
  have o0 := hB'.op
  obtain ⟨a0, a1, a2, _⟩ := hB'.a.out
  obtain ⟨d0, d1, d2, _⟩ := hB'.b.out
  simp only [] at *
  generalize sumV op n1 n2 = x at *
  clear hB hB' hx hy h1 h2
  obtain ⟨⟨k', n', s'⟩, er⟩ := x
  go_enter Tryz.func117, Tryz.ntmps117
  go_wp2_with fail
  refine (Q _).mono ?_
  rintro e w1 ⟨he, b1⟩
  obtain ⟨r0, r1, r2, f0, f1, f2⟩ := cells3 b1
  have B1 := below_new b1
  have he' := he
  rcases endA_out he with rfl | ⟨rfl, hv, hx⟩
  · go_wp2
    refine bodyPost_ret (by simp [results, Tryz.results117, go_sem, r0, r1, r2]; try rfl) rfl ?_
    exact ⟨Or.inl rfl, by go_grown⟩
  · go_wp2
    exact ⟨rfl, Or.inr ⟨rfl, hv, hx⟩, by go_grown⟩

set_option maxHeartbeats 800000 in
theorem binary_sum (op : Int) (a b : Val) (w : World) (h1 : 11 ≤ op) (h2 : op ≤ 15) (h0 : a.k ≠ 0) (h3 : b.k ≠ 0) (hx : inR a.n) (hy : inR b.n) (hf : fitV op a b = true) :
    Calls Tryz.prog 80 #[.int .i64 op, a.v, b.v] w fun e w' => e = .returned (sumV op a.n b.n).out ∧ Below w.heap.size w w' := by
  have hmf : ∀ (fn : Fn) (first cap : Array Value) (w : World), (Instr.makeFunc fn first cap).run Tryz.prog w = .ok (.func fn first cap) w := fun _ _ _ _ => rfl
  obtain ⟨k1, n1, s1⟩ := a
  obtain ⟨k2, n2, s2⟩ := b
  have X := boxes4 w op k1 n1 k2 n2 s1 s2
  have C := fun w => fit_any op ⟨k1, n1, s1⟩ ⟨k2, n2, s2⟩ w (by omega)
  rw [hf] at C
  clear hf
  have e0 : (k1 == 0) = false := beq_eq_false_iff_ne.2 h0
  have e1 : (k2 == 0) = false := beq_eq_false_iff_ne.2 h3
  have Q : Hid (∀ w1, Boxes w1 w.heap.size op ⟨k1, n1, s1⟩ ⟨k2, n2, s2⟩ ⟨0, 0, ⟨#[]⟩⟩ → Calls Tryz.prog 107 #[.func (.func 117) #[] #[.pointer (some ⟨w.heap.size, 0, none⟩), .pointer (some ⟨w.heap.size + 1, 0, none⟩), .pointer (some ⟨w.heap.size + 1 + 1, 0, none⟩)]] w1 fun e w' => e = .returned (.tuple #[.agg #[.int .i64 (sumV op n1 n2).v.k, .int .i64 (sumV op n1 n2).v.n, .string (sumV op n1 n2).v.s], .int .i64 (sumV op n1 n2).e]) ∧ Below w1.heap.size w1 w') :=
    fun w1 hw1 => caught_any 117 _ (sumV op n1 n2) _ (enters_binary1 _) (fun w0 b0 => binary1_any w.heap.size op _ _ _ w0 (hw1.below b0) h1 h2 hx hy)
  unfold Val.v at *
  rw [Ans.out_eq]
  simp only [] at *
  generalize sumV op n1 n2 = r at *
  obtain ⟨⟨k', n', s'⟩, er⟩ := r
  simp only [] at *
  clear h0 h3 hx hy
  go_enter Tryz.func80, Tryz.ntmps80
  go_wp2_with (first
    | (go_at_call 111; with_reducible refine (C _).mono ?_; rintro e w1 ⟨rfl, b1⟩; have X1 := X.below b1; have o0 := X1.op; obtain ⟨a0, a1, a2, _⟩ := X1.a.out; obtain ⟨d0, d1, d2, _⟩ := X1.b.out; obtain ⟨r0, r1, r2, f0, f1, f2⟩ := X1.r.out; have B1 := below_new4 b1)
    | (go_at_call 107; with_reducible refine (Q.out _ X1).mono ?_; rintro e w2 ⟨rfl, b2⟩; obtain ⟨r0, r1, r2, f0, f1, f2⟩ := (X1.below b2).r.out; have B2 := B1.trans (b2.mono B1.size)))
  refine bodyPost_ret (by simp [results, Tryz.results80, go_sem, r0, r1, r2]; try rfl) rfl ?_
  exact ⟨rfl, by go_grown⟩

theorem binary_any (op : Int) (a b : Val) (w : World) (hx : inR a.n) (hy : inR b.n) (hl : a.s.size + b.s.size ≤ maxLen) :
    Calls Tryz.prog 80 #[.int .i64 op, a.v, b.v] w fun e w' => e = .returned (binV op a b).out ∧ Below w.heap.size w w' := by
  unfold binV
  by_cases h1 : op < 3 ∨ 16 < op
  · rw [if_pos h1]; exact binary_kind op a b w h1
  rw [if_neg h1]
  cases hf : fitV op a b
  · rw [if_pos rfl]; exact binary_type op a b w (by omega) (by omega) hf
  rw [if_neg (by decide)]
  by_cases h4 : op = 4
  · rw [if_pos h4]; exact binary_and op a b w h4 hf
  rw [if_neg h4]
  by_cases h3 : op = 3
  · rw [if_pos h3]; exact binary_or op a b w h3 hf
  rw [if_neg h3]
  by_cases ha : a.k = 0
  · rw [if_pos (Or.inl ha)]; exact binary_null1 op a b w (by omega) (by omega) ha hf
  by_cases hb : b.k = 0
  · rw [if_pos (Or.inr hb)]; exact binary_null2 op a b w (by omega) (by omega) ha hb hf
  rw [if_neg (by omega)]
  by_cases h10 : op ≤ 10
  · rw [if_pos h10]; exact binary_cmp op a b w (by omega) h10 ha hb hf
  rw [if_neg h10]
  by_cases h16 : op = 16
  · rw [if_pos h16]; exact binary_cat op a b w h16 ha hb hl hf
  rw [if_neg h16]
  exact binary_sum op a b w (by omega) (by omega) ha hb hx hy hf
end Go.Proofs.YtblkhlhhlalbkaaGreatDoor
