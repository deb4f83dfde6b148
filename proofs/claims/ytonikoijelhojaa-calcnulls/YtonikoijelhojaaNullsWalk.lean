/- The law CalcNulls returns true and writes nothing that was there. Conditions: the numbers are within the numbers, the text's length is Go's. -/
import Derived.Test.YtonikoijelhojaaCalcWorks
import Derived.Test.YtonikoijelhojaaBoxMore
import Derived.Test.YtonikoijelhojaaCalcRight
import Derived.Deep.CutRange
namespace Go.Proofs.Ytonikoijelhojaa
open Go.RowKit Go.Lib Go.Sort
set_option linter.unusedVariables false

theorem rowOf1 (w : World) (k n : Int) (s : ByteArray) (t : TypeId) :
    Row (w.alloc (.cells #[.int .i64 k, .int .i64 n, .string s] t)) (some ⟨w.heap.size, 0, none⟩) [⟨k, n, s⟩] := by
  refine Or.inr ⟨_, _, rfl, fun i hi => ?_⟩
  have : i = 0 := by simp at hi; omega
  subst this
  refine ⟨?_, ?_, ?_⟩ <;> go_simp

theorem right1 (k n : Int) (s : ByteArray) (w : World) :
    Calls Try.prog 9 #[.slice (some ⟨w.heap.size, 0, none⟩) 1 1] (w.alloc (.cells #[.int .i64 k, .int .i64 n, .string s] 23)) fun e w' => e = .returned (.bool (rightV ⟨k, n, s⟩)) ∧ Below (w.alloc (.cells #[.int .i64 k, .int .i64 n, .string s] 23)).heap.size (w.alloc (.cells #[.int .i64 k, .int .i64 n, .string s] 23)) w' := by
  have := right_any [⟨k, n, s⟩] (some ⟨w.heap.size, 0, none⟩) 1 _ (by unfold maxLen; simp) (rowOf1 w k n s 23)
  simpa using this

theorem eqb_val {k n k' n' : Int} {s : ByteArray} (h : eqv k n s k' n' ⟨#[]⟩ = true) : k = k' ∧ n = n' ∧ s = ⟨#[]⟩ := by
  obtain ⟨⟨l⟩⟩ := s
  simp [eqv] at h
  obtain ⟨h1, h2, h3⟩ := h
  subst h3
  exact ⟨h1, h2, rfl⟩

theorem binV_type {op : Int} {a b : Val} (h1 : 3 ≤ op) (h2 : op ≤ 16) (hf : fitV op a b = false) : binV op a b = ⟨nullV, 35⟩ := by
  unfold binV
  rw [if_neg (by omega), if_pos hf]
theorem binV_pass {op : Int} {a b : Val} (h1 : 3 ≤ op) (h2 : op ≤ 16) (hf : fitV op a b = true) : binV op a b =
    if op = 4 then ⟨andV a b, 0⟩ else if op = 3 then ⟨orV a b, 0⟩ else if a.k = 0 ∨ b.k = 0 then ⟨nullV, 0⟩ else
    if op ≤ 10 then ⟨truthV (holdsV op (cmpV a b)), 0⟩ else if op = 16 then joinV a.s b.s else sumV op a.n b.n := by
  unfold binV
  rw [if_neg (by omega), if_neg (by rw [hf]; decide)]

/-- What an operator makes of a value and NULL, whichever comes first. -/
theorem nulls_bin (op : Int) (v : Val) (h1 : 3 ≤ op) (h2 : op ≤ 16) :
    (binV op v nullV = ⟨nullV, 35⟩ ∧ binV op nullV v = ⟨nullV, 35⟩) ∨
    (op = 4 ∧ v.eqb (truthV false) = true ∧ binV op v nullV = ⟨truthV false, 0⟩ ∧ binV op nullV v = ⟨truthV false, 0⟩) ∨
    (op = 3 ∧ v.eqb (truthV true) = true ∧ binV op v nullV = ⟨truthV true, 0⟩ ∧ binV op nullV v = ⟨truthV true, 0⟩) ∨
    ((op = 4 → v.eqb (truthV false) = false) ∧ (op = 3 → v.eqb (truthV true) = false) ∧ binV op v nullV = ⟨nullV, 0⟩ ∧ binV op nullV v = ⟨nullV, 0⟩) := by
  have z : nullV.k = 0 := rfl
  have hn : ∀ k, nullOrV k nullV = true := fun k => rfl
  have hfit : fitV op nullV v = fitV op v nullV := by
    unfold fitV
    rw [hn, hn, hn, hn]
    simp only [Bool.true_and, Bool.and_true]
    split
    · rfl
    · split
      · simp [nullV, nullOrV]
      · rfl
  cases hf : fitV op v nullV
  · left
    exact ⟨binV_type h1 h2 hf, binV_type h1 h2 (hfit.trans hf)⟩
  · right
    rw [binV_pass h1 h2 hf, binV_pass h1 h2 (hfit.trans hf)]
    have n0 : ∀ b, nullV.eqb (truthV b) = false := fun b => by cases b <;> rfl
    by_cases h4 : op = 4
    · rw [if_pos h4, if_pos h4]
      unfold andV
      rw [n0, Bool.or_false, Bool.false_or]
      cases hv : v.eqb (truthV false)
      · right; right
        refine ⟨fun _ => rfl, fun h => by omega, ?_, ?_⟩
        · rw [if_neg (by decide), if_pos (Or.inr z)]
        · rw [if_neg (by decide), if_pos (Or.inl z)]
      · left
        exact ⟨h4, rfl, rfl, rfl⟩
    · rw [if_neg h4, if_neg h4]
      by_cases h3 : op = 3
      · rw [if_pos h3, if_pos h3]
        unfold orV
        rw [n0, Bool.or_false, Bool.false_or]
        cases hv : v.eqb (truthV true)
        · right; right
          refine ⟨fun h => by omega, fun _ => rfl, ?_, ?_⟩
          · rw [if_neg (by decide), if_pos (Or.inr z)]
          · rw [if_neg (by decide), if_pos (Or.inl z)]
        · right; left
          exact ⟨h3, rfl, rfl, rfl⟩
      · rw [if_neg h3, if_neg h3, if_pos (Or.inr z), if_pos (Or.inl z)]
        right; right
        exact ⟨fun h => absurd h h4, fun h => absurd h h3, rfl, rfl⟩

theorem bin_lit (op k1 n1 k2 n2 k n e : Int) (s1 s2 s : ByteArray) (h : binV op ⟨k1, n1, s1⟩ ⟨k2, n2, s2⟩ = ⟨⟨k, n, s⟩, e⟩) (h1 : inR n1) (h2 : inR n2) (hl : s1.size + s2.size ≤ maxLen) (w : World) :
    Calls Try.prog 10 #[.int .i64 op, .agg #[.int .i64 k1, .int .i64 n1, .string s1], .agg #[.int .i64 k2, .int .i64 n2, .string s2]] w fun x w' => x = .returned (.tuple #[.agg #[.int .i64 k, .int .i64 n, .string s], .int .i64 e]) ∧ Below w.heap.size w w' := by
  have := binary_any op ⟨k1, n1, s1⟩ ⟨k2, n2, s2⟩ w h1 h2 hl
  rw [h] at this
  exact this
theorem un_lit (op k1 n1 k n e : Int) (s1 s : ByteArray) (h : unV op ⟨k1, n1, s1⟩ = ⟨⟨k, n, s⟩, e⟩) (h1 : inR n1) (w : World) :
    Calls Try.prog 12 #[.int .i64 op, .agg #[.int .i64 k1, .int .i64 n1, .string s1]] w fun x w' => x = .returned (.tuple #[.agg #[.int .i64 k, .int .i64 n, .string s], .int .i64 e]) ∧ Below w.heap.size w w' := by
  have := unary_any op ⟨k1, n1, s1⟩ w h1
  rw [h] at this
  exact this

set_option maxHeartbeats 8000000 in
theorem nulls_walk (op0 : Int) (v : Val) (w : World) (hop : inR op0) (hn : inR v.n) (hs : v.s.size ≤ maxLen) :
    Calls Try.prog 8 #[.int .i64 op0, v.v] w fun e w' => e = .returned (.bool true) ∧ Below w.heap.size w w' := by
  obtain ⟨k, n, s⟩ := v
  have RR := fun w => right1 k n s w
  have U1 := un_lit 2 0 0 0 0 0 ⟨#[]⟩ ⟨#[]⟩ rfl (by decide)
  have U2 := un_lit 1 0 0 0 0 0 ⟨#[]⟩ ⟨#[]⟩ rfl (by decide)
  have he := run_eqv
  have hne := run_neqv
  have B := Below.refl w.heap.size w
  unfold Val.v
  simp only [] at *
  cases hr : rightV ⟨k, n, s⟩
  · rw [hr] at RR
    go_enter Try.func8, Try.ntmps8
    go_wp2_with (first
      | (go_at_call 21; with_reducible refine (works_any _).mono ?_; rintro e wn ⟨rfl, bn⟩; (first | replace B := B.trans (bn.mono B.size) | replace B := B.trans ((below_new bn).mono B.size) | replace B := B.trans ((below_new2 bn).mono B.size)); (first | replace A := A.below bn | replace A := (A.alloc _).below bn | have A := (Box.new _ k n s 23).below bn | skip); obtain ⟨a0, a1, a2, al⟩ := A.get)
      | (go_at_call 9; with_reducible refine (RR _).mono ?_; rintro e wn ⟨rfl, bn⟩; (first | replace B := B.trans (bn.mono B.size) | replace B := B.trans ((below_new bn).mono B.size) | replace B := B.trans ((below_new2 bn).mono B.size)))
      | fail)
    go_ret
    exact ⟨rfl, B⟩
  · rw [hr] at RR
    go_enter Try.func8, Try.ntmps8
    go_upto_region 5 with (first
      | (go_at_call 21; with_reducible refine (works_any _).mono ?_; rintro e wn ⟨rfl, bn⟩; (first | replace B := B.trans (bn.mono B.size) | replace B := B.trans ((below_new bn).mono B.size) | replace B := B.trans ((below_new2 bn).mono B.size)); (first | replace A := A.below bn | replace A := (A.alloc _).below bn | have A := (Box.new _ k n s 23).below bn | skip); obtain ⟨a0, a1, a2, al⟩ := A.get)
      | (go_at_call 9; with_reducible refine (RR _).mono ?_; rintro e wn ⟨rfl, bn⟩; (first | replace B := B.trans (bn.mono B.size) | replace B := B.trans ((below_new bn).mono B.size) | replace B := B.trans ((below_new2 bn).mono B.size)); (first | replace A := A.below bn | replace A := (A.alloc _).below bn | have A := (Box.new _ k n s 23).below bn | skip))
      | fail)
    clear bn
    generalize hW : wn = W at *
    clear hW
    obtain ⟨i1, i2⟩ := hop
    go_cut [0] from 19 to 23 (fun s0 wx => ∃ o : Int, s0 = .int .i64 o ∧ 3 ≤ o ∧ o ≤ 16 ∧ W = wx)
    case first =>
      go_wp2
      go_meet
      case rel =>
        have z0 : 0 ≤ IntKind.u64.wrap op0 := by rw [IntKind.wrap_u64]; omega
        have t0 := Int.tmod_nonneg 14 z0
        have t1 := Int.tmod_lt_of_pos (IntKind.u64.wrap op0) (b := 14) (by decide)
        generalize (IntKind.u64.wrap op0).tmod 14 = z at *
        exact ⟨_, rfl, by unfold wrap64; omega, by unfold wrap64; omega, rfl⟩
    case rest =>
    obtain ⟨o, rfl, o1, o2, rfl⟩ := hcut
    have hl1 : s.size + (⟨#[]⟩ : ByteArray).size ≤ maxLen := hs
    have hl2 : (⟨#[]⟩ : ByteArray).size + s.size ≤ maxLen := by rw [Nat.add_comm]; exact hs
    have h00 : inR 0 := by decide
    have q0 := eqv_same 0 0 ⟨#[]⟩
    clear i1 i2 hr RR
    obtain ⟨a0, a1, a2, al⟩ := A.get
    rcases nulls_bin o ⟨k, n, s⟩ o1 o2 with ⟨e1, e2⟩ | ⟨rfl, hv, e1, e2⟩ | ⟨rfl, hv, e1, e2⟩ | ⟨h4, h3, e1, e2⟩
    · have C1 := bin_lit o k n 0 0 0 0 35 s ⟨#[]⟩ ⟨#[]⟩ e1 hn h00 hl1
      have C2 := bin_lit o 0 0 k n 0 0 35 ⟨#[]⟩ s ⟨#[]⟩ e2 h00 hn hl2
      clear e1 e2 hl1 hl2 hn hs h00
      go_wp2_with (first
        | (go_at_call 10; with_reducible refine (C1 _).mono ?_; rintro e wn ⟨rfl, bn⟩; (first | replace B := B.trans (bn.mono B.size) | replace B := B.trans ((below_new bn).mono B.size)); (first | replace A := A.below bn | replace A := (A.alloc _).below bn); obtain ⟨a0, a1, a2, al⟩ := A.get)
        | (go_at_call 10; with_reducible refine (C2 _).mono ?_; rintro e wn ⟨rfl, bn⟩; have X := (Box.new _ 0 0 ⟨#[]⟩ 23).below bn; replace B := B.trans ((below_new bn).mono B.size); replace A := (A.alloc _).below bn)
        | (go_at_call 12; with_reducible refine (U1 _).mono ?_; rintro e wn ⟨rfl, bn⟩; have Y := (Box.new _ 0 0 ⟨#[]⟩ 23).below bn; replace X := (X.alloc _).below bn; replace B := B.trans ((below_new bn).mono B.size); replace A := (A.alloc _).below bn)
        | (go_at_call 12; with_reducible refine (U2 _).mono ?_; rintro e wn ⟨rfl, bn⟩; have M := (Box.new _ 0 0 ⟨#[]⟩ 23).below bn; replace Y := (Y.alloc _).below bn; replace X := (X.alloc _).below bn; replace B := B.trans ((below_new bn).mono B.size); replace A := (A.alloc _).below bn; obtain ⟨a0, a1, a2, al⟩ := A.get; obtain ⟨x0, x1, x2, xl⟩ := X.get; obtain ⟨y0, y1, y2, yl⟩ := Y.get; obtain ⟨m0, m1, m2, ml⟩ := M.get)
        | fail)
      go_ret
      exact ⟨rfl, B.alloc B.size _⟩
    · obtain ⟨rfl, rfl, rfl⟩ : k = 1 ∧ n = 0 ∧ s = ⟨#[]⟩ := eqb_val hv
      have C1 := bin_lit 4 1 0 0 0 1 0 0 ⟨#[]⟩ ⟨#[]⟩ ⟨#[]⟩ e1 hn h00 hl1
      have C2 := bin_lit 4 0 0 1 0 1 0 0 ⟨#[]⟩ ⟨#[]⟩ ⟨#[]⟩ e2 h00 hn hl2
      have q1 := eqv_same 1 0 ⟨#[]⟩
      clear e1 e2 hl1 hl2 hn hs h00 hv
      go_wp2_with (first
        | (go_at_call 10; with_reducible refine (C1 _).mono ?_; rintro e wn ⟨rfl, bn⟩; (first | replace B := B.trans (bn.mono B.size) | replace B := B.trans ((below_new bn).mono B.size)); (first | replace A := A.below bn | replace A := (A.alloc _).below bn); obtain ⟨a0, a1, a2, al⟩ := A.get)
        | (go_at_call 10; with_reducible refine (C2 _).mono ?_; rintro e wn ⟨rfl, bn⟩; have X := (Box.new _ 1 0 ⟨#[]⟩ 23).below bn; replace B := B.trans ((below_new bn).mono B.size); replace A := (A.alloc _).below bn)
        | (go_at_call 12; with_reducible refine (U1 _).mono ?_; rintro e wn ⟨rfl, bn⟩; have Y := (Box.new _ 1 0 ⟨#[]⟩ 23).below bn; replace X := (X.alloc _).below bn; replace B := B.trans ((below_new bn).mono B.size); replace A := (A.alloc _).below bn)
        | (go_at_call 12; with_reducible refine (U2 _).mono ?_; rintro e wn ⟨rfl, bn⟩; have M := (Box.new _ 0 0 ⟨#[]⟩ 23).below bn; replace Y := (Y.alloc _).below bn; replace X := (X.alloc _).below bn; replace B := B.trans ((below_new bn).mono B.size); replace A := (A.alloc _).below bn; obtain ⟨a0, a1, a2, al⟩ := A.get; obtain ⟨x0, x1, x2, xl⟩ := X.get; obtain ⟨y0, y1, y2, yl⟩ := Y.get; obtain ⟨m0, m1, m2, ml⟩ := M.get)
        | fail)
      go_ret
      exact ⟨rfl, B.alloc B.size _⟩
    · obtain ⟨rfl, rfl, rfl⟩ : k = 1 ∧ n = 1 ∧ s = ⟨#[]⟩ := eqb_val hv
      have C1 := bin_lit 3 1 1 0 0 1 1 0 ⟨#[]⟩ ⟨#[]⟩ ⟨#[]⟩ e1 hn h00 hl1
      have C2 := bin_lit 3 0 0 1 1 1 1 0 ⟨#[]⟩ ⟨#[]⟩ ⟨#[]⟩ e2 h00 hn hl2
      have q1 := eqv_same 1 1 ⟨#[]⟩
      clear e1 e2 hl1 hl2 hn hs h00 hv
      go_wp2_with (first
        | (go_at_call 10; with_reducible refine (C1 _).mono ?_; rintro e wn ⟨rfl, bn⟩; (first | replace B := B.trans (bn.mono B.size) | replace B := B.trans ((below_new bn).mono B.size)); (first | replace A := A.below bn | replace A := (A.alloc _).below bn); obtain ⟨a0, a1, a2, al⟩ := A.get)
        | (go_at_call 10; with_reducible refine (C2 _).mono ?_; rintro e wn ⟨rfl, bn⟩; have X := (Box.new _ 1 1 ⟨#[]⟩ 23).below bn; replace B := B.trans ((below_new bn).mono B.size); replace A := (A.alloc _).below bn)
        | (go_at_call 12; with_reducible refine (U1 _).mono ?_; rintro e wn ⟨rfl, bn⟩; have Y := (Box.new _ 1 1 ⟨#[]⟩ 23).below bn; replace X := (X.alloc _).below bn; replace B := B.trans ((below_new bn).mono B.size); replace A := (A.alloc _).below bn)
        | (go_at_call 12; with_reducible refine (U2 _).mono ?_; rintro e wn ⟨rfl, bn⟩; have M := (Box.new _ 0 0 ⟨#[]⟩ 23).below bn; replace Y := (Y.alloc _).below bn; replace X := (X.alloc _).below bn; replace B := B.trans ((below_new bn).mono B.size); replace A := (A.alloc _).below bn; obtain ⟨a0, a1, a2, al⟩ := A.get; obtain ⟨x0, x1, x2, xl⟩ := X.get; obtain ⟨y0, y1, y2, yl⟩ := Y.get; obtain ⟨m0, m1, m2, ml⟩ := M.get)
        | fail)
      go_ret
      exact ⟨rfl, B.alloc B.size _⟩
    · have C1 := bin_lit o k n 0 0 0 0 0 s ⟨#[]⟩ ⟨#[]⟩ e1 hn h00 hl1
      have C2 := bin_lit o 0 0 k n 0 0 0 ⟨#[]⟩ s ⟨#[]⟩ e2 h00 hn hl2
      clear e1 e2 hl1 hl2 hn hs h00
      by_cases g4 : o = 4
      · have f4 : eqv k n s 1 0 ⟨#[]⟩ = false := h4 g4
        subst g4
        clear h4 h3
        go_wp2_with (first
          | (go_at_call 10; with_reducible refine (C1 _).mono ?_; rintro e wn ⟨rfl, bn⟩; (first | replace B := B.trans (bn.mono B.size) | replace B := B.trans ((below_new bn).mono B.size)); (first | replace A := A.below bn | replace A := (A.alloc _).below bn); obtain ⟨a0, a1, a2, al⟩ := A.get)
          | (go_at_call 10; with_reducible refine (C2 _).mono ?_; rintro e wn ⟨rfl, bn⟩; have X := (Box.new _ 0 0 ⟨#[]⟩ 23).below bn; replace B := B.trans ((below_new bn).mono B.size); replace A := (A.alloc _).below bn)
          | (go_at_call 12; with_reducible refine (U1 _).mono ?_; rintro e wn ⟨rfl, bn⟩; have Y := (Box.new _ 0 0 ⟨#[]⟩ 23).below bn; replace X := (X.alloc _).below bn; replace B := B.trans ((below_new bn).mono B.size); replace A := (A.alloc _).below bn)
          | (go_at_call 12; with_reducible refine (U2 _).mono ?_; rintro e wn ⟨rfl, bn⟩; have M := (Box.new _ 0 0 ⟨#[]⟩ 23).below bn; replace Y := (Y.alloc _).below bn; replace X := (X.alloc _).below bn; replace B := B.trans ((below_new bn).mono B.size); replace A := (A.alloc _).below bn; obtain ⟨a0, a1, a2, al⟩ := A.get; obtain ⟨x0, x1, x2, xl⟩ := X.get; obtain ⟨y0, y1, y2, yl⟩ := Y.get; obtain ⟨m0, m1, m2, ml⟩ := M.get)
          | fail)
        go_ret
        exact ⟨rfl, B.alloc B.size _⟩
      · by_cases g3 : o = 3
        · have f3 : eqv k n s 1 1 ⟨#[]⟩ = false := h3 g3
          subst g3
          clear h4 h3 g4
          go_wp2_with (first
            | (go_at_call 10; with_reducible refine (C1 _).mono ?_; rintro e wn ⟨rfl, bn⟩; (first | replace B := B.trans (bn.mono B.size) | replace B := B.trans ((below_new bn).mono B.size)); (first | replace A := A.below bn | replace A := (A.alloc _).below bn); obtain ⟨a0, a1, a2, al⟩ := A.get)
            | (go_at_call 10; with_reducible refine (C2 _).mono ?_; rintro e wn ⟨rfl, bn⟩; have X := (Box.new _ 0 0 ⟨#[]⟩ 23).below bn; replace B := B.trans ((below_new bn).mono B.size); replace A := (A.alloc _).below bn)
            | (go_at_call 12; with_reducible refine (U1 _).mono ?_; rintro e wn ⟨rfl, bn⟩; have Y := (Box.new _ 0 0 ⟨#[]⟩ 23).below bn; replace X := (X.alloc _).below bn; replace B := B.trans ((below_new bn).mono B.size); replace A := (A.alloc _).below bn)
            | (go_at_call 12; with_reducible refine (U2 _).mono ?_; rintro e wn ⟨rfl, bn⟩; have M := (Box.new _ 0 0 ⟨#[]⟩ 23).below bn; replace Y := (Y.alloc _).below bn; replace X := (X.alloc _).below bn; replace B := B.trans ((below_new bn).mono B.size); replace A := (A.alloc _).below bn; obtain ⟨a0, a1, a2, al⟩ := A.get; obtain ⟨x0, x1, x2, xl⟩ := X.get; obtain ⟨y0, y1, y2, yl⟩ := Y.get; obtain ⟨m0, m1, m2, ml⟩ := M.get)
            | fail)
          go_ret
          exact ⟨rfl, B.alloc B.size _⟩
        · have d4 : (o == 4) = false := beq_eq_false_iff_ne.2 g4
          have d3 : (o == 3) = false := beq_eq_false_iff_ne.2 g3
          clear h4 h3 g4 g3
          go_wp2_with (first
            | (go_at_call 10; with_reducible refine (C1 _).mono ?_; rintro e wn ⟨rfl, bn⟩; (first | replace B := B.trans (bn.mono B.size) | replace B := B.trans ((below_new bn).mono B.size)); (first | replace A := A.below bn | replace A := (A.alloc _).below bn); obtain ⟨a0, a1, a2, al⟩ := A.get)
            | (go_at_call 10; with_reducible refine (C2 _).mono ?_; rintro e wn ⟨rfl, bn⟩; have X := (Box.new _ 0 0 ⟨#[]⟩ 23).below bn; replace B := B.trans ((below_new bn).mono B.size); replace A := (A.alloc _).below bn)
            | (go_at_call 12; with_reducible refine (U1 _).mono ?_; rintro e wn ⟨rfl, bn⟩; have Y := (Box.new _ 0 0 ⟨#[]⟩ 23).below bn; replace X := (X.alloc _).below bn; replace B := B.trans ((below_new bn).mono B.size); replace A := (A.alloc _).below bn)
            | (go_at_call 12; with_reducible refine (U2 _).mono ?_; rintro e wn ⟨rfl, bn⟩; have M := (Box.new _ 0 0 ⟨#[]⟩ 23).below bn; replace Y := (Y.alloc _).below bn; replace X := (X.alloc _).below bn; replace B := B.trans ((below_new bn).mono B.size); replace A := (A.alloc _).below bn; obtain ⟨a0, a1, a2, al⟩ := A.get; obtain ⟨x0, x1, x2, xl⟩ := X.get; obtain ⟨y0, y1, y2, yl⟩ := Y.get; obtain ⟨m0, m1, m2, ml⟩ := M.get)
            | fail)
          go_ret
          exact ⟨rfl, B.alloc B.size _⟩
end Go.Proofs.Ytonikoijelhojaa
