/- What the laws' own helpers answer: right, number, gathered, works. Conditions: numbers within the numbers, texts within the reach. -/
import Derived.Test.YtfcecblppdgcbaaAgAcc
namespace Go.Proofs.Ytfcecblppdgcbaa
open Go.RowKit Go.Lib Go.Sort
set_option linter.unusedVariables false
set_option maxRecDepth 20000

def rightV (a : Val) : Bool := checkV a == 0

set_option maxHeartbeats 1000000 in
theorem right_any (xs : List Val) (p : Option Addr) (c : Nat) (w : World) (hA : xs.length ≤ maxLen) (rA : Row w p xs) :
    Calls Try.prog 10 #[.slice p xs.length c] w fun e w' => e = .returned (.bool (xs.all rightV && decide (xs.length ≤ 300))) ∧ Below w.heap.size w w' := by
  unfold maxLen at hA
  have rH : Hid (Row w p xs) := rA
  clear rA
  go_enter Try.func10, Try.ntmps10
  go_wp2
  go_loopw [3] (fun i wr => ∃ k : Nat, k ≤ xs.length ∧ i = .int .i64 k ∧ (xs.take k).all rightV = true ∧ Below w.heap.size w wr) (fun i _ => xs.length - (intOf i).toNat)
  case atStart => exact ⟨0, Nat.zero_le _, rfl, rfl, Below.refl _ _⟩
  case round =>
    obtain ⟨k, hkx, rfl, hk, hb⟩ := hrel
    by_cases hx : k < xs.length
    · obtain ⟨b1, o1, rfl, c10, c11, c12⟩ := (rH.out.below hb).at hx
      have ht : (xs.take (k + 1)).all rightV = ((xs.take k).all rightV && rightV xs[k]) := by
        rw [List.take_succ_eq_append_getElem hx, List.all_append]; simp
      have hall : rightV xs[k] = false → (xs.all rightV && decide (xs.length ≤ 300)) = false := fun h => by
        have : xs.all rightV = false := by
          rw [List.all_eq_false]; exact ⟨xs[k], List.getElem_mem hx, by rw [h]; decide⟩
        rw [this]; rfl
      rw [hk, Bool.true_and] at ht
      have C := fun w => refCheck_any xs[k] w
      unfold rightV at ht hall
      generalize hc : checkV xs[k] = ch at *
      have Hh : Hid ((ch == 0) = false → (xs.all rightV && decide (xs.length ≤ 300)) = false) := hall
      clear hall hc
      generalize xs[k] = x at *
      obtain ⟨xk, xn, xt⟩ := x
      unfold Val.v at C
      simp only [] at *
      by_cases h0 : ch = 0
      · subst h0
        go_wp2_with (go_at_call 20; with_reducible refine (C _).mono ?_; rintro e w1 ⟨rfl, b1⟩)
        go_roundw
        case rel => exact ⟨k + 1, by omega, by go_num, ht, hb.trans (b1.mono hb.size)⟩
        case measure => simp [intOf]; omega
      · have h1 : (ch != 0) = true := bne_iff_ne.2 h0
        have hf : Hid ((xs.all rightV && decide (xs.length ≤ 300)) = false) := Hh.out (beq_eq_false_iff_ne.2 h0)
        clear h0
        go_wp2_with (go_at_call 20; with_reducible refine (C _).mono ?_; rintro e w1 ⟨rfl, b1⟩)
        go_ret
        exact ⟨ret_bool hf.out.symm, hb.trans (b1.mono hb.size)⟩
    · have hl : xs.take k = xs := List.take_of_length_le (by omega)
      rw [hl] at hk
      have hk' : Hid (xs.all rightV = true) := hk
      clear hk
      go_wp2
      go_ret
      exact ⟨ret_bool (by rw [hk'.out]; simp; omega), hb⟩
theorem lnum_any (n : Int) (w : World) :
    Calls Try.prog 18 #[.int .i64 n] w fun e w' => e = .returned (.agg #[.int .i64 2, .int .i64 n, .string ⟨#[]⟩]) ∧ Below w.heap.size w w' := by
  go_enter Try.func18, Try.ntmps18
  go_wp2
  go_returns
  exact ⟨rfl, by go_grown⟩

/-- What is gathered of a list, value by value; none: one was refused. -/
def runA (op : Int) (rows : Bool) : Val → List Val → Option Val
  | h, [] => some h
  | h, v :: r => if (addV op rows h v).e = 0 then runA op rows (addV op rows h v).v r else none
/-- What holds of what is gathered. -/
def GoodH (op : Int) (k : Nat) (h : Val) : Prop := (op = 1 → 0 ≤ h.n ∧ h.n ≤ k) ∧ (op = 2 → inR h.n ∧ h.s.size = 0)
theorem good_zero (op : Int) : GoodH op 0 (zeroV op) := by
  unfold zeroV
  constructor
  · intro h; rw [if_pos h]; exact ⟨Int.le_refl _, Int.le_refl _⟩
  · intro h; rw [if_neg (by omega)]; exact ⟨by show inR 0; decide, rfl⟩
theorem good_add {op : Int} {k : Nat} {h : Val} (rows : Bool) (v : Val) (G : GoodH op k h) : GoodH op (k + 1) (addV op rows h v).v := by
  obtain ⟨g1, g2⟩ := G
  unfold addV
  split
  · exact ⟨fun h1 => ⟨(g1 h1).1, by have := (g1 h1).2; simp only []; omega⟩, g2⟩
  · unfold takV
    constructor
    · intro h1
      rw [if_pos h1]
      have := g1 h1
      simp only [numV]
      omega
    · intro h2
      subst h2
      rw [if_neg (by decide), if_pos rfl]
      generalize (if h.k = 0 then numV 0 else h) = x
      split
      · exact bin11 _ _
      · exact g2 rfl

theorem Box.chgg {w w' : World} {b g : Nat} {a : Val} (h : Box w b a) (C : Chg (· = g) w w') (hne : b ≠ g) : Box w' b a := by
  obtain ⟨c0, c1, c2, f0, f1, f2⟩ := h
  refine ⟨C.cell c0 hne, C.cell c1 hne, C.cell c2 hne, ?_, ?_, ?_⟩
  · rw [C.frozen (cell_lt c0) hne]; exact f0
  · rw [C.frozen (cell_lt c1) hne]; exact f1
  · rw [C.frozen (cell_lt c2) hne]; exact f2
theorem below_chg {B g : Nat} {a w w' : World} (h : Below B a w) (C : Chg (· = g) w w') (hB : B ≤ w.heap.size) (hg : B ≤ g) : Below B a w' :=
  h.trans (C.below (fun k hk => by omega) hB)
set_option maxHeartbeats 1000000 in
theorem gathered_any (op : Int) (xs : List Val) (p : Option Addr) (c : Nat) (w : World) (ho : 1 ≤ op ∧ op ≤ 4) (hA : xs.length ≤ 1000) (rA : Row w p xs) (hx : ∀ x ∈ xs, inR x.n ∧ x.s.size ≤ 281474976710655) :
    Calls Try.prog 16 #[.int .i64 op, .slice p xs.length c] w fun e w' => e = .returned (.tuple #[((runA op false (zeroV op) xs).getD nullV).v, .bool (runA op false (zeroV op) xs).isSome]) ∧ Below w.heap.size w w' := by
  have rH := hid rA
  have N := fun w => new_any op false w
  have hbad : ¬ badNew op false := by unfold badNew; simp; omega
  have HX := hid hx
  clear rA hx
  go_enter Try.func16, Try.ntmps16
  go_wp2_with (go_at_call 8; with_reducible refine (N _).mono ?_; rintro e w1 ⟨E1, b1⟩; unfold newEnd at E1; obtain ⟨b, g, he, hbb, hgg, P1⟩ := E1.2 hbad; subst he; have R1 := hid ((Box.new w 0 0 ⟨#[]⟩ 32).below b1); have B1 := hid (below_new b1); have HP1 := hid P1; have hgl : w.heap.size < g := Nat.lt_of_lt_of_le (by simp) hgg; clear E1 P1)
  go_loopw [8] (fun i wr => ∃ (k : Nat) (h : Val), k ≤ xs.length ∧ i = .int .i64 k ∧ PAc wr b g op false h ∧ GoodH op k h ∧ runA op false (zeroV op) xs = runA op false h (xs.drop k) ∧ Box wr w.heap.size nullV ∧ Below w.heap.size w wr) (fun i _ => xs.length - (intOf i).toNat)
  case atStart => exact ⟨0, zeroV op, Nat.zero_le _, rfl, HP1.out, good_zero op, rfl, R1.out, B1.out⟩
  case round =>
    obtain ⟨k, h, hkx, rfl, P, G, hrun, Z, hb⟩ := hrel
    by_cases hlt : k < xs.length
    · obtain ⟨b2, o2, rfl, c10, c11, c12⟩ := (rH.out.below hb).at hlt
      have hxk := HX.out _ (List.getElem_mem hlt)
      rw [List.drop_eq_getElem_cons hlt, runA] at hrun
      have A := fun w1 P1 => add_any b g op false h xs[k] w1 P1 ho (fun e => by have := G.1 e; omega) (fun e => by have := G.2 e; unfold maxLen; exact ⟨this.1, hxk.1, by omega⟩)
      have G' := good_add false xs[k] G
      generalize addV op false h xs[k] = r at *
      generalize xs[k] = x at *
      obtain ⟨xk, xn, xt⟩ := x
      obtain ⟨rv, re⟩ := r
      unfold Val.v at A
      simp only [] at *
      have HRun := hid hrun
      have HP := hid P
      have HG := hid G'
      have HZ := hid Z
      have HB := hid hb
      clear hrun P G G' Z hb hxk
      by_cases h0 : re = 0
      · subst h0
        go_wp2_with (go_at_call 13; with_reducible refine (A _ HP.out).mono ?_; rintro e w2 ⟨rfl, ch, P2⟩)
        go_roundw
        case rel => exact ⟨k + 1, rv, by omega, by go_num, P2, HG.out, by rw [HRun.out]; simp, HZ.out.chgg ch (Nat.ne_of_lt hgl), below_chg HB.out ch HB.out.size (Nat.le_of_lt hgl)⟩
        case measure => simp [intOf]; omega
      · have h1 : (re != 0) = true := bne_iff_ne.2 h0
        go_wp2_with (go_at_call 13; with_reducible refine (A _ HP.out).mono ?_; rintro e w2 ⟨rfl, ch, P2⟩; have Z2 := hid (HZ.out.chgg ch (Nat.ne_of_lt hgl)); have B2 := hid (below_chg HB.out ch HB.out.size (Nat.le_of_lt hgl)); obtain ⟨z0, z1, z2, fz0, fz1, fz2⟩ := Z2.out.out)
        have R := Z2.out.put 0 0 ⟨#[]⟩
        obtain ⟨r0, r1, r2, _⟩ := R.out
        have hrun := HRun.out
        rw [if_neg h0] at hrun
        refine bodyPost_ret (by simp [results, Try.results16, go_sem, r0, r1, r2]; try rfl) rfl ?_
        rw [hrun]
        exact ⟨rfl, below_put3 B2.out (Nat.le_refl _) _ _ _⟩
    · have hl : xs.drop k = [] := List.drop_eq_nil_of_le (by omega)
      rw [hl, runA] at hrun
      have V := fun w1 P1 => value_any b g op false h w1 P1 ho
      have HRun := hid hrun
      have HP := hid P
      have HZ := hid Z
      have HB := hid hb
      clear hrun P G Z hb
      obtain ⟨h1, h2, h3⟩ := h
      unfold Val.v at V
      simp only [] at *
      obtain ⟨z0, z1, z2, fz0, fz1, fz2⟩ := HZ.out.out
      go_wp2_with (go_at_call 11; with_reducible refine (V _ HP.out).mono ?_; rintro e w2 ⟨rfl, b2⟩; have Z2 := hid (HZ.out.below b2); have B2 := hid (HB.out.trans (b2.mono HB.out.size)); obtain ⟨z0, z1, z2, fz0, fz1, fz2⟩ := Z2.out.out)
      have R := Z2.out.put h1 h2 h3
      obtain ⟨r0, r1, r2, _⟩ := R.out
      refine bodyPost_ret (by simp [results, Try.results16, go_sem, r0, r1, r2]; try rfl) rfl ?_
      rw [HRun.out]
      exact ⟨rfl, below_put3 B2.out (Nat.le_refl _) _ _ _⟩
end Go.Proofs.Ytfcecblppdgcbaa
