/- What the law's own Rights and RightRow, and the document's Size, answer. Conditions: lists within the reach. What the law's own cols and twoCols answer: is there a column? Conditions: lists within the reach. -/
import Derived.Test.YtblkhlhhlalbkaaGreatDoorEvMem
import Derived.Test.YtblkhlhhlalbkaaGreatDoorVC
namespace Go.Proofs.YtblkhlhhlalbkaaGreatDoor
open Go.RowKit Go.Lib Go.Sort
set_option linter.unusedVariables false
set_option maxRecDepth 20000

/-- Are all values within right, so many levels deep? -/
def rgN : Nat → Gx → Bool
  | 0, e => checkV e.v == 0 && e.xs.all (fun _ => false)
  | m + 1, e => checkV e.v == 0 && e.xs.all (rgN m)
/-- How many expressions there are within, so many levels deep. -/
def szN : Nat → Gx → Nat
  | 0, e => 1
  | m + 1, e => 1 + (e.xs.map (szN m)).sum
theorem all_take {f : Gx → Bool} {xs : List Gx} {k : Nat} (h : ∀ j (h : j < xs.length), j < k → f xs[j] = true) (hk : xs.length ≤ k) : xs.all f = true := by
  rw [List.all_eq_true]
  intro x hx
  obtain ⟨j, hj, rfl⟩ := List.getElem_of_mem hx
  exact h j hj (by omega)
def RightsOk (f : Gx → Bool) (m : Nat) : Prop := ∀ (w : World) (e : Gx) (p : Option Addr) (c : Nat), GAt w m e p →
  Calls Tryz.prog 7 #[gV e p c] w fun r w' => r = .returned (.bool (f e)) ∧ Below w.heap.size w w'
set_option maxHeartbeats 8000000 in
theorem rights_core (f : Gx → Bool) (m : Nat) (w : World) (e : Gx) (p : Option Addr) (c : Nat) (hr : RowG w m p e.xs) (hS : e.xs ≠ [] → RightsOk f m) :
    Calls Tryz.prog 7 #[gV e p c] w fun r w' => r = .returned (.bool (checkV e.v == 0 && e.xs.all f)) ∧ Below w.heap.size w w' := by
  have HX := hid (BGx.new w e p c)
  have B := albl' w (.cells #[.int .i64 e.k, .int .i64 e.op, .int .i64 e.v.k, .int .i64 e.v.n, .string e.v.s, .string ⟨e.t.toArray⟩, .string ⟨e.n.toArray⟩, .int .i64 e.c, .int .i64 e.y, .slice p e.xs.length c] 26)
  have HB := hid B
  have HRW := hid hr
  have HS := hid hS
  have hlen := hr.len
  have C := hid (fun w => refCheck_any e.v w)
  unfold Val.v at C
  clear B hr hS
  obtain ⟨ch, hch⟩ : ∃ ch, ch = checkV e.v := ⟨_, rfl⟩
  rw [← hch] at C
  by_cases h0 : ch = 0
  · have hb0 : (ch != 0) = false := by simp [h0]
    obtain ⟨R, hR⟩ : ∃ R, R = (checkV e.v == 0 && e.xs.all f) := ⟨_, rfl⟩
    have HR : Hid (R = e.xs.all f) := by
      show R = _
      rw [hR, ← hch, h0]
      rfl
    rw [← hR]
    clear hR hch h0
    go_enter Tryz.func7, Tryz.ntmps7
    go_upto_region 1 with fail
    generalize hW : w.alloc _ = W at *
    clear hW
    have hl := HX.out.lt
    obtain ⟨x0, x1, x2, x3, x4, x5, x6, x7, x8, x9⟩ := HX.out.cells
    go_upto_region 4 with (first
      | (go_at_call 10; with_reducible refine (C.out _).mono ?_; rintro r w2 ⟨rfl, b2⟩; have HX2 := hid (HX.out.below b2); have HB2 := hid (HB.out.trans (b2.mono HB.out.size)); clear b2)
      | fail)
    clear x0 x1 x2 x3 x4 x5 x6 x7 x8 x9
    go_loopw [3] (fun i wr => ∃ k : Nat, k ≤ e.xs.length ∧ i = .int .i64 (k : Int) ∧ Hid (BGx wr w.heap.size e p c) ∧ Hid (Below w.heap.size w wr) ∧ Hid (∀ j (h : j < e.xs.length), j < k → f e.xs[j] = true)) (fun i _ => e.xs.length - (RowKit.intOf i).toNat)
    case atStart => exact ⟨0, Nat.zero_le _, rfl, HX2.out, HB2.out, fun j _ h => absurd h (Nat.not_lt_zero _)⟩
    case round =>
      obtain ⟨k, hk, rfl, HXk, HBk, HN⟩ := hrel
      have hlk := HXk.out.lt
      obtain ⟨x0, x1, x2, x3, x4, x5, x6, x7, x8, x9⟩ := HXk.out.cells
      by_cases hkx : k < e.xs.length
      · have hkI : (k : Int) < (e.xs.length : Int) := by omega
        have hk0 : (0 : Int) ≤ (k : Int) := by omega
        obtain ⟨b, off, q, cq, rfl, X, EX⟩ := (HRW.out.below HBk.out).at hkx
        have hb : b < wr.heap.size := cell_lt X.1
        have T := hid (HS.out (fun h => by rw [h] at hkx; simp at hkx) wr e.xs[k] q cq EX)
        obtain ⟨r, hr⟩ : ∃ r, r = f e.xs[k] := ⟨_, rfl⟩
        have HHR : Hid (∀ j (h : j < e.xs.length), j = k → f e.xs[j] = r) := fun j h q => by subst q; exact hr.symm
        have HNO : Hid (r = false → R = false) := fun q => by
          rw [HR.out, List.all_eq_false]
          exact ⟨e.xs[k], List.getElem_mem _, by rw [← hr, q]; decide⟩
        rw [← hr] at T
        obtain ⟨y0, y1, y2, y3, y4, y5, y6, y7, y8, y9⟩ := X
        clear hr EX
        generalize e.xs[k] = x at *
        cases r
        · go_wp2_with (first
            | (go_at_call 7; with_reducible refine T.out.mono ?_; rintro r w3 ⟨rfl, b3⟩; have HB3 := hid (HBk.out.trans (b3.mono HBk.out.size)); clear b3)
            | fail)
          go_ret
          refine ⟨(show _ = Ending.returned (.bool false) from rfl).trans ?_, HB3.out⟩
          rw [HNO.out trivial]
        · go_wp2_with (first
            | (go_at_call 7; with_reducible refine T.out.mono ?_; rintro r w3 ⟨rfl, b3⟩; have HX3 := hid (HXk.out.below b3); have HB3 := hid (HBk.out.trans (b3.mono HBk.out.size)); clear b3)
            | fail)
          go_roundw
          case rel => exact ⟨k + 1, by omega, by go_num, HX3.out, HB3.out, fun j h hj => by
            by_cases q : j = k
            · exact HHR.out j h q
            · exact HN.out j h (by omega)⟩
          case measure => simp [RowKit.intOf]; omega
      · have hkI : ¬ (k : Int) < (e.xs.length : Int) := by omega
        have HRT : Hid (R = true) := HR.out.trans (all_take HN.out (by omega))
        go_wp2_with fail
        go_ret
        refine ⟨(show _ = Ending.returned (.bool true) from rfl).trans ?_, HBk.out⟩
        rw [HRT.out]
  · have hb0 : (ch != 0) = true := bne_iff_ne.2 h0
    have HF : Hid ((checkV e.v == 0 && e.xs.all f) = false) := by
      show _ = _
      rw [← hch, beq_eq_false_iff_ne.2 h0]
      rfl
    have hl := HX.out.lt
    obtain ⟨x0, x1, x2, x3, x4, x5, x6, x7, x8, x9⟩ := HX.out.cells
    clear hch h0
    go_enter Tryz.func7, Tryz.ntmps7
    go_wp2_with (first
      | (go_at_call 10; with_reducible refine (C.out _).mono ?_; rintro r w2 ⟨rfl, b2⟩; have HB2 := hid (HB.out.trans (b2.mono HB.out.size)); clear b2)
      | fail)
    go_ret
    refine ⟨(show _ = Ending.returned (.bool false) from rfl).trans ?_, HB2.out⟩
    rw [HF.out]
theorem rights_all : ∀ m, RightsOk (rgN m) m
  | 0 => fun w e p c h => rights_core (fun _ => false) 0 w e p c (gat_nil 0 h) (fun q => absurd h q)
  | m + 1 => fun w e p c h => rights_core (rgN m) m w e p c h (fun _ => rights_all m)
set_option maxHeartbeats 4000000 in
theorem rightRow_any (xs : List Val) (p : Option Addr) (c : Nat) (w : World) (hA : xs.length ≤ 1048576) (rA : Row w p xs) :
    Calls Tryz.prog 8 #[.slice p xs.length c] w fun e w' => e = .returned (.bool (xs.all fun v => checkV v == 0)) ∧ Below w.heap.size w w' := by
  have rH : Hid (Row w p xs) := rA
  clear rA
  go_enter Tryz.func8, Tryz.ntmps8
  go_wp2
  go_loopw [3] (fun i wr => ∃ k : Nat, k ≤ xs.length ∧ i = .int .i64 k ∧ Hid (∀ j (h : j < xs.length), j < k → (checkV xs[j] == 0) = true) ∧ Below w.heap.size w wr) (fun i _ => xs.length - (RowKit.intOf i).toNat)
  case atStart => exact ⟨0, Nat.zero_le _, rfl, fun j _ h => absurd h (Nat.not_lt_zero _), Below.refl _ _⟩
  case round =>
    obtain ⟨k, hkx, rfl, hk, hb⟩ := hrel
    have hB := hid hb
    by_cases hx : k < xs.length
    · obtain ⟨b1, o1, rfl, c10, c11, c12⟩ := (rH.out.below hb).at hx
      have hbl := cell_lt c10
      have hkI : (k : Int) < (xs.length : Int) := by omega
      have hk0 : (0 : Int) ≤ (k : Int) := by omega
      have C := hid (fun w => refCheck_any xs[k] w)
      unfold Val.v at C
      obtain ⟨ch, hch⟩ : ∃ ch, ch = checkV xs[k] := ⟨_, rfl⟩
      have HHR : Hid (∀ j (h : j < xs.length), j = k → checkV xs[j] = ch) := fun j h q => by subst q; exact hch.symm
      have HNO : Hid (ch ≠ 0 → (xs.all fun v => checkV v == 0) = false) := fun q => by
        rw [List.all_eq_false]
        exact ⟨xs[k], List.getElem_mem hx, by rw [← hch]; simpa using q⟩
      rw [← hch] at C
      clear hch hb
      generalize xs[k] = x at *
      obtain ⟨xk, xn, xt⟩ := x
      simp only [] at *
      by_cases h0 : ch = 0
      · subst h0
        go_wp2_with (go_at_call 10; with_reducible refine (C.out _).mono ?_; rintro e w1 ⟨rfl, b1⟩; have B1 := hid (hB.out.trans (b1.mono hB.out.size)); clear b1)
        go_roundw
        case rel => exact ⟨k + 1, by omega, by go_num, fun j h hj => by
          by_cases q : j = k
          · rw [HHR.out j h q]; rfl
          · exact hk.out j h (by omega), B1.out⟩
        case measure => simp [RowKit.intOf]; omega
      · have h1 : (ch != 0) = true := bne_iff_ne.2 h0
        have hf := hid (HNO.out h0)
        clear h0
        go_wp2_with (go_at_call 10; with_reducible refine (C.out _).mono ?_; rintro e w1 ⟨rfl, b1⟩; have B1 := hid (hB.out.trans (b1.mono hB.out.size)); clear b1)
        go_ret
        exact ⟨ret_bool hf.out.symm, B1.out⟩
    · have hkI : ¬ (k : Int) < (xs.length : Int) := by omega
      have hf : Hid ((xs.all fun v => checkV v == 0) = true) := by
        show _ = _
        rw [List.all_eq_true]
        intro v hv
        obtain ⟨j, hj, rfl⟩ := List.getElem_of_mem hv
        exact hk.out j hj (by omega)
      clear hb
      go_wp2
      go_ret
      exact ⟨ret_bool hf.out.symm, hB.out⟩
/-! ### How many expressions there are -/
def SizeOk (f : Gx → Nat) (m : Nat) : Prop := ∀ (w : World) (e : Gx) (p : Option Addr) (c : Nat), GAt w m e p → f e ≤ 1048576 →
  Calls Tryz.prog 9 #[gV e p c] w fun r w' => r = .returned (.int .i64 (f e : Int)) ∧ Below w.heap.size w w'
theorem sum_take {f : Gx → Nat} {xs : List Gx} {k : Nat} (h : k < xs.length) : ((xs.take (k + 1)).map f).sum = ((xs.take k).map f).sum + f xs[k] := by
  rw [List.take_succ_eq_append_getElem h, List.map_append, List.sum_append]
  simp
theorem sum_take_le {f : Gx → Nat} (xs : List Gx) (k : Nat) : ((xs.take k).map f).sum ≤ (xs.map f).sum := by
  have := congrArg (fun l => (l.map f).sum) (List.take_append_drop k xs)
  simp only [List.map_append, List.sum_append] at this
  omega
set_option maxHeartbeats 8000000 in
theorem size_core (f : Gx → Nat) (m : Nat) (w : World) (e : Gx) (p : Option Addr) (c : Nat) (hr : RowG w m p e.xs) (hS : e.xs ≠ [] → SizeOk f m) (hz : (e.xs.map f).sum + 1 ≤ 1048576) :
    Calls Tryz.prog 9 #[gV e p c] w fun r w' => r = .returned (.int .i64 ((1 + (e.xs.map f).sum : Nat) : Int)) ∧ Below w.heap.size w w' := by
  have HX := hid (BGx.new w e p c)
  have B := albl' w (.cells #[.int .i64 e.k, .int .i64 e.op, .int .i64 e.v.k, .int .i64 e.v.n, .string e.v.s, .string ⟨e.t.toArray⟩, .string ⟨e.n.toArray⟩, .int .i64 e.c, .int .i64 e.y, .slice p e.xs.length c] 26)
  have HB := hid B
  have HRW := hid hr
  have HS := hid hS
  have hlen := hr.len
  have HZ := hid hz
  clear B hr hS hz
  go_enter Tryz.func9, Tryz.ntmps9
  go_upto_region 1 with fail
  generalize hW : w.alloc _ = W at *
  clear hW
  go_upto_region 3 with fail
  go_loopw [4, 3] (fun i n wr => ∃ k s : Nat, k ≤ e.xs.length ∧ i = .int .i64 (k : Int) ∧ n = .int .i64 (s : Int) ∧ Hid (s = 1 + ((e.xs.take k).map f).sum) ∧ Hid (BGx wr w.heap.size e p c) ∧ Hid (Below w.heap.size w wr)) (fun i _ _ => e.xs.length - (RowKit.intOf i).toNat)
  case atStart => exact ⟨0, 1, Nat.zero_le _, rfl, rfl, rfl, HX.out, HB.out⟩
  case round =>
    obtain ⟨k, s, hk, rfl, rfl, HSk, HXk, HBk⟩ := hrel
    have hlk := HXk.out.lt
    obtain ⟨x0, x1, x2, x3, x4, x5, x6, x7, x8, x9⟩ := HXk.out.cells
    by_cases hkx : k < e.xs.length
    · have hkI : (k : Int) < (e.xs.length : Int) := by omega
      have hk0 : (0 : Int) ≤ (k : Int) := by omega
      obtain ⟨b, off, q, cq, rfl, X, EX⟩ := (HRW.out.below HBk.out).at hkx
      have hb : b < wr.heap.size := cell_lt X.1
      have hst := sum_take (f := f) hkx
      have hsl := sum_take_le (f := f) e.xs (k + 1)
      have hz := HZ.out
      have hfz : f e.xs[k] ≤ 1048576 := by omega
      have hsz : s + f e.xs[k] ≤ 1048576 := by have := HSk.out; omega
      have HS2 : Hid (s + f e.xs[k] = 1 + ((e.xs.take (k + 1)).map f).sum) := by
        show _ = _
        have := HSk.out
        omega
      have T := hid (HS.out (fun h => by rw [h] at hkx; simp at hkx) wr e.xs[k] q cq EX hfz)
      obtain ⟨y0, y1, y2, y3, y4, y5, y6, y7, y8, y9⟩ := X
      clear EX hst hsl hz hfz
      generalize f e.xs[k] = z at *
      generalize e.xs[k] = x at *
      have hwr : IntKind.i64.wrap ((s : Int) + (z : Int)) = ((s + z : Nat) : Int) := by rw [IntKind.wrap_i64]; omega
      go_wp2_with (first
        | (go_at_call 9; with_reducible refine T.out.mono ?_; rintro r w3 ⟨rfl, b3⟩; have HX3 := hid (HXk.out.below b3); have HB3 := hid (HBk.out.trans (b3.mono HBk.out.size)); clear b3)
        | fail)
      go_roundw
      case rel => exact ⟨k + 1, s + z, by omega, by go_num, by go_num, HS2.out, HX3.out, HB3.out⟩
      case measure => simp [RowKit.intOf]; omega
    · have hkI : ¬ (k : Int) < (e.xs.length : Int) := by omega
      have HF : Hid (s = 1 + (e.xs.map f).sum) := by
        show _ = _
        have := HSk.out
        rw [List.take_of_length_le (by omega)] at this
        exact this
      go_wp2_with fail
      go_ret
      refine ⟨(show _ = Ending.returned (.int .i64 (s : Int)) from rfl).trans ?_, HBk.out⟩
      rw [show (s : Int) = 1 + ((e.xs.map f).sum : Int) by have := HF.out; omega]
      try rfl
theorem size_all : ∀ m, SizeOk (szN m) m
  | 0 => fun w e p c h hz => by
    have := size_core (fun _ => 0) 0 w e p c (gat_nil 0 h) (fun q => absurd h q) (by rw [show e.xs = [] from h]; simp)
    rw [show e.xs = [] from h] at this
    exact this
  | m + 1 => fun w e p c h hz => by
    have hz' : 1 + (e.xs.map (szN m)).sum ≤ 1048576 := hz
    exact size_core (szN m) m w e p c h (fun _ => size_all m) (by omega)
end Go.Proofs.YtblkhlhhlalbkaaGreatDoor
namespace Go.Proofs.YtblkhlhhlalbkaaGreatDoor
open Go.RowKit Go.Lib Go.Sort
set_option linter.unusedVariables false
set_option maxRecDepth 20000

/-- Is there a column within, so many levels deep? -/
def colN : Nat → Gx → Bool
  | 0, e => e.k == 2 || e.xs.any (fun _ => false)
  | m + 1, e => e.k == 2 || e.xs.any (colN m)
theorem any_take {f : Gx → Bool} {xs : List Gx} {k : Nat} (h : ∀ j (h : j < xs.length), j < k → f xs[j] = false) (hk : xs.length ≤ k) : xs.any f = false := by
  rw [List.any_eq_false]
  intro x hx
  obtain ⟨j, hj, rfl⟩ := List.getElem_of_mem hx
  rw [h j hj (by omega)]
  decide
def ColsOk (f : Gx → Bool) (m : Nat) : Prop := ∀ (w : World) (e : Gx) (p : Option Addr) (c : Nat), GAt w m e p →
  Calls Tryz.prog 17 #[gV e p c] w fun r w' => r = .returned (.bool (f e)) ∧ Below w.heap.size w w'
set_option maxHeartbeats 8000000 in
theorem cols_core (f : Gx → Bool) (m : Nat) (w : World) (e : Gx) (p : Option Addr) (c : Nat) (hr : RowG w m p e.xs) (hS : e.xs ≠ [] → ColsOk f m) :
    Calls Tryz.prog 17 #[gV e p c] w fun r w' => r = .returned (.bool (e.k == 2 || e.xs.any f)) ∧ Below w.heap.size w w' := by
  have HX := hid (BGx.new w e p c)
  have B := albl' w (.cells #[.int .i64 e.k, .int .i64 e.op, .int .i64 e.v.k, .int .i64 e.v.n, .string e.v.s, .string ⟨e.t.toArray⟩, .string ⟨e.n.toArray⟩, .int .i64 e.c, .int .i64 e.y, .slice p e.xs.length c] 26)
  have HB := hid B
  have HRW := hid hr
  have HS := hid hS
  have hlen := hr.len
  clear B hr hS
  by_cases h0 : e.k = 2
  · have hb0 : (e.k == 2) = true := by simp [h0]
    have HF : Hid ((e.k == 2 || e.xs.any f) = true) := by
      show _ = _
      rw [hb0]
      rfl
    have hl := HX.out.lt
    obtain ⟨x0, x1, x2, x3, x4, x5, x6, x7, x8, x9⟩ := HX.out.cells
    clear h0
    go_enter Tryz.func17, Tryz.ntmps17
    go_wp2_with fail
    go_ret
    refine ⟨(show _ = Ending.returned (.bool true) from rfl).trans ?_, HB.out⟩
    rw [HF.out]
  · have hb0 : (e.k == 2) = false := beq_eq_false_iff_ne.2 h0
    obtain ⟨R, hR⟩ : ∃ R, R = (e.k == 2 || e.xs.any f) := ⟨_, rfl⟩
    have HR : Hid (R = e.xs.any f) := by
      show R = _
      rw [hR, hb0]
      rfl
    rw [← hR]
    clear hR h0
    go_enter Tryz.func17, Tryz.ntmps17
    go_upto_region 1 with fail
    generalize hW : w.alloc _ = W at *
    clear hW
    have hl := HX.out.lt
    obtain ⟨x0, x1, x2, x3, x4, x5, x6, x7, x8, x9⟩ := HX.out.cells
    go_upto_region 4 with fail
    have HX2 := HX
    have HB2 := HB
    clear x0 x1 x2 x3 x4 x5 x6 x7 x8 x9
    go_loopw [3] (fun i wr => ∃ k : Nat, k ≤ e.xs.length ∧ i = .int .i64 (k : Int) ∧ Hid (BGx wr w.heap.size e p c) ∧ Hid (Below w.heap.size w wr) ∧ Hid (∀ j (h : j < e.xs.length), j < k → f e.xs[j] = false)) (fun i _ => e.xs.length - (RowKit.intOf i).toNat)
    case atStart => exact ⟨0, Nat.zero_le _, rfl, HX2.out, HB2.out, fun j _ h => absurd h (Nat.not_lt_zero _)⟩
    case round =>
      obtain ⟨k, hk, rfl, HXk, HBk, HN⟩ := hrel
      have hlk := HXk.out.lt
      obtain ⟨x0, x1, x2, x3, x4, x5, x6, x7, x8, x9⟩ := HXk.out.cells
      by_cases hkx : k < e.xs.length
      · have hkI : (k : Int) < (e.xs.length : Int) := by omega
        have hk0 : (0 : Int) ≤ (k : Int) := by omega
        obtain ⟨b, off, q, cq, rfl, X, EX⟩ := (HRW.out.below HBk.out).at hkx
        have hb : b < wr.heap.size := cell_lt X.1
        have T := hid (HS.out (fun h => by rw [h] at hkx; simp at hkx) wr e.xs[k] q cq EX)
        obtain ⟨r, hr⟩ : ∃ r, r = f e.xs[k] := ⟨_, rfl⟩
        have HHR : Hid (∀ j (h : j < e.xs.length), j = k → f e.xs[j] = r) := fun j h q => by subst q; exact hr.symm
        have HNO : Hid (r = true → R = true) := fun q => by
          rw [HR.out, List.any_eq_true]
          exact ⟨e.xs[k], List.getElem_mem _, by rw [← hr, q]⟩
        rw [← hr] at T
        obtain ⟨y0, y1, y2, y3, y4, y5, y6, y7, y8, y9⟩ := X
        clear hr EX
        generalize e.xs[k] = x at *
        cases r
        · go_wp2_with (first
            | (go_at_call 17; with_reducible refine T.out.mono ?_; rintro r w3 ⟨rfl, b3⟩; have HX3 := hid (HXk.out.below b3); have HB3 := hid (HBk.out.trans (b3.mono HBk.out.size)); clear b3)
            | fail)
          go_roundw
          case rel => exact ⟨k + 1, by omega, by go_num, HX3.out, HB3.out, fun j h hj => by
            by_cases q : j = k
            · exact HHR.out j h q
            · exact HN.out j h (by omega)⟩
          case measure => simp [RowKit.intOf]; omega
        · go_wp2_with (first
            | (go_at_call 17; with_reducible refine T.out.mono ?_; rintro r w3 ⟨rfl, b3⟩; have HB3 := hid (HBk.out.trans (b3.mono HBk.out.size)); clear b3)
            | fail)
          go_ret
          refine ⟨(show _ = Ending.returned (.bool true) from rfl).trans ?_, HB3.out⟩
          rw [HNO.out trivial]
      · have hkI : ¬ (k : Int) < (e.xs.length : Int) := by omega
        have HRT : Hid (R = false) := HR.out.trans (any_take HN.out (by omega))
        go_wp2_with fail
        go_ret
        refine ⟨(show _ = Ending.returned (.bool false) from rfl).trans ?_, HBk.out⟩
        rw [HRT.out]
theorem cols_all : ∀ m, ColsOk (colN m) m
  | 0 => fun w e p c h => cols_core (fun _ => false) 0 w e p c (gat_nil 0 h) (fun q => absurd h q)
  | m + 1 => fun w e p c h => cols_core (colN m) m w e p c h (fun _ => cols_all m)
/-! ### twoCols -/
def TwoOk (f : Gx → Bool) (m : Nat) : Prop := ∀ (w : World) (e : Gx) (p : Option Addr) (c : Nat), GAt w m e p →
  Calls Tryz.prog 18 #[gV e p c] w fun r w' => r = .returned (.bool (f e)) ∧ Below w.heap.size w w'
set_option maxHeartbeats 8000000 in
theorem anyCol_core (f : Gx → Bool) (m : Nat) (w : World) (xs : List Gx) (p : Option Addr) (c : Nat) (hr : RowG w m p xs) (hS : xs ≠ [] → TwoOk f m) :
    Calls Tryz.prog 32 #[.slice p xs.length c] w fun r w' => r = .returned (.bool (xs.any f)) ∧ Below w.heap.size w w' := by
  have HRW := hid hr
  have HS := hid hS
  have hlen := hr.len
  clear hr hS
  obtain ⟨R, hR⟩ : ∃ R, R = xs.any f := ⟨_, rfl⟩
  have HR : Hid (R = xs.any f) := hR
  rw [← hR]
  clear hR
  go_enter Tryz.func32, Tryz.ntmps32
  go_upto_region 2 with fail
  go_loopw [3] (fun i wr => ∃ k : Nat, k ≤ xs.length ∧ i = .int .i64 (k : Int) ∧ Hid (Below w.heap.size w wr) ∧ Hid (∀ j (h : j < xs.length), j < k → f xs[j] = false)) (fun i _ => xs.length - (RowKit.intOf i).toNat)
  case atStart => exact ⟨0, Nat.zero_le _, rfl, Below.refl _ _, fun j _ h => absurd h (Nat.not_lt_zero _)⟩
  case round =>
    obtain ⟨k, hk, rfl, HBk, HN⟩ := hrel
    by_cases hkx : k < xs.length
    · have hkI : (k : Int) < (xs.length : Int) := by omega
      have hk0 : (0 : Int) ≤ (k : Int) := by omega
      obtain ⟨b, off, q, cq, rfl, X, EX⟩ := (HRW.out.below HBk.out).at hkx
      have hb : b < wr.heap.size := cell_lt X.1
      have T := hid (HS.out (fun h => by rw [h] at hkx; simp at hkx) wr xs[k] q cq EX)
      obtain ⟨r, hr⟩ : ∃ r, r = f xs[k] := ⟨_, rfl⟩
      have HHR : Hid (∀ j (h : j < xs.length), j = k → f xs[j] = r) := fun j h q => by subst q; exact hr.symm
      have HNO : Hid (r = true → R = true) := fun q => by
        rw [HR.out, List.any_eq_true]
        exact ⟨xs[k], List.getElem_mem _, by rw [← hr, q]⟩
      rw [← hr] at T
      obtain ⟨y0, y1, y2, y3, y4, y5, y6, y7, y8, y9⟩ := X
      clear hr EX
      generalize xs[k] = x at *
      cases r
      · go_wp2_with (first
          | (go_at_call 18; with_reducible refine T.out.mono ?_; rintro r w3 ⟨rfl, b3⟩; have HB3 := hid (HBk.out.trans (b3.mono HBk.out.size)); clear b3)
          | fail)
        go_roundw
        case rel => exact ⟨k + 1, by omega, by go_num, HB3.out, fun j h hj => by
          by_cases q : j = k
          · exact HHR.out j h q
          · exact HN.out j h (by omega)⟩
        case measure => simp [RowKit.intOf]; omega
      · go_wp2_with (first
          | (go_at_call 18; with_reducible refine T.out.mono ?_; rintro r w3 ⟨rfl, b3⟩; have HB3 := hid (HBk.out.trans (b3.mono HBk.out.size)); clear b3)
          | fail)
        go_ret
        refine ⟨(show _ = Ending.returned (.bool true) from rfl).trans ?_, HB3.out⟩
        rw [HNO.out trivial]
    · have hkI : ¬ (k : Int) < (xs.length : Int) := by omega
      have HRT : Hid (R = false) := HR.out.trans (any_take HN.out (by omega))
      go_wp2_with fail
      go_ret
      refine ⟨(show _ = Ending.returned (.bool false) from rfl).trans ?_, HBk.out⟩
      rw [HRT.out]
set_option maxHeartbeats 8000000 in
theorem two_core (f : Gx → Bool) (m : Nat) (w : World) (e : Gx) (p : Option Addr) (c : Nat) (hr : RowG w m p e.xs) (hS : e.xs ≠ [] → TwoOk f m) :
    Calls Tryz.prog 18 #[gV e p c] w fun r w' => r = .returned (.bool (e.k == 2 || e.xs.any f)) ∧ Below w.heap.size w w' := by
  have HX := hid (BGx.new w e p c)
  have B := albl' w (.cells #[.int .i64 e.k, .int .i64 e.op, .int .i64 e.v.k, .int .i64 e.v.n, .string e.v.s, .string ⟨e.t.toArray⟩, .string ⟨e.n.toArray⟩, .int .i64 e.c, .int .i64 e.y, .slice p e.xs.length c] 26)
  have HB := hid B
  have HRW := hid hr
  have HS := hid hS
  have hlen := hr.len
  clear B hr hS
  by_cases h0 : e.k = 2
  · have hb0 : (e.k == 2) = true := by simp [h0]
    have HF : Hid ((e.k == 2 || e.xs.any f) = true) := by
      show _ = _
      rw [hb0]
      rfl
    have hl := HX.out.lt
    obtain ⟨x0, x1, x2, x3, x4, x5, x6, x7, x8, x9⟩ := HX.out.cells
    clear h0
    go_enter Tryz.func18, Tryz.ntmps18
    go_wp2_with fail
    go_ret
    refine ⟨(show _ = Ending.returned (.bool true) from rfl).trans ?_, HB.out⟩
    rw [HF.out]
  · have hb0 : (e.k == 2) = false := beq_eq_false_iff_ne.2 h0
    by_cases hx : e.xs = []
    · have hl0 : ¬ (0 : Int) < (e.xs.length : Int) := by rw [hx]; decide
      have HF : Hid (e.xs.any f = false) := by
        show _ = _
        rw [hx]
        rfl
      have hl := HX.out.lt
      obtain ⟨x0, x1, x2, x3, x4, x5, x6, x7, x8, x9⟩ := HX.out.cells
      clear h0 hx
      go_enter Tryz.func18, Tryz.ntmps18
      go_wp2_with fail
      go_ret
      refine ⟨(show _ = Ending.returned (.bool false) from rfl).trans ?_, HB.out⟩
      rw [HF.out]
    · have hl0 : (0 : Int) < (e.xs.length : Int) := by have := List.length_pos_iff.2 hx; omega
      have HF : Hid ((e.k == 2 || e.xs.any f) = e.xs.any f) := by
        show _ = _
        rw [hb0]
        rfl
      have hC := hid (fun w' (b : Below w.heap.size w w') => anyCol_core f m w' e.xs p c (HRW.out.below b) HS.out)
      have hl := HX.out.lt
      obtain ⟨x0, x1, x2, x3, x4, x5, x6, x7, x8, x9⟩ := HX.out.cells
      have HC := hid (hC.out _ HB.out)
      clear h0 hx hC
      go_enter Tryz.func18, Tryz.ntmps18
      go_wp2_with (first
        | (go_at_call 32; go_loud (with_reducible refine HC.out.mono ?_); rintro r w3 ⟨rfl, b3⟩; have HB3 := hid (HB.out.trans (b3.mono HB.out.size)); clear b3)
        | fail)
      go_ret
      refine ⟨?_, HB3.out⟩
      rw [HF.out]
      rfl
theorem two_all : ∀ m, TwoOk (colN m) m
  | 0 => fun w e p c h => two_core (fun _ => false) 0 w e p c (gat_nil 0 h) (fun q => absurd h q)
  | m + 1 => fun w e p c h => two_core (colN m) m w e p c h (fun _ => two_all m)
end Go.Proofs.YtblkhlhhlalbkaaGreatDoor
