/- What None of package shape answers: whether nothing is written for an expression. Conditions: the tables lie in memory as their text lays them; the values lie within the reach. -/
import Derived.Test.YthnmicadlcmecaaGreatDoorEM
import Derived.Test.YthnmicadlcmecaaGreatDoorExPrint
import Derived.Laws.MakeOwn
import Derived.Lib.ItoaLen
namespace Go.Proofs.YthnmicadlcmecaaGreatDoor
open Go.RowKit Go.Lib Go.Sort
set_option linter.unusedVariables false
set_option maxRecDepth 20000

/-- The tables. -/
structure Tb (w : World) : Prop where
  gl : Gl w
  rd : Ready w
theorem Tb.below {w w' : World} (h : Tb w) (B : Below w.heap.size w w') : Tb w' := ⟨h.gl.below B, h.rd.below B⟩
theorem cal_cnt : ∀ o ∈ cals, o.cnt ≤ 3 := by decide
theorem fits_le3 {k op : Int} {n : Nat} (h : fitsB k op n = true) : n ≤ 3 := by
  unfold fitsB at h
  repeat' split at h
  all_goals try (simp only [Bool.and_eq_true, beq_iff_eq] at h; omega)
  · rename_i c hc
    have := cal_cnt c (List.mem_of_find?_eq_some hc)
    simp only [Bool.or_eq_true, beq_iff_eq, Bool.and_eq_true] at h
    omega
  · cases h
  · cases h
/-- Print, of an expression with any place and type. -/
theorem stepOk_any (w0 : World) (j0 j1 : Int) (k op : Int) (v : Val) (t n : List UInt8) (xs : List Ex) (hv : v.s.size ≤ 2147483648 ∧ -9223372036854775808 ≤ v.n ∧ v.n ≤ 9223372036854775807) : StepOk w0 j0 j1 k op v t n xs := by
  cases hf : fitsB k op xs.length with
  | false => exact step_no w0 j0 j1 k op v t n xs hf
  | true => exact step_any w0 j0 j1 k op v t n xs hv (fits_le3 hf)
set_option maxHeartbeats 4000000 in
theorem print_gen {w : World} (m : Nat) (j0 j1 : Int) (k op : Int) (v : Val) (t n : List UInt8) (xs : List Ex) (p : Option Addr) (c : Nat) (hv : v.s.size ≤ 2147483648 ∧ -9223372036854775808 ≤ v.n ∧ v.n ≤ 9223372036854775807) (oks : ∀ x ∈ xs, OkE m x) (eat : EAt w (fun _ => True) (m + 1) ⟨k, op, v, t, n, xs⟩ p) (gl : Gl w) (rd : Ready w) (hlen : (prE ⟨k, op, v, t, n, xs⟩).length ≤ 140737488351232) :
    Calls Tryz.prog 62 #[.agg #[.int .i64 k, .int .i64 op, .int .i64 v.k, .int .i64 v.n, .string v.s, .string ⟨t.toArray⟩, .string ⟨n.toArray⟩, .int .i64 j0, .int .i64 j1, .slice p xs.length c]] w fun r w' => r = .returned (.string ⟨(prE ⟨k, op, v, t, n, xs⟩).toArray⟩) ∧ Below w.heap.size w w' := by
  have B1 := albl w (.cells #[.int .i64 k, .int .i64 op, .int .i64 v.k, .int .i64 v.n, .string v.s, .string ⟨t.toArray⟩, .string ⟨n.toArray⟩, .int .i64 j0, .int .i64 j1, .slice p xs.length c] 26)
  have HX := hid (BG.new w k op v.k v.n j0 j1 v.s ⟨t.toArray⟩ ⟨n.toArray⟩ p xs.length c)
  have HE1 := hid (eat.chg (G := fun _ => False) (Chg.of_below B1) (fun _ _ q => q))
  have HG1 := hid (gl.below B1)
  have HR1 := hid (rd.below B1)
  have HB1 := hid B1
  have HK := hid oks
  have HL := hid hlen
  have HV := hid hv
  clear B1 eat gl rd oks hlen hv
  go_enter Tryz.func62, Tryz.ntmps62
  go_upto_region 1 with fail
  generalize hW : w.alloc _ = W at *
  clear hW
  go_upto_region 2 with fail
  have HW := hid (wf_new W)
  have HB2 := hid (albl W (.cells #[.pointer none, .slice none 0 0] 122))
  have hs2 : (W.alloc (.cells #[.pointer none, .slice none 0 0] 122)).heap.size = W.heap.size + 1 := by simp
  generalize hW2 : World.alloc W _ = W2 at *
  clear hW2
  have HC := hid (show Cx W W2 (· = W.heap.size) from ⟨HB2.out, fun k q => by omega, fun k q => by omega, HG1.out, HR1.out⟩)
  have T1 := hid (stepOk_any W j0 j1 k op v t n xs HV.out W2 (· = W.heap.size) W.heap.size [] p c m HC.out HW.out (fun _ => expr_ok W m) HK.out HE1.out (by simpa using HL.out))
  have hXl := (HX.out.below HB2.out).lt
  obtain ⟨x0, x1, x2, x3, x4, x5, x6, x7, x8, x9⟩ := (HX.out.below HB2.out).cells
  clear hs2
  go_wp2_with (first
    | (go_at_call 75; go_loud (with_reducible refine T1.out.mono ?_); rintro r w3 ⟨rfl, h3, c3⟩; have HC3 := hid c3; go_loud (have T2 := hid (wstr_any h3)); clear h3 c3)
    | (go_at_call 76; with_reducible refine T2.out.mono ?_; rintro r w4 ⟨rfl, c4⟩; have HC4 := hid c4; clear c4)
    | fail)
  go_ret
  refine ⟨rfl, ?_⟩
  have hs1 := HB1.out.size
  have hs2 := HB2.out.size
  have h3 : Below W.heap.size W2 w3 := HC3.out.below (fun k q => Nat.le_of_eq q.symm) hs2
  have h4 : Below W.heap.size w3 w4 := HC4.out.below (fun k q => by rcases q with q | q <;> omega) (by have := HC3.out.size; omega)
  exact (HB1.out.trans (HB2.out.mono hs1)).trans ((h3.trans h4).mono hs1)
/-! ### Operands of which nothing is known -/
def zCells : Array Value := #[.int .i64 0, .int .i64 0, .int .i64 0, .int .i64 0, .string ⟨#[]⟩, .string ⟨#[]⟩, .string ⟨#[]⟩, .int .i64 0, .int .i64 0, .slice none 0 0]
theorem infoExpr : (Tryz.prog.info? 26).map (fun i => (i.zero, i.size, i.bytes)) = some (some (.agg zCells), 10, 120) := by kernel_rfl
theorem mk_exprs (L : Nat) (hL : L ≤ 1048576) (w : World) : (Instr.makeSlice 24 (.int .i64 (L : Int)) (.int .i64 (L : Int))).run Tryz.prog w = .ok (.slice (some ⟨w.heap.size, 0, none⟩) L L) (w.alloc (.cells (madeCells zCells (L * 10)) 26)) := by
  have hI := infoExpr
  cases hi : Tryz.prog.info? 26 with
  | none => rw [hi] at hI; cases hI
  | some i0 =>
    rw [hi] at hI
    simp only [Option.map_some, Option.some.injEq, Prod.mk.injEq] at hI
    obtain ⟨hz0, hz1, hz2⟩ := hI
    have h := run_make (P := Tryz.prog) w 24 26 i0 _ Tryz.underlying24 hi hz0 .i64 .i64 (L : Int) (L : Int) (by omega) (Int.le_refl _) (by rw [hz2]; omega) (by omega)
    rw [hz1, Int.toNat_natCast] at h
    exact h
theorem z_at (L i j : Nat) (hi : i < L) (hj : j < 10) : (madeCells zCells (L * 10))[i * 10 + j]? = some (zCells[j]!) := by
  have hlt : i * 10 + j < L * 10 := by omega
  have hm : (i * 10 + j) % zCells.size = j := by show (i * 10 + j) % 10 = j; omega
  simp only [madeCells, Array.getElem?_map, Array.getElem?_range, hlt, if_true, Option.map_some, hm]
theorem eat_zeros {w : World} {b : Nat} (e : Ex) (L : Nat) (hL : L ≤ 1048576) (he : e.xs = List.replicate L zeroE) (hb : w.heap[b]? = some (.cells (madeCells zCells (L * 10)) 26 (0, 0))) : EAt w (fun _ => True) 1 e (some ⟨b, 0, none⟩) := by
  refine Or.inr ⟨b, 0, rfl, trivial, fun i hi => ?_⟩
  have hi' : i < L := by rw [he] at hi; simpa using hi
  have hx : e.xs[i] = zeroE := by simp [he]
  rw [hx]
  have cc : ∀ j, j < 10 → w.cell? ⟨b, 0 + i * 10 + j, none⟩ = some (zCells[j]!) := fun j hj => by
    rw [Lib.cell_of_heap hb, Nat.zero_add]
    exact z_at L i j hi' hj
  refine ⟨none, 0, ⟨cc 0 (by omega), cc 1 (by omega), cc 2 (by omega), cc 3 (by omega), cc 4 (by omega), cc 5 (by omega), cc 6 (by omega), cc 7 (by omega), cc 8 (by omega), cc 9 (by omega)⟩, rfl, Nat.zero_le _, Lib.frozen_of_heap hb _⟩
theorem okE_zero : OkE 0 zeroE := ⟨by decide, by decide, by decide, by decide⟩
theorem wrapB_lenZ (n : Int) (x : Int × List UInt8) : (wrapB n x).length ≤ x.2.length + 2 := by
  unfold wrapB
  split <;> simp
theorem oprs_tx3Z : ∀ o ∈ oprs, o.txt.length ≤ 3 := by decide
theorem cals_nm8Z : ∀ c ∈ cals, c.name.length ≤ 8 := by decide
theorem up_lenZ (l : List UInt8) : (toUpperA l).length = l.length := by simp [toUpperA]
def sumLZ : List (Int × List UInt8) → Nat
  | [] => 0
  | x :: r => x.2.length + 4 + sumLZ r
theorem joinT_lenZ : ∀ xs, (joinC.joinT xs).length ≤ sumLZ xs
  | [] => Nat.zero_le _
  | x :: r => by
    have := joinT_lenZ r
    simp only [joinC.joinT, List.length_cons, List.length_append, sumLZ]
    omega
theorem joinC_lenZ : ∀ xs, (joinC xs).length ≤ sumLZ xs
  | [] => Nat.zero_le _
  | x :: r => by
    have := joinT_lenZ r
    simp only [joinC, List.length_append, sumLZ]
    omega
theorem nullB_lenZ (op : Int) : (nullB op).length ≤ 12 := by
  unfold nullB
  split <;> simp
theorem colB_lenZ (t n : List UInt8) : (colB t n).length ≤ t.length + n.length + 1 := by
  unfold colB
  split
  · omega
  · simp only [List.length_append, List.length_cons]; omega
theorem prB_lenZ (k op : Int) (v : Val) (t n : List UInt8) (xs : List (Int × List UInt8)) : (prB k op v t n xs).length ≤ (litV v).length + t.length + n.length + 30 + sumLZ xs := by
  unfold prB
  split
  · simp
  · split
    · omega
    · split
      · have := colB_lenZ t n
        omega
      · split
        · cases ho : opOf k op with
          | none => exact Nat.zero_le _
          | some o =>
            cases xs with
            | nil => exact Nat.zero_le _
            | cons x r =>
              have h1 := oprs_tx3Z o (List.mem_of_find?_eq_some ho)
              have h2 := wrapB_lenZ o.line x
              show (toUpperA o.txt ++ 32 :: wrapB o.line x).length ≤ _
              simp only [List.length_append, List.length_cons, up_lenZ, sumLZ]
              omega
        · split
          · cases ho : opOf k op with
            | none => exact Nat.zero_le _
            | some o =>
              match xs with
              | [] => exact Nat.zero_le _
              | [x] => exact Nat.zero_le _
              | x :: y :: r =>
                have h1 := oprs_tx3Z o (List.mem_of_find?_eq_some ho)
                have h2 := wrapB_lenZ (if o.line = 4 then 5 else o.line) x
                have h3 := wrapB_lenZ (o.line + 1) y
                show (wrapB (if o.line = 4 then 5 else o.line) x ++ 32 :: (toUpperA o.txt ++ 32 :: wrapB (o.line + 1) y)).length ≤ _
                simp only [List.length_append, List.length_cons, up_lenZ, sumLZ]
                omega
          · split
            · cases xs with
              | nil => exact Nat.zero_le _
              | cons x r =>
                have h2 := wrapB_lenZ 5 x
                have h3 := nullB_lenZ op
                show (wrapB 5 x ++ nullB op).length ≤ _
                simp only [List.length_append, sumLZ]
                omega
            · split
              · rename_i c hc
                have h1 := cals_nm8Z c (List.mem_of_find?_eq_some hc)
                have h2 := joinC_lenZ xs
                simp only [List.length_append, List.length_cons, List.length_nil, up_lenZ]
                split
                · simp only [List.length_cons, List.length_nil]; omega
                · omega
              · simp
def sumEZ : List Ex → Nat
  | [] => 0
  | x :: r => (prE x).length + 4 + sumEZ r
theorem sumE_LZ : ∀ xs : List Ex, sumLZ (xs.map fun x => (x.line, prE x)) = sumEZ xs
  | [] => rfl
  | x :: r => by simp only [List.map_cons, sumLZ, sumEZ, sumE_LZ r]
theorem litV_lenZ (a : Val) (h : a.k ≠ 2) : (litV a).length ≤ 2 * a.s.data.toList.length + 10 := by
  have h1 := rep_length_le a.s.data.toList
  have h2 := hexL_length a.s.data.toList
  unfold litV
  split
  · simp
  · split
    · split <;> simp
    · split
      · simp only [List.length_cons, List.length_append, List.length_nil]; omega
      · split
        · simp only [List.length_cons, List.length_append, List.length_nil]; omega
        · simp
theorem litV_any {a : Val} (h : -9223372036854775808 ≤ a.n ∧ a.n ≤ 9223372036854775807) : (litV a).length ≤ 2 * a.s.size + 30 := by
  have hs : a.s.data.toList.length = a.s.size := by rw [Array.length_toList]; rfl
  by_cases h2 : a.k = 2
  · have := itoa_length_le a.n h.1 h.2
    unfold litV
    split
    · simp
    · rw [h2, if_neg (by decide)]
      show (itoa a.n).length ≤ _
      omega
  · have := litV_lenZ a h2
    omega
theorem sumE_zero (L : Nat) : sumEZ (List.replicate L zeroE) ≤ 4 * L := by
  induction L with
  | zero => simp [sumEZ]
  | succ n ih =>
    rw [List.replicate_succ, sumEZ]
    have : (prE zeroE).length = 0 := by rw [prE_eq]; rfl
    omega
theorem prZ_len (e : Gx) (hv : e.v.s.size ≤ 2147483648 ∧ -9223372036854775808 ≤ e.v.n ∧ e.v.n ≤ 9223372036854775807) (ht : e.t.length ≤ 2147483648) (hn : e.n.length ≤ 2147483648) (hx : e.xs.length ≤ 1048576) : (prE ⟨e.k, e.op, e.v, e.t, e.n, List.replicate e.xs.length zeroE⟩).length ≤ 140737488351232 := by
  have h1 := prB_lenZ e.k e.op e.v e.t e.n ((List.replicate e.xs.length zeroE).map fun x => (x.line, prE x))
  rw [sumE_LZ] at h1
  have h2 := sumE_zero e.xs.length
  have h3 := litV_any hv.2
  rw [prE_mk]
  omega
theorem none_eq (e : Gx) : ((⟨(prE ⟨e.k, e.op, e.v, e.t, e.n, List.replicate e.xs.length zeroE⟩).toArray⟩ : ByteArray).toList = []) = (noneB e = true) := by
  have h := pr_none e.k e.op e.v e.t e.n ((List.replicate e.xs.length zeroE).map fun x => (x.line, prE x))
  rw [List.length_map, List.length_replicate] at h
  unfold noneB
  rw [← h, ByteArray.toList_eq, ← prE_mk]
set_option maxHeartbeats 4000000 in
theorem none_any (e : Gx) (p : Option Addr) (c : Nat) (w : World) (tb : Tb w) (hv : e.v.s.size ≤ 2147483648 ∧ -9223372036854775808 ≤ e.v.n ∧ e.v.n ≤ 9223372036854775807) (ht : e.t.length ≤ 2147483648) (hn : e.n.length ≤ 2147483648) (hx : e.xs.length ≤ 1048576) :
    Calls Tryz.prog 42 #[gV e p c] w fun r w' => r = .returned (.bool (noneB e)) ∧ Below w.heap.size w w' := by
  have B0 := albl' w (.cells #[.int .i64 e.k, .int .i64 e.op, .int .i64 e.v.k, .int .i64 e.v.n, .string e.v.s, .string ⟨e.t.toArray⟩, .string ⟨e.n.toArray⟩, .int .i64 e.c, .int .i64 e.y, .slice p e.xs.length c] 26)
  have HX := hid (BGx.new w e p c)
  have TB := hid tb
  have HB := hid B0
  have HPL := hid (prZ_len e hv ht hn hx)
  have HV := hid hv
  have hmk : ∀ w : World, (Instr.makeSlice 24 (.int .i64 (e.xs.length : Int)) (.int .i64 (e.xs.length : Int))).run Tryz.prog w = .ok (.slice (some ⟨w.heap.size, 0, none⟩) e.xs.length e.xs.length) (w.alloc (.cells (madeCells zCells (e.xs.length * 10)) 26)) := fun w => mk_exprs e.xs.length hx w
  have HNE := hid (none_eq e)
  have HZ := hid (fun (w : World) (b : Nat) (hb : w.heap[b]? = some (.cells (madeCells zCells (e.xs.length * 10)) 26 (0, 0))) => eat_zeros ⟨e.k, e.op, e.v, e.t, e.n, List.replicate e.xs.length zeroE⟩ e.xs.length hx rfl hb)
  clear B0 tb hv ht hn hx
  go_enter Tryz.func42, Tryz.ntmps42
  go_upto_region 1 with fail
  generalize hW : w.alloc _ = W at *
  have hWs : W.heap.size = w.heap.size + 1 := by rw [← hW]; simp
  clear hW
  have hXl := HX.out.lt
  obtain ⟨x0, x1, x2, x3, x4, x5, x6, x7, x8, x9⟩ := HX.out.cells
  have hfz := HX.out.frozen 9
  have hfz : w.heap.size < (W.alloc (.cells (madeCells zCells (e.xs.length * 10)) 26)).heap.size := by simp; omega
  go_upto_region 2 with fail
  have d0 : ∀ i, i < 9 → ∀ v, W.cell? ⟨w.heap.size, i, none⟩ = some v → ((W.setCell ⟨w.heap.size, 9, none⟩ (.slice (some ⟨w.heap.size + 1, 0, none⟩) e.xs.length e.xs.length)).alloc (.cells (madeCells zCells (e.xs.length * 10)) 26)).cell? ⟨w.heap.size, i, none⟩ = some v := fun i hi v hc => below_cell (albl' _ _) (by
    have : (9 : Nat) ≠ i := by omega
    simp [go_sem, hc])
  have d9 : ((W.setCell ⟨w.heap.size, 9, none⟩ (.slice (some ⟨w.heap.size + 1, 0, none⟩) e.xs.length e.xs.length)).alloc (.cells (madeCells zCells (e.xs.length * 10)) 26)).cell? ⟨w.heap.size, 9, none⟩ = some (.slice (some ⟨w.heap.size + 1, 0, none⟩) e.xs.length e.xs.length) := below_cell (albl' _ _) (by simp [go_sem, x9])
  have y0 := d0 0 (by omega) _ x0
  have y1 := d0 1 (by omega) _ x1
  have y2 := d0 2 (by omega) _ x2
  have y3 := d0 3 (by omega) _ x3
  have y4 := d0 4 (by omega) _ x4
  have y5 := d0 5 (by omega) _ x5
  have y6 := d0 6 (by omega) _ x6
  have y7 := d0 7 (by omega) _ x7
  have y8 := d0 8 (by omega) _ x8
  have HB3 : Hid (Below w.heap.size w ((W.setCell ⟨w.heap.size, 9, none⟩ (.slice (some ⟨w.heap.size + 1, 0, none⟩) e.xs.length e.xs.length)).alloc (.cells (madeCells zCells (e.xs.length * 10)) 26))) := (HB.out.setCell (p := ⟨w.heap.size, 9, none⟩) (Nat.le_refl _) _).alloc (by simp [World.setCell]; omega) _
  have HH : Hid (((W.setCell ⟨w.heap.size, 9, none⟩ (.slice (some ⟨w.heap.size + 1, 0, none⟩) e.xs.length e.xs.length)).alloc (.cells (madeCells zCells (e.xs.length * 10)) 26)).heap[w.heap.size + 1]? = some (.cells (madeCells zCells (e.xs.length * 10)) 26 (0, 0))) := by
    have := heap_alloc_new (W.setCell ⟨w.heap.size, 9, none⟩ (.slice (some ⟨w.heap.size + 1, 0, none⟩) e.xs.length e.xs.length)) (.cells (madeCells zCells (e.xs.length * 10)) 26)
    rw [show (W.setCell ⟨w.heap.size, 9, none⟩ (.slice (some ⟨w.heap.size + 1, 0, none⟩) e.xs.length e.xs.length)).heap.size = w.heap.size + 1 by simp [World.setCell]; omega] at this
    exact this
  have hX3l : w.heap.size < ((W.setCell ⟨w.heap.size, 9, none⟩ (.slice (some ⟨w.heap.size + 1, 0, none⟩) e.xs.length e.xs.length)).alloc (.cells (madeCells zCells (e.xs.length * 10)) 26)).heap.size := cell_lt d9
  clear d0 x0 x1 x2 x3 x4 x5 x6 x7 x8 x9 hfz
  generalize (W.setCell ⟨w.heap.size, 9, none⟩ (.slice (some ⟨w.heap.size + 1, 0, none⟩) e.xs.length e.xs.length)).alloc (.cells (madeCells zCells (e.xs.length * 10)) 26) = X at *
  have hT : Tb X := TB.out.below HB3.out
  have T1 := print_gen (w := X) 0 e.c e.y e.k e.op e.v e.t e.n (List.replicate e.xs.length zeroE) (some ⟨w.heap.size + 1, 0, none⟩) e.xs.length HV.out (fun x hx => by rw [List.eq_of_mem_replicate hx]; exact okE_zero) (HZ.out _ _ HH.out) hT.gl hT.rd HPL.out
  rw [List.length_replicate] at T1
  have HS := HNE.out
  generalize (⟨(prE ⟨e.k, e.op, e.v, e.t, e.n, List.replicate e.xs.length zeroE⟩).toArray⟩ : ByteArray) = s at *
  have T2 := hid T1
  clear T1 HNE HZ hT HPL hmk HH
  have HE : Hid (s.toList.isEmpty = noneB e) := by
    show _ = _
    rw [Bool.eq_iff_iff, List.isEmpty_iff, HS]
  clear HS
  go_wp2_with (first
    | (go_at_call 62; with_reducible refine T2.out.mono ?_; rintro r w2 ⟨rfl, b2⟩; have HB4 := hid b2; clear b2)
    | fail)
  go_ret
  refine ⟨(show _ = Ending.returned (.bool s.toList.isEmpty) from rfl).trans ?_, HB3.out.trans (HB4.out.mono HB3.out.size)⟩
  rw [HE.out]
end Go.Proofs.YthnmicadlcmecaaGreatDoor
