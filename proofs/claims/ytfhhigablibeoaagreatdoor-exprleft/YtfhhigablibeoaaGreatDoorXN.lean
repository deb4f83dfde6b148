/- What expr of package expr's writer does. Conditions: the tables lie in memory as their text lays them; the values and the bytes lie within the reach. What expr of package expr's writer does, all in all, and Print. Conditions: the tables lie in memory as their text lays them; the values and the bytes lie within the reach. -/
import Derived.Test.YtfhhigablibeoaaGreatDoorExWcall
namespace Go.Proofs.YtfhhigablibeoaaGreatDoor
open Go.RowKit Go.Lib Go.Sort
set_option linter.unusedVariables false
set_option maxRecDepth 20000

/-- What is handed to expr. -/
def StepOk (w0 : World) (k op : Int) (v : Val) (t n : List UInt8) (xs : List Ex) : Prop := ∀ (w : World) (F : Nat → Prop) (b : Nat) (l : List UInt8) (p : Option Addr) (c m : Nat), Cx w0 w F → WF F b l w → (xs ≠ [] → ExprOk w0 m) → (∀ x ∈ xs, OkE m x) → EAt w0 (fun _ => True) (m + 1) ⟨k, op, v, t, n, xs⟩ p → l.length + (prE ⟨k, op, v, t, n, xs⟩).length ≤ 140737488351232 →
  Calls Tryz.prog 21 #[.pointer (some ⟨b, 0, none⟩), .agg #[.int .i64 k, .int .i64 op, .int .i64 v.k, .int .i64 v.n, .string v.s, .string ⟨t.toArray⟩, .string ⟨n.toArray⟩, .int .i64 0, .int .i64 0, .slice p xs.length c]] w fun r w' => r = .returned (.tuple #[]) ∧ WrE F b (l ++ prE ⟨k, op, v, t, n, xs⟩) w w'
theorem prE_mk (k op : Int) (v : Val) (t n : List UInt8) (xs : List Ex) : prE ⟨k, op, v, t, n, xs⟩ = prB k op v t n (xs.map fun x => (x.line, prE x)) := prE_eq _
set_option maxHeartbeats 4000000 in
theorem step_no (w0 : World) (k op : Int) (v : Val) (t n : List UInt8) (xs : List Ex) (hf : fitsB k op xs.length = false) : StepOk w0 k op v t n xs := by
  intro w F b l p c m hc h _ _ _ _
  have hp : prE ⟨k, op, v, t, n, xs⟩ = [] := by
    rw [prE_mk]
    unfold prB
    rw [List.length_map, if_pos hf]
  rw [hp, List.append_nil]
  have S0 := hid ((WS.start h hc.F1).alloc (.cells #[.int .i64 k, .int .i64 op, .int .i64 v.k, .int .i64 v.n, .string v.s, .string ⟨t.toArray⟩, .string ⟨n.toArray⟩, .int .i64 0, .int .i64 0, .slice p xs.length c] 32))
  have T1 := hid (fits_any k op v.k v.n 0 0 v.s ⟨t.toArray⟩ ⟨n.toArray⟩ p xs.length c _ (hc.gl' S0.out))
  unfold FitsOk at T1
  rw [hf] at T1
  clear hc h hp hf
  go_enter Tryz.func21, Tryz.ntmps21
  go_wp2_with (first
    | (go_at_call 38; with_reducible refine T1.out.mono ?_; rintro r w2 ⟨rfl, b2⟩; have S2 := hid (S0.out.below b2); clear b2)
    | fail)
  exact ret0 rfl rfl ⟨rfl, S2.out.fin⟩
set_option maxHeartbeats 8000000 in
theorem step_lit (w0 : World) (op : Int) (v : Val) (t n : List UInt8) (xs : List Ex) (hf : fitsB 1 op xs.length = true) (hv : v.s.size ≤ 2147483648 ∧ -9223372036854775808 ≤ v.n ∧ v.n ≤ 9223372036854775807) : StepOk w0 1 op v t n xs := by
  intro w F b l p c m hc h HE oks eat hlen
  have hp : prE ⟨1, op, v, t, n, xs⟩ = litV v := by
    rw [prE_mk]
    unfold prB
    rw [List.length_map, if_neg (by rw [hf]; simp)]
    rfl
  rw [hp] at hlen ⊢
  have HX := hid (BG.new w 1 op v.k v.n 0 0 v.s ⟨t.toArray⟩ ⟨n.toArray⟩ p xs.length c)
  have S0 := hid ((WS.start h hc.F1).alloc (.cells #[.int .i64 1, .int .i64 op, .int .i64 v.k, .int .i64 v.n, .string v.s, .string ⟨t.toArray⟩, .string ⟨n.toArray⟩, .int .i64 0, .int .i64 0, .slice p xs.length c] 32))
  have T1 := hid (fits_any 1 op v.k v.n 0 0 v.s ⟨t.toArray⟩ ⟨n.toArray⟩ p xs.length c _ (hc.gl' S0.out))
  unfold FitsOk at T1
  rw [hf] at T1
  have HC := hid hc
  have HL := hid hlen
  have HF := hid hf
  have HV := hid hv
  clear hc h HE oks eat hlen hp hf hv
  go_enter Tryz.func21, Tryz.ntmps21
  go_upto_region 1 with fail
  generalize hW : w.alloc _ = W at *
  clear hW
  have hXl := HX.out.lt
  obtain ⟨x0, x1, x2, x3, x4, x5, x6, x7, x8, x9⟩ := HX.out.cells
  have HLT := hid (fun w (r : Ready w) => literal_any v w r HV.out.1 HV.out.2.1 HV.out.2.2)
  unfold Val.v at HLT
  go_wp2_with (first
    | (go_at_call 38; with_reducible refine T1.out.mono ?_; rintro r w2 ⟨rfl, b2⟩; have S2 := hid (S0.out.below b2); have HX2 := hid (HX.out.below b2); obtain ⟨y0, y1, y2, y3, y4, y5, y6, y7, y8, y9⟩ := HX2.out.cells; have T2 := hid (HLT.out w2 (HC.out.rd' S2.out)); clear b2)
    | (go_at_call 40; with_reducible refine T2.out.mono ?_; rintro r w3 ⟨rfl, b3⟩
       have T3 := hid ((S2.out.below b3).text HC.out.F1 [litV v] [.string ⟨(litV v).toArray⟩] rfl 1 1 rfl (by simpa using HL.out) (by simp))
       rw [flat1] at T3
       clear b3)
    | (go_at_call 39; with_reducible refine T3.out.mono ?_; rintro r w4 ⟨rfl, s4, _⟩; have S4 := hid s4; clear s4)
    | fail)
  exact end0 rfl rfl ⟨rfl, S4.out.fin⟩
set_option maxHeartbeats 8000000 in
theorem step_col (w0 : World) (op : Int) (v : Val) (t n : List UInt8) (xs : List Ex) (hf : fitsB 2 op xs.length = true) : StepOk w0 2 op v t n xs := by
  intro w F b l p c m hc h HE oks eat hlen
  have hp : prE ⟨2, op, v, t, n, xs⟩ = colB t n := by
    rw [prE_mk]
    unfold prB
    rw [List.length_map, if_neg (by rw [hf]; simp)]
    rfl
  rw [hp] at hlen ⊢
  have HX := hid (BG.new w 2 op v.k v.n 0 0 v.s ⟨t.toArray⟩ ⟨n.toArray⟩ p xs.length c)
  have S0 := hid ((WS.start h hc.F1).alloc (.cells #[.int .i64 2, .int .i64 op, .int .i64 v.k, .int .i64 v.n, .string v.s, .string ⟨t.toArray⟩, .string ⟨n.toArray⟩, .int .i64 0, .int .i64 0, .slice p xs.length c] 32))
  have T1 := hid (fits_any 2 op v.k v.n 0 0 v.s ⟨t.toArray⟩ ⟨n.toArray⟩ p xs.length c _ (hc.gl' S0.out))
  unfold FitsOk at T1
  rw [hf] at T1
  have HC := hid hc
  have HL := hid hlen
  have HF := hid hf
  clear hc h HE oks eat hlen hp hf
  go_enter Tryz.func21, Tryz.ntmps21
  go_upto_region 1 with fail
  generalize hW : w.alloc _ = W at *
  clear hW
  have hXl := HX.out.lt
  obtain ⟨x0, x1, x2, x3, x4, x5, x6, x7, x8, x9⟩ := HX.out.cells
  go_wp2_with (first
    | (go_at_call 38; with_reducible refine T1.out.mono ?_; rintro r w2 ⟨rfl, b2⟩; have S2 := hid (S0.out.below b2); have HX2 := hid (HX.out.below b2); obtain ⟨y0, y1, y2, y3, y4, y5, y6, y7, y8, y9⟩ := HX2.out.cells; have T2 := hid (S2.out.call (m' := l ++ colB t n) HC.out.F1 fun G hG hW => wcolumn_any 2 op v.k v.n 0 0 v.s t n p xs.length c hW (fun k q => (hG k q).2.1) HL.out); clear b2)
    | (go_at_call 41; with_reducible refine T2.out.mono ?_; rintro r w4 ⟨rfl, s4, _⟩; have S4 := hid s4; clear s4)
    | fail)
  exact end0 rfl rfl ⟨rfl, S4.out.fin⟩
theorem two_of {xs : List Ex} (h : xs.length = 2) : ∃ x y, xs = [x, y] := by
  match xs, h with
  | [x, y], _ => exact ⟨x, y, rfl⟩
theorem one_of {xs : List Ex} (h : xs.length = 1) : ∃ x, xs = [x] := by
  match xs, h with
  | [x], _ => exact ⟨x, rfl⟩
set_option maxHeartbeats 8000000 in
theorem step_two (w0 : World) (op : Int) (v : Val) (t n : List UInt8) (x y : Ex) (o : Opr) (ho : opOf 4 op = some o) : StepOk w0 4 op v t n [x, y] := by
  intro w F b l p c m hc h HE oks eat hlen
  have hf : fitsB 4 op 2 = true := by simp [fitsB, ho]
  have hp : prE ⟨4, op, v, t, n, [x, y]⟩ = prP o x y := by
    rw [prE_mk]
    unfold prB
    rw [List.length_map, if_neg (by rw [show [x, y].length = 2 from rfl, hf]; simp), if_neg (by decide), if_neg (by decide), if_neg (by decide), if_pos rfl, ho]
    rfl
  rw [hp] at hlen ⊢
  have HX := hid (BG.new w 4 op v.k v.n 0 0 v.s ⟨t.toArray⟩ ⟨n.toArray⟩ p 2 c)
  have S0 := hid ((WS.start h hc.F1).alloc (.cells #[.int .i64 4, .int .i64 op, .int .i64 v.k, .int .i64 v.n, .string v.s, .string ⟨t.toArray⟩, .string ⟨n.toArray⟩, .int .i64 0, .int .i64 0, .slice p 2 c] 32))
  have T1 := hid (fits_any 4 op v.k v.n 0 0 v.s ⟨t.toArray⟩ ⟨n.toArray⟩ p 2 c _ (hc.gl' S0.out))
  unfold FitsOk at T1
  rw [hf] at T1
  have HC := hid hc
  have HL := hid hlen
  have HEE := hid (HE (by simp))
  have HKx := hid (oks x (by simp))
  have HKy := hid (oks y (by simp))
  have HA := hid eat
  have HO := hid ho
  clear hc h HE oks eat hlen hp hf ho
  go_enter Tryz.func21, Tryz.ntmps21
  go_upto_region 1 with fail
  generalize hW : w.alloc _ = W at *
  clear hW
  have hXl := HX.out.lt
  obtain ⟨x0, x1, x2, x3, x4, x5, x6, x7, x8, x9⟩ := HX.out.cells
  go_wp2_with (first
    | (go_at_call 38; with_reducible refine T1.out.mono ?_; rintro r w2 ⟨rfl, b2⟩; have S2 := hid (S0.out.below b2); have HX2 := hid (HX.out.below b2); obtain ⟨y0, y1, y2, y3, y4, y5, y6, y7, y8, y9⟩ := HX2.out.cells; have T2 := hid (S2.out.call (m' := l ++ prP o x y) HC.out.F1 fun G hG hW => pair_any HEE.out (HC.out.of S2.out hG) hW op v t n x y p c o HO.out HKx.out HKy.out HA.out HL.out); clear b2)
    | (go_at_call 45; with_reducible refine T2.out.mono ?_; rintro r w4 ⟨rfl, s4, _⟩; have S4 := hid s4; clear s4)
    | fail)
  exact end0 rfl rfl ⟨rfl, S4.out.fin⟩
theorem fits_cal {k op : Int} {n : Nat} (hk : k = 5 ∨ k = 6) (hf : fitsB k op n = true) : ∃ o, calOf k op = some o := by
  unfold fitsB at hf
  rw [if_neg (by omega), if_neg (by omega), if_neg (by omega), if_neg (by omega), if_pos hk] at hf
  cases hc : calOf k op with
  | none => rw [hc] at hf; cases hf
  | some o => exact ⟨o, rfl⟩
theorem prE_cal {k op : Int} {v : Val} {t n : List UInt8} {xs : List Ex} (hk : k = 5 ∨ k = 6) (hf : fitsB k op xs.length = true) {o : Cal} (ho : calOf k op = some o) : prE ⟨k, op, v, t, n, xs⟩ = prC o xs := by
  rw [prE_mk]
  unfold prB
  rw [List.length_map, if_neg (by rw [hf]; simp), if_neg (by omega), if_neg (by omega), if_neg (by omega), if_neg (by omega), if_neg (by omega), ho]
  unfold prC
  simp only [List.isEmpty_map]
set_option maxHeartbeats 8000000 in
theorem step_cal5 (w0 : World) (op : Int) (v : Val) (t n : List UInt8) (xs : List Ex) (o : Cal) (ho : calOf 5 op = some o) (hf : fitsB 5 op xs.length = true) (hxl : xs.length ≤ 3) : StepOk w0 5 op v t n xs := by
  intro w F b l p c m hc h HE oks eat hlen
  have hp : prE ⟨5, op, v, t, n, xs⟩ = prC o xs := prE_cal (by decide) hf ho
  rw [hp] at hlen ⊢
  have HX := hid (BG.new w 5 op v.k v.n 0 0 v.s ⟨t.toArray⟩ ⟨n.toArray⟩ p xs.length c)
  have S0 := hid ((WS.start h hc.F1).alloc (.cells #[.int .i64 5, .int .i64 op, .int .i64 v.k, .int .i64 v.n, .string v.s, .string ⟨t.toArray⟩, .string ⟨n.toArray⟩, .int .i64 0, .int .i64 0, .slice p xs.length c] 32))
  have T1 := hid (fits_any 5 op v.k v.n 0 0 v.s ⟨t.toArray⟩ ⟨n.toArray⟩ p xs.length c _ (hc.gl' S0.out))
  unfold FitsOk at T1
  rw [hf] at T1
  have HC := hid hc
  have HL := hid hlen
  have HF := hid hf
  have HEE := hid HE
  have HKS := hid oks
  have HA := hid eat
  have HO := hid ho
  have HXL := hid hxl
  clear hc h HE oks eat hlen hp hf ho hxl
  go_enter Tryz.func21, Tryz.ntmps21
  go_upto_region 1 with fail
  generalize hW : w.alloc _ = W at *
  clear hW
  have hXl := HX.out.lt
  obtain ⟨x0, x1, x2, x3, x4, x5, x6, x7, x8, x9⟩ := HX.out.cells
  go_wp2_with (first
    | (go_at_call 38; with_reducible refine T1.out.mono ?_; rintro r w2 ⟨rfl, b2⟩; have S2 := hid (S0.out.below b2); have HX2 := hid (HX.out.below b2); obtain ⟨y0, y1, y2, y3, y4, y5, y6, y7, y8, y9⟩ := HX2.out.cells; have T2 := hid (S2.out.call (m' := l ++ prC o xs) HC.out.F1 fun G hG hW => wcall_any xs HEE.out (HC.out.of S2.out hG) hW 5 op v t n p c o HO.out HKS.out HXL.out HA.out HL.out); clear b2)
    | (go_at_call 47; with_reducible refine T2.out.mono ?_; rintro r w4 ⟨rfl, s4, _⟩; have S4 := hid s4; clear s4)
    | fail)
  exact end0 rfl rfl ⟨rfl, S4.out.fin⟩
set_option maxHeartbeats 8000000 in
theorem step_cal6 (w0 : World) (op : Int) (v : Val) (t n : List UInt8) (xs : List Ex) (o : Cal) (ho : calOf 6 op = some o) (hf : fitsB 6 op xs.length = true) (hxl : xs.length ≤ 3) : StepOk w0 6 op v t n xs := by
  intro w F b l p c m hc h HE oks eat hlen
  have hp : prE ⟨6, op, v, t, n, xs⟩ = prC o xs := prE_cal (by decide) hf ho
  rw [hp] at hlen ⊢
  have HX := hid (BG.new w 6 op v.k v.n 0 0 v.s ⟨t.toArray⟩ ⟨n.toArray⟩ p xs.length c)
  have S0 := hid ((WS.start h hc.F1).alloc (.cells #[.int .i64 6, .int .i64 op, .int .i64 v.k, .int .i64 v.n, .string v.s, .string ⟨t.toArray⟩, .string ⟨n.toArray⟩, .int .i64 0, .int .i64 0, .slice p xs.length c] 32))
  have T1 := hid (fits_any 6 op v.k v.n 0 0 v.s ⟨t.toArray⟩ ⟨n.toArray⟩ p xs.length c _ (hc.gl' S0.out))
  unfold FitsOk at T1
  rw [hf] at T1
  have HC := hid hc
  have HL := hid hlen
  have HF := hid hf
  have HEE := hid HE
  have HKS := hid oks
  have HA := hid eat
  have HO := hid ho
  have HXL := hid hxl
  clear hc h HE oks eat hlen hp hf ho hxl
  go_enter Tryz.func21, Tryz.ntmps21
  go_upto_region 1 with fail
  generalize hW : w.alloc _ = W at *
  clear hW
  have hXl := HX.out.lt
  obtain ⟨x0, x1, x2, x3, x4, x5, x6, x7, x8, x9⟩ := HX.out.cells
  go_wp2_with (first
    | (go_at_call 38; with_reducible refine T1.out.mono ?_; rintro r w2 ⟨rfl, b2⟩; have S2 := hid (S0.out.below b2); have HX2 := hid (HX.out.below b2); obtain ⟨y0, y1, y2, y3, y4, y5, y6, y7, y8, y9⟩ := HX2.out.cells; have T2 := hid (S2.out.call (m' := l ++ prC o xs) HC.out.F1 fun G hG hW => wcall_any xs HEE.out (HC.out.of S2.out hG) hW 6 op v t n p c o HO.out HKS.out HXL.out HA.out HL.out); clear b2)
    | (go_at_call 47; with_reducible refine T2.out.mono ?_; rintro r w4 ⟨rfl, s4, _⟩; have S4 := hid s4; clear s4)
    | fail)
  exact end0 rfl rfl ⟨rfl, S4.out.fin⟩
set_option maxHeartbeats 8000000 in
theorem step_null (w0 : World) (op : Int) (v : Val) (t n : List UInt8) (x : Ex) (hf : fitsB 7 op 1 = true) : StepOk w0 7 op v t n [x] := by
  intro w F b l p c m hc h HE oks eat hlen
  have hp : prE ⟨7, op, v, t, n, [x]⟩ = wrapB 5 (x.line, prE x) ++ nullB op := by
    rw [prE_mk]
    unfold prB
    rw [List.length_map, if_neg (by rw [show [x].length = 1 from rfl, hf]; simp)]
    rfl
  rw [hp] at hlen ⊢
  have HX := hid (BG.new w 7 op v.k v.n 0 0 v.s ⟨t.toArray⟩ ⟨n.toArray⟩ p 1 c)
  have S0 := hid ((WS.start h hc.F1).alloc (.cells #[.int .i64 7, .int .i64 op, .int .i64 v.k, .int .i64 v.n, .string v.s, .string ⟨t.toArray⟩, .string ⟨n.toArray⟩, .int .i64 0, .int .i64 0, .slice p 1 c] 32))
  have T1 := hid (fits_any 7 op v.k v.n 0 0 v.s ⟨t.toArray⟩ ⟨n.toArray⟩ p 1 c _ (hc.gl' S0.out))
  unfold FitsOk at T1
  rw [hf] at T1
  have HC := hid hc
  have HL := hid hlen
  have HEE := hid (HE (by simp))
  have HKx := hid (oks x (by simp))
  have HA := hid (fun X (B : Below w0.heap.size w0 X) => eat_opd eat B (i := 0) (by simp))
  have HNT := hid (fun w => nulltest_any op w)
  clear hc h HE oks eat hlen hp hf
  go_enter Tryz.func21, Tryz.ntmps21
  go_upto_region 1 with fail
  generalize hW : w.alloc _ = W at *
  clear hW
  have hXl := HX.out.lt
  obtain ⟨x0, x1, x2, x3, x4, x5, x6, x7, x8, x9⟩ := HX.out.cells
  go_upto_region 14 with (first
    | (go_at_call 38; with_reducible refine T1.out.mono ?_; rintro r w2 ⟨rfl, b2⟩; have S2 := hid (S0.out.below b2); have HX2 := hid (HX.out.below b2); obtain ⟨y0, y1, y2, y3, y4, y5, y6, y7, y8, y9⟩ := HX2.out.cells; skip; clear b2)
    | fail)
  obtain ⟨blk, off, q, cx, rfl, hx, ex, hblk⟩ := HA.out w2 (HC.out.low S2.out)
  simp only [Nat.zero_mul, Nat.add_zero, List.getElem_cons_zero] at hx ex
  obtain ⟨a0, a1, a2, a3, a4, a5, a6, a7, a8, a9⟩ := hx
  have T3 := hid (wsOperand HEE.out HC.out S2.out x q cx 5 HKx.out ex (by have := HL.out; rw [List.length_append] at this; omega))
  go_wp2_with (first
    | (go_at_call 44; with_reducible refine T3.out.mono ?_; rintro r w4 ⟨rfl, s4, G4, c4, g4, _⟩
       have HX4 := hid (HX2.out.chg c4 (g4 _ (Or.inr rfl)))
       obtain ⟨z0, z1, z2, z3, z4, z5, z6, z7, z8, z9⟩ := HX4.out.cells
       have S4 := hid s4
       clear s4 c4 g4)
    | (go_at_call 46; with_reducible refine (HNT.out _).mono ?_; rintro r w5 ⟨rfl, hw5⟩; obtain rfl := hw5.symm
       have T5 := hid (S4.out.text HC.out.F1 [nullB op] [.string ⟨(nullB op).toArray⟩] rfl 1 1 rfl (by have := HL.out; simp only [List.length_append] at this ⊢; simp; omega) (by simp))
       rw [flat1] at T5)
    | (go_at_call 39; with_reducible refine T5.out.mono ?_; rintro r w6 ⟨rfl, s6, _⟩; have S6 := hid s6; clear s6)
    | fail)
  refine end0 rfl rfl ⟨rfl, ?_⟩
  have := S6.out.fin
  simpa using this
end Go.Proofs.YtfhhigablibeoaaGreatDoor
namespace Go.Proofs.YtfhhigablibeoaaGreatDoor
open Go.RowKit Go.Lib Go.Sort
set_option linter.unusedVariables false
set_option maxRecDepth 20000

set_option maxHeartbeats 8000000 in
theorem step_one (w0 : World) (op : Int) (v : Val) (t n : List UInt8) (x : Ex) (o : Opr) (ho : opOf 3 op = some o) : StepOk w0 3 op v t n [x] := by
  intro w F b l p c m hc h HE oks eat hlen
  have hf : fitsB 3 op 1 = true := by simp [fitsB, ho]
  have hp : prE ⟨3, op, v, t, n, [x]⟩ = toUpperA o.txt ++ 32 :: wrapB o.line (x.line, prE x) := by
    rw [prE_mk]
    unfold prB
    rw [List.length_map, if_neg (by rw [show [x].length = 1 from rfl, hf]; simp), if_neg (by decide), if_neg (by decide), if_pos rfl, ho]
    rfl
  rw [hp] at hlen ⊢
  have HX := hid (BG.new w 3 op v.k v.n 0 0 v.s ⟨t.toArray⟩ ⟨n.toArray⟩ p 1 c)
  have S0 := hid ((WS.start h hc.F1).alloc (.cells #[.int .i64 3, .int .i64 op, .int .i64 v.k, .int .i64 v.n, .string v.s, .string ⟨t.toArray⟩, .string ⟨n.toArray⟩, .int .i64 0, .int .i64 0, .slice p 1 c] 32))
  have T1 := hid (fits_any 3 op v.k v.n 0 0 v.s ⟨t.toArray⟩ ⟨n.toArray⟩ p 1 c _ (hc.gl' S0.out))
  unfold FitsOk at T1
  rw [hf] at T1
  have HC := hid hc
  have HEE := hid (HE (by simp))
  have HKx := hid (oks x (by simp))
  have HA := hid (fun X (B : Below w0.heap.size w0 X) => eat_opd eat B (i := 0) (by simp))
  have HOP := hid (fun w (g : Gl w) => operatorOf_any 3 op v.k v.n 0 0 v.s ⟨t.toArray⟩ ⟨n.toArray⟩ p 1 c w g)
  rw [ho] at HOP
  unfold oprO at HOP
  simp only [Option.isSome_some] at HOP
  have hmem := oprs_ok o (opOf_mem ho)
  have HU := hid (fun w => upper_any o.txt (by omega) hmem.1.2 w)
  have hL2 : l.length + (toUpperA o.txt ++ [32]).length ≤ 140737488351232 := by simp at hlen ⊢; omega
  have hL3 : (l ++ (toUpperA o.txt ++ [32])).length + (wrapB o.line (x.line, prE x)).length ≤ 140737488351232 := by simp at hlen ⊢; omega
  have HL2 := hid hL2
  have HL3 := hid hL3
  clear hc h HE oks eat hlen hp hf ho hmem hL2 hL3
  go_enter Tryz.func21, Tryz.ntmps21
  go_upto_region 1 with fail
  generalize hW : w.alloc _ = W at *
  clear hW
  have hXl := HX.out.lt
  obtain ⟨x0, x1, x2, x3, x4, x5, x6, x7, x8, x9⟩ := HX.out.cells
  go_upto_region 9 with (first
    | (go_at_call 38; with_reducible refine T1.out.mono ?_; rintro r w2 ⟨rfl, b2⟩; have S2 := hid (S0.out.below b2); have HX2 := hid (HX.out.below b2); obtain ⟨y0, y1, y2, y3, y4, y5, y6, y7, y8, y9⟩ := HX2.out.cells; have T2 := hid (HOP.out w2 (HC.out.gl' S2.out)); clear b2 x0 x1 x2 x3 x4 x5 x6 x7 x8 x9)
    | (go_at_call 42; with_reducible refine T2.out.mono ?_; rintro r w3 ⟨rfl, b3⟩; have S3 := hid (S2.out.below b3); have HX3 := hid (HX2.out.below b3); clear b3 y0 y1 y2 y3 y4 y5 y6 y7 y8 y9)
    | fail)
  have S4 := hid (S3.out.alloc (.cells #[.int .i64 o.kind, .int .i64 o.op, .int .i64 o.tok, .string ⟨o.txt.toArray⟩, .int .i64 o.line] 87))
  have HX4 := hid (HX3.out.below (albl w3 (.cells #[.int .i64 o.kind, .int .i64 o.op, .int .i64 o.tok, .string ⟨o.txt.toArray⟩, .int .i64 o.line] 87)))
  have HO4 := hid (show OB (w3.alloc (.cells #[.int .i64 o.kind, .int .i64 o.op, .int .i64 o.tok, .string ⟨o.txt.toArray⟩, .int .i64 o.line] 87)) w3.heap.size o from heap_alloc_new w3 _)
  generalize hW4 : w3.alloc _ = W4 at *
  clear hW4 hXl
  have hX4l := HX4.out.lt
  have hO4l := HO4.out.lt
  obtain ⟨o0, o1, o2, o3, o4⟩ := HO4.out.cells
  have T4 := hid (HU.out W4)
  go_upto_region 10 with (first
    | (go_at_call 43; with_reducible refine T4.out.mono ?_; rintro r w5 ⟨rfl, b5⟩
       have HX5 := hid (HX4.out.below b5)
       have HO5 := hid (HO4.out.below b5)
       have S5 := hid (S4.out.below b5)
       have T5 := hid (S5.out.text HC.out.F1 [toUpperA o.txt, [32]] [.string ⟨(toUpperA o.txt).toArray⟩, .string ⟨#[32]⟩] rfl 2 2 rfl (by have := HL2.out; simp at this ⊢; omega) (by simp))
       rw [flat2] at T5
       clear b5)
    | (go_at_call 39; with_reducible refine T5.out.mono ?_; rintro r w6 ⟨rfl, s6, G6, c6, g6, g6f⟩
       have HX6 := hid ((HX5.out.chg (Chg.of_below (F := fun _ => False) (albl w5 _)) id).chg c6 (g6 _ (Or.inl (Or.inl (Or.inr rfl)))))
       have HO6 := hid ((HO5.out.chg (Chg.of_below (F := fun _ => False) (albl w5 _)) id).chg c6 (g6 _ (Or.inl (Or.inr rfl))))
       have S6 := hid s6
       have S6d := hid (s6.below (Below.drew (Below.refl _ _)))
       clear s6 c6 g6 g6f)
    | fail)
  obtain ⟨blk, off, q, cx, rfl, hx, ex, hblk⟩ := HA.out w6 (HC.out.low S6.out)
  simp only [Nat.zero_mul, Nat.add_zero, List.getElem_cons_zero] at hx ex
  have T7 := hid (wsOperand HEE.out HC.out S6d.out x q cx o.line HKx.out ex HL3.out)
  have hcell : Hid (∀ (G : Nat → Prop) w7, Chg G w6.drew w7 → (∀ k, ((((False ∨ k = w.heap.size) ∨ k = w3.heap.size) ∨ k = w5.heap.size) → ¬ G k)) → ¬ G blk → (fun w' => w'.cell? ⟨w.heap.size, 9, none⟩ = some (.slice (some ⟨blk, off, none⟩) 1 c) ∧ w'.cell? ⟨blk, off, none⟩ = some (.int .i64 x.k) ∧ w'.cell? ⟨blk, off + 1, none⟩ = some (.int .i64 x.op) ∧ w'.cell? ⟨blk, off + 2, none⟩ = some (.int .i64 x.v.k) ∧ w'.cell? ⟨blk, off + 3, none⟩ = some (.int .i64 x.v.n) ∧ w'.cell? ⟨blk, off + 4, none⟩ = some (.string x.v.s) ∧ w'.cell? ⟨blk, off + 5, none⟩ = some (.string ⟨x.t.toArray⟩) ∧ w'.cell? ⟨blk, off + 6, none⟩ = some (.string ⟨x.n.toArray⟩) ∧ w'.cell? ⟨blk, off + 7, none⟩ = some (.int .i64 0) ∧ w'.cell? ⟨blk, off + 8, none⟩ = some (.int .i64 0) ∧ w'.cell? ⟨blk, off + 9, none⟩ = some (.slice q x.xs.length cx) ∧ w'.cell? ⟨w3.heap.size, 4, none⟩ = some (.int .i64 o.line)) w7) := fun G w7 c7 g7 gb => by
    have X7 := (HX6.out.below (w' := w6.drew) (Below.drew (Below.refl _ _))).chg c7 (g7 _ (Or.inl (Or.inl (Or.inr rfl))))
    have O7 := (HO6.out.below (w' := w6.drew) (Below.drew (Below.refl _ _))).chg c7 (g7 _ (Or.inl (Or.inr rfl)))
    have E7 := (hx.chg (F := fun _ => False) (w' := w6.drew) (Chg.of_below (Below.drew (Below.refl _ _))) id).chg c7 gb
    obtain ⟨e0, e1, e2, e3, e4, e5, e6, e7, e8, e9⟩ := E7
    exact ⟨X7.cells.2.2.2.2.2.2.2.2.2, e0, e1, e2, e3, e4, e5, e6, e7, e8, e9, O7.cells.2.2.2.2⟩
  have K6 := hid (hcell.out (fun _ => False) w6.drew (Chg.refl _ _) (fun _ _ => id) id)
  clear hx ex o0 o1 o2 o3 o4
  go_region_held_law (fun w' => w'.cell? ⟨w.heap.size, 9, none⟩ = some (.slice (some ⟨blk, off, none⟩) 1 c) ∧ w'.cell? ⟨blk, off, none⟩ = some (.int .i64 x.k) ∧ w'.cell? ⟨blk, off + 1, none⟩ = some (.int .i64 x.op) ∧ w'.cell? ⟨blk, off + 2, none⟩ = some (.int .i64 x.v.k) ∧ w'.cell? ⟨blk, off + 3, none⟩ = some (.int .i64 x.v.n) ∧ w'.cell? ⟨blk, off + 4, none⟩ = some (.string x.v.s) ∧ w'.cell? ⟨blk, off + 5, none⟩ = some (.string ⟨x.t.toArray⟩) ∧ w'.cell? ⟨blk, off + 6, none⟩ = some (.string ⟨x.n.toArray⟩) ∧ w'.cell? ⟨blk, off + 7, none⟩ = some (.int .i64 0) ∧ w'.cell? ⟨blk, off + 8, none⟩ = some (.int .i64 0) ∧ w'.cell? ⟨blk, off + 9, none⟩ = some (.slice q x.xs.length cx) ∧ w'.cell? ⟨w3.heap.size, 4, none⟩ = some (.int .i64 o.line)) (first | exact K6.out | exact K7.out) (first
    | (go_at_call 44; with_reducible refine T7.out.mono ?_; rintro r w7 ⟨rfl, s7, G7, c7, g7, g7f⟩; have S7 := hid s7; have K7 := hid (hcell.out G7 w7 c7 g7 (HC.out.old g7f hblk)); clear s7 c7 g7 g7f))
  go_wp2_with fail
  refine end0 rfl rfl ⟨rfl, ?_⟩
  have := S7.out.fin
  simpa using this
/-- Every step. -/
theorem step_any (w0 : World) (k op : Int) (v : Val) (t n : List UInt8) (xs : List Ex) (hv : v.s.size ≤ 2147483648 ∧ -9223372036854775808 ≤ v.n ∧ v.n ≤ 9223372036854775807) (hxl : xs.length ≤ 3) : StepOk w0 k op v t n xs := by
  cases hf : fitsB k op xs.length with
  | false => exact step_no w0 k op v t n xs hf
  | true =>
    by_cases h1 : k = 1
    · subst h1; exact step_lit w0 op v t n xs hf hv
    by_cases h2 : k = 2
    · subst h2; exact step_col w0 op v t n xs hf
    by_cases h3 : k = 3
    · subst h3
      have hf' : ((opOf 3 op).isSome && xs.length == 1) = true := hf
      simp only [Bool.and_eq_true, beq_iff_eq, Option.isSome_iff_exists] at hf'
      obtain ⟨⟨o, ho⟩, hl⟩ := hf'
      obtain ⟨x, rfl⟩ := one_of hl
      exact step_one w0 op v t n x o ho
    by_cases h4 : k = 4
    · subst h4
      have hf' : ((opOf 4 op).isSome && xs.length == 2) = true := hf
      simp only [Bool.and_eq_true, beq_iff_eq, Option.isSome_iff_exists] at hf'
      obtain ⟨⟨o, ho⟩, hl⟩ := hf'
      obtain ⟨x, y, rfl⟩ := two_of hl
      exact step_two w0 op v t n x y o ho
    by_cases h7 : k = 7
    · subst h7
      have hf' : ((op == 0 || op == 1) && xs.length == 1) = true := hf
      simp only [Bool.and_eq_true, beq_iff_eq] at hf'
      obtain ⟨x, rfl⟩ := one_of hf'.2
      exact step_null w0 op v t n x hf
    by_cases h5 : k = 5
    · subst h5
      obtain ⟨o, ho⟩ := fits_cal (Or.inl rfl) hf
      exact step_cal5 w0 op v t n xs o ho hf hxl
    by_cases h6 : k = 6
    · subst h6
      obtain ⟨o, ho⟩ := fits_cal (Or.inr rfl) hf
      exact step_cal6 w0 op v t n xs o ho hf hxl
    · exfalso
      unfold fitsB at hf
      rw [if_neg (by omega), if_neg (by omega), if_neg (by omega), if_neg (by omega), if_neg (by omega)] at hf
      cases hf
/-- Every expression. -/
theorem expr_ok (w0 : World) : ∀ m, ExprOk w0 m
  | 0 => fun w F b l e p c hc h ok eat hlen => by
    have hb := ok.base
    obtain ⟨k, op, v, t, n, xs⟩ := e
    obtain rfl : xs = [] := eat
    exact step_any w0 k op v t n [] ⟨hb.1, hb.2.1, hb.2.2.1⟩ (by simp) w F b l p c 0 hc h (fun q => absurd rfl q) (fun x hx => by simp at hx) (Or.inl rfl) hlen
  | m + 1 => fun w F b l e p c hc h ok eat hlen => by
    have hb := ok.base
    have hk := ok.2
    obtain ⟨k, op, v, t, n, xs⟩ := e
    exact step_any w0 k op v t n xs ⟨hb.1, hb.2.1, hb.2.2.1⟩ hb.2.2.2 w F b l p c m hc h (fun _ => expr_ok w0 m) hk eat hlen
end Go.Proofs.YtfhhigablibeoaaGreatDoor
