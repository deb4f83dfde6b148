/- The law NodeSizes returns true and writes nothing that was there. Conditions: the node lies within the reach. -/
import Derived.Test.YtilmlegkkgiahaaNdAc
namespace Go.Proofs.Ytilmlegkkgiahaa
open Go.RowKit Go.Lib Go.Sort
set_option linter.unusedVariables false
set_option maxRecDepth 20000

set_option maxHeartbeats 4000000 in
theorem nsizes_bad {F : Nat → Prop} (cv kv dv : Value) (n : Nd) (at_ : Int) (w : World) (h : NV w F cv kv dv n) (hr : n.err ≠ 0) :
    Calls Try.prog 8 #[.agg #[.bool n.leaf, cv, kv, dv], .int .i64 at_] w fun e w' => e = .returned (.bool true) ∧ Below w.heap.size w w' := by
  have HN := hid h
  obtain ⟨pc, cc, pk, ck, pd, cd, rfl, rfl, rfl⟩ := h.formed
  have HB0 := hid (alloc_below w (.cells #[.bool n.leaf, .slice pc n.cells.length cc, .slice pk n.keys.length ck, .slice pd n.kids.length cd] 26))
  have HX0 := hid (Bx.new w (.bool n.leaf) (.slice pc n.cells.length cc) (.slice pk n.keys.length ck) (.slice pd n.kids.length cd) 26)
  have HN0 := hid (HN.out.below HB0.out)
  clear h HN
  have A2 := hid (fun w' cv kv dv (G : Nat → Prop) (N : NV w' G cv kv dv n) => encode_wrong cv kv dv n w' N hr)
  have her0 : (n.err != 0) = true := bne_iff_ne.2 hr
  generalize n.err = er at *
  clear hr
  go_enter Try.func8, Try.ntmps8
  go_wp2_with (first
    | (go_at_call 25; with_reducible refine (works_any _).mono ?_; rintro e w1 ⟨rfl, b1⟩; obtain ⟨x0, x1, x2, x3⟩ := (HX0.out.below b1).get; have HX1 := hid (HX0.out.below b1); have HN1 := hid (HN0.out.below b1); have HB1 := hid (HB0.out.trans (b1.mono HB0.out.size)); have A1 := hid (its_any _ _ _ n _ HN1.out); unfold itEnd at A1; clear b1)
    | (go_at_call 9; with_reducible refine A1.out.mono ?_; rintro e w2 ⟨cv2, kv2, dv2, rfl, N2, B2⟩; obtain ⟨p1, m1, p2, m2, p3, m3, hv1, hv2, hv3⟩ := N2.formed; subst hv1 hv2 hv3; have HN2 := hid N2; have HX2 := hid (HX1.out.below B2); have HM2 := hid (HN1.out.below B2); have HBx := hid (alloc_below w2 (.cells #[.bool n.leaf, .slice p1 n.cells.length m1, .slice p2 n.keys.length m2, .slice p3 n.kids.length m3] 29)); have HX3 := hid (Bx.new w2 (.bool n.leaf) (.slice p1 n.cells.length m1) (.slice p2 n.keys.length m2) (.slice p3 n.kids.length m3) 29); have HN3 := hid (N2.below HBx.out); have HB3 := hid ((HB1.out.trans (B2.mono HB1.out.size)).trans (HBx.out.mono (Nat.le_trans HB1.out.size B2.size))); have HW1b := hid (Nat.le_trans B2.size HBx.out.size); have A2' := hid (A2.out _ _ _ _ _ HN3.out); clear N2 B2 A1 x0 x1 x2 x3 HX1 HN1 HX2 HM2 HN2 HBx)
    | (go_at_call 10; with_reducible refine A2'.out.mono ?_; rintro e w3 ⟨rfl, b3⟩; have HB4 := hid (HB3.out.trans (b3.mono HB3.out.size)); clear b3)
    | fail)
  go_ret
  exact ⟨rfl, HB4.out⟩
set_option maxHeartbeats 4000000 in
theorem nsizes_inner {F : Nat → Prop} (cv kv dv : Value) (n : Nd) (at_ : Int) (w : World) (h : NV w F cv kv dv n) (hr : n.err = 0) (hl : n.leaf = false) :
    Calls Try.prog 8 #[.agg #[.bool n.leaf, cv, kv, dv], .int .i64 at_] w fun e w' => e = .returned (.bool true) ∧ Below w.heap.size w w' := by
  obtain ⟨leaf, cells, keys, kids⟩ := n
  simp only at hl
  subst hl
  have HN := hid h
  obtain ⟨pc, cc, pk, ck, pd, cd, rfl, rfl, rfl⟩ := h.formed
  have HB0 := hid (alloc_below w (.cells #[.bool false, .slice pc cells.length cc, .slice pk keys.length ck, .slice pd kids.length cd] 26))
  have HX0 := hid (Bx.new w (.bool false) (.slice pc cells.length cc) (.slice pk keys.length ck) (.slice pd kids.length cd) 26)
  have HN0 := hid (HN.out.below HB0.out)
  clear h HN
  have hri := (Nd.right_iff _).2 hr
  have HL : Hid ((⟨false, cells, keys, kids⟩ : Nd).load.length = 508) := Nd.load_len hri
  have HZr : Hid (∀ i, (⟨false, cells, keys, kids⟩ : Nd).len ≤ i → (h : i < (⟨false, cells, keys, kids⟩ : Nd).load.length) → (⟨false, cells, keys, kids⟩ : Nd).load[i] = 0) := fun i h1 h2 => by
    have e := load_noughts hri h1 (by rw [HL.out] at h2; exact h2)
    rw [List.getElem?_eq_getElem h2] at e
    exact Option.some.inj e
  have hlen : (⟨false, cells, keys, kids⟩ : Nd).len ≤ 508 := hri.2
  have HSz : Hid ((⟨false, cells, keys, kids⟩ : Nd).sz = (((⟨false, cells, keys, kids⟩ : Nd).len : Nat) : Int)) := by show wrap64 _ = _; unfold wrap64; omega
  have A2 := hid (fun w' cv kv dv (G : Nat → Prop) (N : NV w' G cv kv dv ⟨false, cells, keys, kids⟩) => encode_right cv kv dv _ w' N hr)
  have A3 := hid (fun w' cv kv dv (G : Nat → Prop) (N : NV w' G cv kv dv ⟨false, cells, keys, kids⟩) => size_any cv kv dv _ w' N)
  rw [HSz.out] at A3
  simp only at A2 A3
  generalize (⟨false, cells, keys, kids⟩ : Nd).load = ld at *
  generalize hLL : (⟨false, cells, keys, kids⟩ : Nd).len = L at *
  have HLL := hid hLL
  clear hr hri hLL
  go_enter Try.func8, Try.ntmps8
  go_wp2_with (first
    | (go_at_call 25; with_reducible refine (works_any _).mono ?_; rintro e w1 ⟨rfl, b1⟩; obtain ⟨x0, x1, x2, x3⟩ := (HX0.out.below b1).get; have HX1 := hid (HX0.out.below b1); have HN1 := hid (HN0.out.below b1); have HB1 := hid (HB0.out.trans (b1.mono HB0.out.size)); have A1 := hid (its_any _ _ _ (⟨false, cells, keys, kids⟩ : Nd) _ HN1.out); unfold itEnd at A1; clear b1)
    | (go_at_call 9; with_reducible refine A1.out.mono ?_; rintro e w2 ⟨cv2, kv2, dv2, rfl, N2, B2⟩; obtain ⟨p1, m1, p2, m2, p3, m3, hv1, hv2, hv3⟩ := N2.formed; subst hv1 hv2 hv3; have HN2 := hid N2; have HX2 := hid (HX1.out.below B2); have HM2 := hid (HN1.out.below B2); have HBx := hid (alloc_below w2 (.cells #[.bool false, .slice p1 cells.length m1, .slice p2 keys.length m2, .slice p3 kids.length m3] 29)); have HX3 := hid (Bx.new w2 (.bool false) (.slice p1 cells.length m1) (.slice p2 keys.length m2) (.slice p3 kids.length m3) 29); have HN3 := hid (N2.below HBx.out); have HB3 := hid ((HB1.out.trans (B2.mono HB1.out.size)).trans (HBx.out.mono (Nat.le_trans HB1.out.size B2.size))); have HW1b := hid (Nat.le_trans B2.size HBx.out.size); have A2' := hid (A2.out _ _ _ _ _ HN3.out); clear N2 B2 A1 x0 x1 x2 x3 HX1 HN1 HX2 HM2 HN2 HBx)
    | (go_at_call 10; with_reducible refine A2'.out.mono ?_; rintro e w3 ⟨b3, va, rfl, oa⟩; obtain ⟨pa, ca, hva⟩ := oa.formN 508 HL.out; subst hva; obtain ⟨y0, y1, y2, y3⟩ := (HX3.out.below b3).get; have HX4 := hid (HX3.out.below b3); have HN4 := hid (HN3.out.below b3); have HO4 := hid oa; have A3' := hid (A3.out _ _ _ _ _ HN4.out); have HB4 := hid (HB3.out.trans (b3.mono HB3.out.size)); have b3s := hid b3.size; clear b3 oa A2 A2')
    | (go_at_call 12; with_reducible refine A3'.out.mono ?_; rintro e w5 ⟨rfl, b5⟩; have HX5 := hid (HX4.out.below b5); have HN5 := hid (HN4.out.below b5); have HV5 := hid ((HO4.out.bv (Nat.le_trans (Nat.le_of_eq HL.out) (by decide))).below b5); have HB5 := hid (HB4.out.trans (b5.mono HB4.out.size)); have HW1a := hid (Nat.le_trans HW1b.out (Nat.le_trans b3s.out b5.size)); clear b5 A3 A3' y0 y1 y2 y3)
    | fail)
  clear HX3 HN3 HX4 HN4 HO4 HB3 HB4
  go_loopw [8] (fun i wr => ∃ k : Nat, i = .int .i64 (k : Int) ∧ L ≤ k ∧ k ≤ 508 ∧ wr = w5) (fun i _ => 508 - (RowKit.intOf i).toNat)
  case atStart => exact ⟨L, rfl, Nat.le_refl _, hlen, rfl⟩
  case round =>
    obtain ⟨k, rfl, hk, hk2, rfl⟩ := hrel
    by_cases hx : k < 508
    · have hkl : k < ld.length := by rw [HL.out]; exact hx
      obtain ⟨b, off, hp, _, c0⟩ := HV5.out.at (i := k) hkl
      rw [HZr.out k hk hkl, show (((0 : UInt8).toNat : Nat) : Int) = 0 from rfl] at c0
      subst hp
      go_wp2
      go_roundw
      case rel => exact ⟨k + 1, by go_num, by omega, by omega, by first | rfl | trivial⟩
      case measure => simp [RowKit.intOf]; omega
    · obtain rfl : k = 508 := by omega
      rw [show ((508 : Nat) : Int) = 508 from rfl]
      obtain ⟨x0, x1, x2, x3⟩ := HX5.out.get
      go_wp2
      go_ret
      exact ⟨rfl, HB5.out⟩
set_option maxHeartbeats 8000000 in
theorem nsizes_leaf {F : Nat → Prop} (cv kv dv : Value) (n : Nd) (at_ : Int) (w : World) (h : NV w F cv kv dv n) (hr : n.err = 0) (hl : n.leaf = true) :
    Calls Try.prog 8 #[.agg #[.bool n.leaf, cv, kv, dv], .int .i64 at_] w fun e w' => e = .returned (.bool true) ∧ Below w.heap.size w w' := by
  obtain ⟨leaf, cells, keys, kids⟩ := n
  simp only at hl
  subst hl
  have HN := hid h
  obtain ⟨pc, cc, pk, ck, pd, cd, rfl, rfl, rfl⟩ := h.formed
  have HB0 := hid (alloc_below w (.cells #[.bool true, .slice pc cells.length cc, .slice pk keys.length ck, .slice pd kids.length cd] 26))
  have HX0 := hid (Bx.new w (.bool true) (.slice pc cells.length cc) (.slice pk keys.length ck) (.slice pd kids.length cd) 26)
  have HN0 := hid (HN.out.below HB0.out)
  clear h HN
  have hlr := leaf_right hr rfl
  simp only at hlr
  have HHv : Hid (∀ k, (hk : k < cells.length) → (⟨true, cells.eraseIdx k, [], []⟩ : Nd).sz + (cells[k].len : Int) = (⟨true, cells, keys, kids⟩ : Nd).sz ∧ (0 ≤ (⟨true, cells.eraseIdx k, [], []⟩ : Nd).sz ∧ (⟨true, cells, keys, kids⟩ : Nd).sz ≤ 508) ∧ ((⟨true, cells.eraseIdx k, [], []⟩ : Nd).err == 0) = decide ((cells.length : Int) > 1) ∧ cells[k].ok = true) := fun k hk => by
    have hri := (Nd.right_iff _).2 hr
    rw [hlr] at hri
    have e1 := lenCells_erase cells k hk
    have e2 := hri.2
    have e3 : cells.all Cl.ok = true := by
      have := hri.1
      simp only [Nd.fields, if_true, Bool.and_eq_true] at this
      exact this.2.2.2.1
    refine ⟨?_, ?_, ?_, List.all_eq_true.1 e3 _ (List.getElem_mem hk)⟩
    · simp only [Nd.len, if_true, Nd.sz, wrap64] at e2 ⊢
      omega
    · simp only [Nd.len, if_true, Nd.sz, wrap64] at e2 ⊢
      omega
    · by_cases h1 : 1 < cells.length
      · rw [(Nd.right_iff _).1 (erase_right hri hk h1), decide_eq_true (by omega)]
        rfl
      · have h2 : cells.eraseIdx k = [] := List.length_eq_zero_iff.1 (by rw [List.length_eraseIdx]; split <;> omega)
        rw [h2, decide_eq_false (by omega)]
        simp [Nd.err, Nd.fields]
  have hne : 1 ≤ cells.length := by
    have hri := (Nd.right_iff _).2 hr
    have := hri.1
    simp only [Nd.fields, if_true, Bool.and_eq_true] at this
    cases cells with
    | nil => simp at this
    | cons c r => simp
  clear hlr
  have hri := (Nd.right_iff _).2 hr
  have HL : Hid ((⟨true, cells, keys, kids⟩ : Nd).load.length = 508) := Nd.load_len hri
  have HZr : Hid (∀ i, (⟨true, cells, keys, kids⟩ : Nd).len ≤ i → (h : i < (⟨true, cells, keys, kids⟩ : Nd).load.length) → (⟨true, cells, keys, kids⟩ : Nd).load[i] = 0) := fun i h1 h2 => by
    have e := load_noughts hri h1 (by rw [HL.out] at h2; exact h2)
    rw [List.getElem?_eq_getElem h2] at e
    exact Option.some.inj e
  have hlen : (⟨true, cells, keys, kids⟩ : Nd).len ≤ 508 := hri.2
  have HSz : Hid ((⟨true, cells, keys, kids⟩ : Nd).sz = (((⟨true, cells, keys, kids⟩ : Nd).len : Nat) : Int)) := by show wrap64 _ = _; unfold wrap64; omega
  have A2 := hid (fun w' cv kv dv (G : Nat → Prop) (N : NV w' G cv kv dv ⟨true, cells, keys, kids⟩) => encode_right cv kv dv _ w' N hr)
  have A3 := hid (fun w' cv kv dv (G : Nat → Prop) (N : NV w' G cv kv dv ⟨true, cells, keys, kids⟩) => size_any cv kv dv _ w' N)
  rw [HSz.out] at A3
  simp only at A2 A3
  generalize (⟨true, cells, keys, kids⟩ : Nd).load = ld at *
  generalize hLL : (⟨true, cells, keys, kids⟩ : Nd).len = L at *
  have HLL := hid hLL
  clear hr hri hLL
  go_enter Try.func8, Try.ntmps8
  go_wp2_with (first
    | (go_at_call 25; with_reducible refine (works_any _).mono ?_; rintro e w1 ⟨rfl, b1⟩; obtain ⟨x0, x1, x2, x3⟩ := (HX0.out.below b1).get; have HX1 := hid (HX0.out.below b1); have HN1 := hid (HN0.out.below b1); have HB1 := hid (HB0.out.trans (b1.mono HB0.out.size)); have A1 := hid (its_any _ _ _ (⟨true, cells, keys, kids⟩ : Nd) _ HN1.out); unfold itEnd at A1; clear b1)
    | (go_at_call 9; with_reducible refine A1.out.mono ?_; rintro e w2 ⟨cv2, kv2, dv2, rfl, N2, B2⟩; obtain ⟨p1, m1, p2, m2, p3, m3, hv1, hv2, hv3⟩ := N2.formed; subst hv1 hv2 hv3; have HN2 := hid N2; have HX2 := hid (HX1.out.below B2); have HM2 := hid (HN1.out.below B2); have HBx := hid (alloc_below w2 (.cells #[.bool true, .slice p1 cells.length m1, .slice p2 keys.length m2, .slice p3 kids.length m3] 29)); have HX3 := hid (Bx.new w2 (.bool true) (.slice p1 cells.length m1) (.slice p2 keys.length m2) (.slice p3 kids.length m3) 29); have HN3 := hid (N2.below HBx.out); have HB3 := hid ((HB1.out.trans (B2.mono HB1.out.size)).trans (HBx.out.mono (Nat.le_trans HB1.out.size B2.size))); have HW1b := hid (Nat.le_trans B2.size HBx.out.size); have A2' := hid (A2.out _ _ _ _ _ HN3.out); clear N2 B2 A1 x0 x1 x2 x3 HX1 HN1 HX2 HM2 HN2 HBx)
    | (go_at_call 10; with_reducible refine A2'.out.mono ?_; rintro e w3 ⟨b3, va, rfl, oa⟩; obtain ⟨pa, ca, hva⟩ := oa.formN 508 HL.out; subst hva; obtain ⟨y0, y1, y2, y3⟩ := (HX3.out.below b3).get; have HX4 := hid (HX3.out.below b3); have HN4 := hid (HN3.out.below b3); have HO4 := hid oa; have A3' := hid (A3.out _ _ _ _ _ HN4.out); have HB4 := hid (HB3.out.trans (b3.mono HB3.out.size)); have b3s := hid b3.size; clear b3 oa A2 A2')
    | (go_at_call 12; with_reducible refine A3'.out.mono ?_; rintro e w5 ⟨rfl, b5⟩; have HX5 := hid (HX4.out.below b5); have HN5 := hid (HN4.out.below b5); have HV5 := hid ((HO4.out.bv (Nat.le_trans (Nat.le_of_eq HL.out) (by decide))).below b5); have HB5 := hid (HB4.out.trans (b5.mono HB4.out.size)); have HW1a := hid (Nat.le_trans HW1b.out (Nat.le_trans b3s.out b5.size)); clear b5 A3 A3' y0 y1 y2 y3)
    | fail)
  clear HX3 HN3 HX4 HN4 HO4 HB3 HB4
  go_loopw [8] (fun i wr => ∃ k : Nat, i = .int .i64 (k : Int) ∧ L ≤ k ∧ k ≤ 508 ∧ wr = w5) (fun i _ => 508 - (RowKit.intOf i).toNat)
  case atStart => exact ⟨L, rfl, Nat.le_refl _, hlen, rfl⟩
  case round =>
    obtain ⟨k, rfl, hk, hk2, rfl⟩ := hrel
    by_cases hx : k < 508
    · have hkl : k < ld.length := by rw [HL.out]; exact hx
      obtain ⟨b, off, hp, _, c0⟩ := HV5.out.at (i := k) hkl
      rw [HZr.out k hk hkl, show (((0 : UInt8).toNat : Nat) : Int) = 0 from rfl] at c0
      subst hp
      go_wp2
      go_roundw
      case rel => exact ⟨k + 1, by go_num, by omega, by omega, by first | rfl | trivial⟩
      case measure => simp [RowKit.intOf]; omega
    · obtain rfl : k = 508 := by omega
      rw [show ((508 : Nat) : Int) = 508 from rfl]
      obtain ⟨x0, x1, x2, x3⟩ := HX5.out.get
      have hlk : cells.length * 64 ≤ 140737488351232 := by
        obtain ⟨⟨_, _, _, _, _, _, hl3⟩, _, _⟩ := HN5.out
        exact hl3
      obtain ⟨hCl, hcap⟩ : Cls wr (w1.heap.size ≤ ·) p1 cells ∧ cells.length ≤ m1 := by
        obtain ⟨⟨p', c', e, hcl, hcc, _⟩, _, _⟩ := HN5.out
        simp only [Value.slice.injEq] at e
        rw [e.1, e.2.2]
        exact ⟨hcl, hcc⟩
      obtain ⟨U, hU⟩ : ∃ U : Nat, IntKind.u64.wrap at_ = (U : Int) := ⟨(IntKind.u64.wrap at_).toNat, by rw [IntKind.wrap_u64]; omega⟩
      have hDw : IntKind.u64.wrap (cells.length : Int) = (cells.length : Int) := by rw [IntKind.wrap_u64]; omega
      have hD0 : ((cells.length : Int) == 0) = false := beq_eq_false_iff_ne.2 (by omega)
      obtain ⟨k, hJ⟩ : ∃ J, J = U % cells.length := ⟨_, rfl⟩
      have hk : k < cells.length := by rw [hJ]; exact Nat.mod_lt _ (by omega)
      have hmod' : (U : Int).tmod (cells.length : Int) = (k : Int) := by rw [Int.tmod_eq_emod_of_nonneg (by omega), hJ]; exact (Int.natCast_emod U cells.length).symm
      clear hJ
      obtain ⟨f1, f2, f3, f4⟩ := HHv.out k hk
      obtain ⟨hky, hvl⟩ := Cl.ok_parts f4
      have hv64 : cells[k].val.length ≤ 64 := by
        rcases hvl with ⟨_, h, _⟩ | ⟨_, _, h, _⟩
        · exact h
        · rw [h]; simp
      have HVl := hid hvl
      clear hvl
      obtain ⟨g, off, q1, d1, q2, d2, hp, c10, c11, c12, c13, bk, bv, _⟩ := hCl.get hk
      subst hp
      have hkz : wrap64 (k : Int) = (k : Int) := by clear hmod' hDw hU; unfold wrap64; omega
      have HF := hid (And.intro f1 (And.intro f2 f3))
      have HCl := hid hCl
      clear HHv f1 f2 f3 f4 hCl bk bv
      generalize hck : cells[k] = ck at *
      clear hck
      have HW1 : Hid (w1.heap.size ≤ wr.heap.size) := HW1a.out
      by_cases h0 : ck.over = 0
      · rw [h0] at c12
        go_upto_region 19 with fail
        have HX6 := hid (HX5.out.below (alloc_below wr (.cells #[.slice q1 ck.key.length d1, .slice q2 ck.val.length d2, .int .i64 0, .int .i64 ck.size] 58)))
        have HN6 := hid (HN5.out.below (alloc_below wr (.cells #[.slice q1 ck.key.length d1, .slice q2 ck.val.length d2, .int .i64 0, .int .i64 ck.size] 58)))
        have HB6 := hid (HB5.out.alloc HB5.out.size (.cells #[.slice q1 ck.key.length d1, .slice q2 ck.val.length d2, .int .i64 0, .int .i64 ck.size] 58))
        have HC6 := hid (HCl.out.kp (Kp.of_below (alloc_below wr (.cells #[.slice q1 ck.key.length d1, .slice q2 ck.val.length d2, .int .i64 0, .int .i64 ck.size] 58))))
        have hb1 : w1.heap.size ≤ (wr.alloc (.cells #[.slice q1 ck.key.length d1, .slice q2 ck.val.length d2, .int .i64 0, .int .i64 ck.size] 58)).heap.size := Nat.le_trans HW1.out (alloc_below wr (.cells #[.slice q1 ck.key.length d1, .slice q2 ck.val.length d2, .int .i64 0, .int .i64 ck.size] 58)).size
        clear HX5 HN5 HB5 HCl c10 c11 c12 c13 x0 x1 x2 x3 hmod' hDw hU hD0 HN0 HX0 HB0
        try rw [hkz]
        generalize hW6 : wr.alloc _ = w6 at *
        clear hW6
        generalize w2.heap.size = xb at *
        clear hkz
        have hkm : k ≤ m1 := by omega
        have hk1 : k + 1 ≤ cells.length := by omega
        have HKw : Hid (wrap64 ((k : Int) + 1) = ((k + 1 : Nat) : Int)) := by show _ = _; unfold wrap64; omega
        have HKv : Hid (IntKind.i64.wrap ((k : Int) + 1) = ((k + 1 : Nat) : Int)) := by show _ = _; rw [IntKind.wrap_i64]; omega
        have hdl : (cells.drop (k + 1)).length = cells.length - (k + 1) := List.length_drop
        have htl : (cells.take k).length = k := by rw [List.length_take]; omega
        have HTk := hid (HC6.out.take (k := k))
        have lt := hid htl
        have ld := hid hdl
        have hlA : Hid ((([] : List Cl).length + (cells.take k).length) * 64 ≤ 140737488351232) := by show _ ≤ _; rw [htl]; simp; omega
        have hlB : Hid ((([] ++ cells.take k : List Cl).length + (cells.drop (k + 1)).length) * 64 ≤ 140737488351232) := by show _ ≤ _; rw [hdl, List.nil_append, htl]; omega
        have hnA : Hid (([] ++ cells.take k : List Cl).length = k) := by show _ = _; rw [List.nil_append, htl]
        have hnB : Hid (([] ++ cells.take k ++ cells.drop (k + 1) : List Cl).length = k + (cells.length - (k + 1))) := by show _ = _; rw [List.length_append, List.nil_append, htl, hdl]
        have HER : Hid ([] ++ cells.take k ++ cells.drop (k + 1) = cells.eraseIdx k) := by show _ = _; rw [List.nil_append, List.eraseIdx_eq_take_drop_succ]
        have hyl : Hid ((cells.eraseIdx k).length = k + (cells.length - (k + 1))) := by show _ = _; rw [← HER.out]; exact hnB.out
        have HS : Hid (∀ w', Below w6.heap.size w6 w' → w'.cell? ⟨xb, 1, none⟩ = some (.slice (some ⟨g, off, none⟩) cells.length m1)) := fun w' B => (HX6.out.below B).c1
        have CC : Below w6.heap.size w6 w6.drew := (Below.refl _ _).drew
        have HPn : Hid (∀ (c : Nat), ((if m1 = k + 1 then some ⟨g, off, none⟩ else some ⟨g, off + (k + 1) * 4, none⟩) : Option Addr) = none → (cells.drop (k + 1)).length = 0 ∧ c = 0) := fun c h => by split at h <;> cases h
        have HDr : Hid (Cls w6 (w1.heap.size ≤ ·) (if m1 = k + 1 then some ⟨g, off, none⟩ else some ⟨g, off + (k + 1) * 4, none⟩) (cells.drop (k + 1))) := by
          show Cls _ _ _ _
          split
          · exact Or.inl (List.length_eq_zero_iff.1 (by rw [hdl]; omega))
          · by_cases hk2 : k + 1 < cells.length
            · exact HC6.out.drop hk2
            · exact Or.inl (List.length_eq_zero_iff.1 (by rw [hdl]; omega))
        clear hdl htl
        go_cut [12] from 69 to 81 (fun s12 wx => ∃ (bb : Nat) (p : Option Addr) (c : Nat), s12 = .pointer (some ⟨bb, 0, none⟩) ∧ Bx wx bb (.bool true) (.slice p (k + (cells.length - (k + 1))) c) (.slice none 0 0) (.slice none 0 0) ∧ Ac w6 wx w1.heap.size (.slice p (k + (cells.length - (k + 1))) c) ([] ++ cells.take k ++ cells.drop (k + 1)))
        case first =>
          have hki0 : 0 ≤ (k : Int) + 1 := by omega
          have hki1 : (k : Int) + 1 ≤ (cells.length : Int) := by omega
          have hkw := HKw.out
          have hkv := HKv.out
          refine wp_region_z (z := 14) (S := fun w' => w'.cell? ⟨xb, 1, none⟩ = some (.slice (some ⟨g, off, none⟩) cells.length m1)) (by kernel_rfl) (HS.out _ CC) (fun hHeld => ?_)
          generalize hV : w6.drew = V0 at *
          clear hV
          refine wpZ_take (i := 1) (t := 70) (v := ?_) rfl rfl (by kernel_rfl) (by kernel_rfl) (by kernel_rfl) (by kernel_rfl) (fun _ _ _ h => h) (Or.inl ⟨by rfl, ?_⟩) (by assumption) ?_
          rotate_left
          · intro wq hSw
            try dsimp only at hSw
            go_simp
            try with_reducible rfl
          try go_frame
          refine wpZ_take (i := 2) (t := 71) (v := ?_) rfl rfl (by kernel_rfl) (by kernel_rfl) (by kernel_rfl) (by kernel_rfl) (fun _ _ _ h => h) (Or.inl ⟨by rfl, ?_⟩) (by assumption) ?_
          rotate_left
          · intro wq hSw
            try dsimp only at hSw
            go_simp
            try with_reducible rfl
          try go_frame
          refine wpZ_take (i := 3) (t := 72) (v := ?_) rfl rfl (by kernel_rfl) (by kernel_rfl) (by kernel_rfl) (by kernel_rfl) (fun _ _ _ h => h) (Or.inl ⟨by rfl, ?_⟩) (by assumption) ?_
          rotate_left
          · intro wq hSw
            try dsimp only at hSw
            go_simp
            try with_reducible rfl
          try go_frame
          refine wpZ_take (i := 4) (t := 73) (v := ?_) rfl rfl (by kernel_rfl) (by kernel_rfl) (by kernel_rfl) (by kernel_rfl) (fun _ _ _ h => h) (Or.inl ⟨by rfl, ?_⟩) (by assumption) ?_
          rotate_left
          · intro wq hSw
            try dsimp only at hSw
            go_simp
            try with_reducible rfl
          try go_frame
          refine wpZ_take (i := 6) (t := 75) (v := ?_) rfl rfl (by kernel_rfl) (by kernel_rfl) (by kernel_rfl) (by kernel_rfl) (fun _ _ _ h => h) (Or.inl ⟨by rfl, ?_⟩) (by assumption) ?_
          rotate_left
          · intro wq hSw
            try dsimp only at hSw
            go_simp
            try with_reducible rfl
          try go_frame
          refine wpZ_take (i := 7) (t := 76) (v := ?_) rfl rfl (by kernel_rfl) (by kernel_rfl) (by kernel_rfl) (by kernel_rfl) (fun _ _ _ h => h) (Or.inl ⟨by rfl, ?_⟩) (by assumption) ?_
          rotate_left
          · intro wq hSw
            try dsimp only at hSw
            go_simp
            try with_reducible rfl
          try go_frame
          refine wpZ_take (i := 8) (t := 77) (v := ?_) rfl rfl (by kernel_rfl) (by kernel_rfl) (by kernel_rfl) (by kernel_rfl) (fun _ _ _ h => h) (Or.inl ⟨by rfl, ?_⟩) (by assumption) ?_
          rotate_left
          · intro wq hSw
            try dsimp only at hSw
            go_simp
            try with_reducible rfl
          try go_frame
          refine wpZ_take (i := 9) (t := 78) (v := ?_) rfl rfl (by kernel_rfl) (by kernel_rfl) (by kernel_rfl) (by kernel_rfl) (fun _ _ _ h => h) (Or.inl ⟨by rfl, ?_⟩) (by assumption) ?_
          rotate_left
          · intro wq hSw
            try dsimp only at hSw
            go_simp
            try with_reducible rfl
          try go_frame
          refine wpZ_take (i := 10) (t := 79) (v := ?_) rfl rfl (by kernel_rfl) (by kernel_rfl) (by kernel_rfl) (by kernel_rfl) (fun _ _ _ h => h) (Or.inl ⟨by rfl, ?_⟩) (by assumption) ?_
          rotate_left
          · intro wq hSw
            try dsimp only at hSw
            go_simp
            try with_reducible rfl
          try go_frame
          refine wpZ_two (i := 0) (j := 13) (by kernel_rfl) rfl rfl (fun K hK => ?_) (fun K hK => ?_)
          · go_simp
            have AC := Ac.start (b1 := w1.heap.size) hb1 CC
            replace CC := AC.bel
            generalize hv : V0.alloc _ = V1 at *
            clear hv
            refine hK.out _ _ (fun _ => HS.out _ CC) (fun hHeldN => ?_)
            replace hHeld := hHeldN (by decide)
            clear hK K hHeldN
            try go_frame
            refine wpZ_two (i := 5) (j := 13) (by kernel_rfl) rfl rfl (fun K hK => ?_) (fun K hK => ?_)
            · refine stAc AC HTk.out lt.out (fun h => by cases h) hlA.out hb1 rfl rfl rfl rfl ?_
              intro v5 V2 AC' P'
              obtain ⟨p5, c5, hv5⟩ := AC'.form k hnA.out
              subst hv5
              replace CC := AC'.bel
              replace AC := AC'
              clear AC' P'
              refine hK.out _ _ (fun _ => HS.out _ CC) (fun hHeldN => ?_)
              replace hHeld := hHeldN (by decide)
              clear hK K hHeldN
              try go_frame
              refine wpZ_two (i := 11) (j := 13) (by kernel_rfl) rfl rfl (fun K hK => ?_) (fun K hK => ?_)
              · refine stAc AC HDr.out ld.out (HPn.out _) hlB.out hb1 rfl rfl rfl rfl ?_
                intro v11 V3 AC' P'
                obtain ⟨p11, c11, hv11⟩ := AC'.form (k + (cells.length - (k + 1))) hnB.out
                subst hv11
                replace CC := AC'.bel
                replace AC := AC'
                clear AC' P'
                refine hK.out _ _ (fun _ => HS.out _ CC) (fun hHeldN => ?_)
                replace hHeld := hHeldN (by decide)
                clear hK K hHeldN
                try go_frame
                refine wpZ_take (i := 12) (t := 81) (v := ?_) rfl rfl (by kernel_rfl) (by kernel_rfl) (by kernel_rfl) (by kernel_rfl) (fun _ _ _ h => h) (Or.inl ⟨by rfl, ?_⟩) (by assumption) ?_
                rotate_left
                · intro wq hSw
                  try dsimp only at hSw
                  go_simp
                  try with_reducible rfl
                try go_frame
                refine wpZ_step (i := 13) (by kernel_rfl) rfl (fun K hK => ?_)
                go_simp
                have QA := Bw.new V3 (.bool false) (.slice none 0 0) (.slice none 0 0) (.slice none 0 0) 29
                have hbb := QA.lt
                have hb4 : w6.heap.size ≤ V3.heap.size := CC.size
                have hne := AC.out V3.heap.size (Nat.lt_irrefl _)
                replace AC := AC.to (alloc_below V3 (.cells #[.bool false, .slice none 0 0, .slice none 0 0, .slice none 0 0] 29))
                replace CC := CC.alloc CC.size (.cells #[.bool false, .slice none 0 0, .slice none 0 0, .slice none 0 0] 29)
                generalize hv : V3.alloc _ = V4 at *
                clear hv
                generalize V3.heap.size = bb at *
                refine hK.out _ _ (fun _ => HS.out _ CC) (fun hHeldN => ?_)
                replace hHeld := hHeldN (by decide)
                clear hK K hHeldN
                try go_frame
                refine wpZ_step (i := 14) (by kernel_rfl) rfl (fun K hK => ?_)
                generalize (if m1 = k + 1 then some (⟨g, off, none⟩ : Addr) else some ⟨g, off + (k + 1) * 4, none⟩) = pz at *
                obtain ⟨qa0, qa1, qa2, qa3⟩ := QA.bx.get
                have qf0 := QA.fz 0
                have qf1 := QA.fz 1
                have qf2 := QA.fz 2
                have qf3 := QA.fz 3
                go_simp
                refine hK.out _ _ (fun h => absurd rfl h) (fun _ => ?_)
                clear hK K
                refine wpZ_done (by kernel_rfl) ?_
                go_wp2_with fail
                go_meet
                case rel => exact ⟨bb, p11, c11, rfl, (QA.put4 (.bool true) (.slice p11 (k + (cells.length - (k + 1))) c11) (.slice none 0 0) (.slice none 0 0)).bx, AC.put4 hne hb4 (.bool true) (.slice p11 (k + (cells.length - (k + 1))) c11) (.slice none 0 0) (.slice none 0 0)⟩
              · go_simp
                have QA := Bw.new V2 (.bool false) (.slice none 0 0) (.slice none 0 0) (.slice none 0 0) 29
                have hbb := QA.lt
                have hb4 : w6.heap.size ≤ V2.heap.size := CC.size
                have hne := AC.out V2.heap.size (Nat.lt_irrefl _)
                replace AC := AC.to (alloc_below V2 (.cells #[.bool false, .slice none 0 0, .slice none 0 0, .slice none 0 0] 29))
                replace CC := CC.alloc CC.size (.cells #[.bool false, .slice none 0 0, .slice none 0 0, .slice none 0 0] 29)
                generalize hv : V2.alloc _ = V3 at *
                clear hv
                generalize V2.heap.size = bb at *
                refine hK.out _ _ (fun _ => HS.out _ CC) (fun hHeldN => ?_)
                replace hHeld := hHeldN (by decide)
                clear hK K hHeldN
                try go_frame
                refine wpZ_step (i := 11) (by kernel_rfl) rfl (fun K hK => ?_)
                refine stAc AC HDr.out ld.out (HPn.out _) hlB.out hb1 rfl rfl rfl rfl ?_
                intro v11 V4 AC' P'
                have hb0 := QA.lt
                have hne1 := (P' V3.heap.size).own bb hb0 hne
                replace QA := QA.past P' hne
                replace hne := hne1
                clear hne1 hb0
                obtain ⟨p11, c11, hv11⟩ := AC'.form (k + (cells.length - (k + 1))) hnB.out
                subst hv11
                replace CC := AC'.bel
                replace AC := AC'
                clear AC' P'
                refine hK.out _ _ (fun _ => HS.out _ CC) (fun hHeldN => ?_)
                replace hHeld := hHeldN (by decide)
                clear hK K hHeldN
                try go_frame
                refine wpZ_take (i := 12) (t := 81) (v := ?_) rfl rfl (by kernel_rfl) (by kernel_rfl) (by kernel_rfl) (by kernel_rfl) (fun _ _ _ h => h) (Or.inl ⟨by rfl, ?_⟩) (by assumption) ?_
                rotate_left
                · intro wq hSw
                  try dsimp only at hSw
                  go_simp
                  try with_reducible rfl
                try go_frame
                refine wpZ_step (i := 14) (by kernel_rfl) rfl (fun K hK => ?_)
                generalize (if m1 = k + 1 then some (⟨g, off, none⟩ : Addr) else some ⟨g, off + (k + 1) * 4, none⟩) = pz at *
                obtain ⟨qa0, qa1, qa2, qa3⟩ := QA.bx.get
                have qf0 := QA.fz 0
                have qf1 := QA.fz 1
                have qf2 := QA.fz 2
                have qf3 := QA.fz 3
                go_simp
                refine hK.out _ _ (fun h => absurd rfl h) (fun _ => ?_)
                clear hK K
                refine wpZ_done (by kernel_rfl) ?_
                go_wp2_with fail
                go_meet
                case rel => exact ⟨bb, p11, c11, rfl, (QA.put4 (.bool true) (.slice p11 (k + (cells.length - (k + 1))) c11) (.slice none 0 0) (.slice none 0 0)).bx, AC.put4 hne hb4 (.bool true) (.slice p11 (k + (cells.length - (k + 1))) c11) (.slice none 0 0) (.slice none 0 0)⟩
            · go_simp
              have QA := Bw.new V1 (.bool false) (.slice none 0 0) (.slice none 0 0) (.slice none 0 0) 29
              have hbb := QA.lt
              have hb4 : w6.heap.size ≤ V1.heap.size := CC.size
              have hne := AC.out V1.heap.size (Nat.lt_irrefl _)
              replace AC := AC.to (alloc_below V1 (.cells #[.bool false, .slice none 0 0, .slice none 0 0, .slice none 0 0] 29))
              replace CC := CC.alloc CC.size (.cells #[.bool false, .slice none 0 0, .slice none 0 0, .slice none 0 0] 29)
              generalize hv : V1.alloc _ = V2 at *
              clear hv
              generalize V1.heap.size = bb at *
              refine hK.out _ _ (fun _ => HS.out _ CC) (fun hHeldN => ?_)
              replace hHeld := hHeldN (by decide)
              clear hK K hHeldN
              try go_frame
              refine wpZ_step (i := 5) (by kernel_rfl) rfl (fun K hK => ?_)
              refine stAc AC HTk.out lt.out (fun h => by cases h) hlA.out hb1 rfl rfl rfl rfl ?_
              intro v5 V3 AC' P'
              have hb0 := QA.lt
              have hne1 := (P' V2.heap.size).own bb hb0 hne
              replace QA := QA.past P' hne
              replace hne := hne1
              clear hne1 hb0
              obtain ⟨p5, c5, hv5⟩ := AC'.form k hnA.out
              subst hv5
              replace CC := AC'.bel
              replace AC := AC'
              clear AC' P'
              refine hK.out _ _ (fun _ => HS.out _ CC) (fun hHeldN => ?_)
              replace hHeld := hHeldN (by decide)
              clear hK K hHeldN
              try go_frame
              refine wpZ_step (i := 11) (by kernel_rfl) rfl (fun K hK => ?_)
              refine stAc AC HDr.out ld.out (HPn.out _) hlB.out hb1 rfl rfl rfl rfl ?_
              intro v11 V4 AC' P'
              have hb0 := QA.lt
              have hne1 := (P' V3.heap.size).own bb hb0 hne
              replace QA := QA.past P' hne
              replace hne := hne1
              clear hne1 hb0
              obtain ⟨p11, c11, hv11⟩ := AC'.form (k + (cells.length - (k + 1))) hnB.out
              subst hv11
              replace CC := AC'.bel
              replace AC := AC'
              clear AC' P'
              refine hK.out _ _ (fun _ => HS.out _ CC) (fun hHeldN => ?_)
              replace hHeld := hHeldN (by decide)
              clear hK K hHeldN
              try go_frame
              refine wpZ_take (i := 12) (t := 81) (v := ?_) rfl rfl (by kernel_rfl) (by kernel_rfl) (by kernel_rfl) (by kernel_rfl) (fun _ _ _ h => h) (Or.inl ⟨by rfl, ?_⟩) (by assumption) ?_
              rotate_left
              · intro wq hSw
                try dsimp only at hSw
                go_simp
                try with_reducible rfl
              try go_frame
              refine wpZ_step (i := 14) (by kernel_rfl) rfl (fun K hK => ?_)
              generalize (if m1 = k + 1 then some (⟨g, off, none⟩ : Addr) else some ⟨g, off + (k + 1) * 4, none⟩) = pz at *
              obtain ⟨qa0, qa1, qa2, qa3⟩ := QA.bx.get
              have qf0 := QA.fz 0
              have qf1 := QA.fz 1
              have qf2 := QA.fz 2
              have qf3 := QA.fz 3
              go_simp
              refine hK.out _ _ (fun h => absurd rfl h) (fun _ => ?_)
              clear hK K
              refine wpZ_done (by kernel_rfl) ?_
              go_wp2_with fail
              go_meet
              case rel => exact ⟨bb, p11, c11, rfl, (QA.put4 (.bool true) (.slice p11 (k + (cells.length - (k + 1))) c11) (.slice none 0 0) (.slice none 0 0)).bx, AC.put4 hne hb4 (.bool true) (.slice p11 (k + (cells.length - (k + 1))) c11) (.slice none 0 0) (.slice none 0 0)⟩
          · go_simp
            have QA := Bw.new V0 (.bool false) (.slice none 0 0) (.slice none 0 0) (.slice none 0 0) 29
            have hbb := QA.lt
            have hb4 : w6.heap.size ≤ V0.heap.size := CC.size
            replace CC := CC.alloc CC.size (.cells #[.bool false, .slice none 0 0, .slice none 0 0, .slice none 0 0] 29)
            generalize hv : V0.alloc _ = V1 at *
            clear hv
            generalize V0.heap.size = bb at *
            refine hK.out _ _ (fun _ => HS.out _ CC) (fun hHeldN => ?_)
            replace hHeld := hHeldN (by decide)
            clear hK K hHeldN
            try go_frame
            refine wpZ_step (i := 0) (by kernel_rfl) rfl (fun K hK => ?_)
            go_simp
            have AC := Ac.start (b1 := w1.heap.size) hb1 CC
            have hne := own_ne QA.lt
            replace QA := QA.alc (.cells #[] 58)
            replace CC := AC.bel
            generalize hv : V1.alloc _ = V2 at *
            clear hv
            refine hK.out _ _ (fun _ => HS.out _ CC) (fun hHeldN => ?_)
            replace hHeld := hHeldN (by decide)
            clear hK K hHeldN
            try go_frame
            refine wpZ_step (i := 5) (by kernel_rfl) rfl (fun K hK => ?_)
            refine stAc AC HTk.out lt.out (fun h => by cases h) hlA.out hb1 rfl rfl rfl rfl ?_
            intro v5 V3 AC' P'
            have hb0 := QA.lt
            have hne1 := (P' V2.heap.size).own bb hb0 hne
            replace QA := QA.past P' hne
            replace hne := hne1
            clear hne1 hb0
            obtain ⟨p5, c5, hv5⟩ := AC'.form k hnA.out
            subst hv5
            replace CC := AC'.bel
            replace AC := AC'
            clear AC' P'
            refine hK.out _ _ (fun _ => HS.out _ CC) (fun hHeldN => ?_)
            replace hHeld := hHeldN (by decide)
            clear hK K hHeldN
            try go_frame
            refine wpZ_step (i := 11) (by kernel_rfl) rfl (fun K hK => ?_)
            refine stAc AC HDr.out ld.out (HPn.out _) hlB.out hb1 rfl rfl rfl rfl ?_
            intro v11 V4 AC' P'
            have hb0 := QA.lt
            have hne1 := (P' V3.heap.size).own bb hb0 hne
            replace QA := QA.past P' hne
            replace hne := hne1
            clear hne1 hb0
            obtain ⟨p11, c11, hv11⟩ := AC'.form (k + (cells.length - (k + 1))) hnB.out
            subst hv11
            replace CC := AC'.bel
            replace AC := AC'
            clear AC' P'
            refine hK.out _ _ (fun _ => HS.out _ CC) (fun hHeldN => ?_)
            replace hHeld := hHeldN (by decide)
            clear hK K hHeldN
            try go_frame
            refine wpZ_take (i := 12) (t := 81) (v := ?_) rfl rfl (by kernel_rfl) (by kernel_rfl) (by kernel_rfl) (by kernel_rfl) (fun _ _ _ h => h) (Or.inl ⟨by rfl, ?_⟩) (by assumption) ?_
            rotate_left
            · intro wq hSw
              try dsimp only at hSw
              go_simp
              try with_reducible rfl
            try go_frame
            refine wpZ_step (i := 14) (by kernel_rfl) rfl (fun K hK => ?_)
            generalize (if m1 = k + 1 then some (⟨g, off, none⟩ : Addr) else some ⟨g, off + (k + 1) * 4, none⟩) = pz at *
            obtain ⟨qa0, qa1, qa2, qa3⟩ := QA.bx.get
            have qf0 := QA.fz 0
            have qf1 := QA.fz 1
            have qf2 := QA.fz 2
            have qf3 := QA.fz 3
            go_simp
            refine hK.out _ _ (fun h => absurd rfl h) (fun _ => ?_)
            clear hK K
            refine wpZ_done (by kernel_rfl) ?_
            go_wp2_with fail
            go_meet
            case rel => exact ⟨bb, p11, c11, rfl, (QA.put4 (.bool true) (.slice p11 (k + (cells.length - (k + 1))) c11) (.slice none 0 0) (.slice none 0 0)).bx, AC.put4 hne hb4 (.bool true) (.slice p11 (k + (cells.length - (k + 1))) c11) (.slice none 0 0) (.slice none 0 0)⟩
        case rest =>
        obtain ⟨bb, py, cy, rfl, XB, AY⟩ := hcut
        rw [HER.out] at AY
        have hk3 : cells.length - (k + 1) + k + 1 = cells.length := by omega
        have HN7 := hid (HN6.out.below AY.bel)
        have HX7 := hid (HX6.out.below AY.bel)
        have HB7 := hid (HB6.out.trans (AY.bel.mono HB6.out.size))
        obtain ⟨f1, f2, f3⟩ := HF.out
        have HNy : Hid (NV wc (w1.heap.size ≤ ·) (.slice py (k + (cells.length - (k + 1))) cy) (.slice none 0 0) (.slice none 0 0) ⟨true, cells.eraseIdx k, [], []⟩) := ⟨AY.csv (by rw [hyl.out]; omega), KsV.nil _ _, DsV.nil _ _⟩
        have C1 := hid (fun d os => Calls.regrown_of (check_any _ _ _ _ _ (HNy.out.below (below_regrown wc d os))))
        have C3 := hid (fun d os => Calls.regrown_of (size_any _ _ _ _ _ (HNy.out.below (below_regrown wc d os))))
        have C5 := hid (fun d os => Calls.regrown_of (size_any _ _ _ _ _ (HN7.out.below (below_regrown wc d os))))
        simp only at C1 C3 C5
        have hzl : (3 + (ck.key.length : Int) + (ck.val.length : Int)) = (ck.len : Int) := by rw [Cl.len_in h0]; omega
        rw [hzl]
        generalize (⟨true, cells.eraseIdx k, [], []⟩ : Nd).sz = zy at *
        generalize (⟨true, cells, keys, kids⟩ : Nd).sz = zx at *
        generalize (⟨true, cells.eraseIdx k, [], []⟩ : Nd).err = ey at *
        have hzz : wrap64 (zx - (ck.len : Int)) = zy := by
          have e : zx - (ck.len : Int) = zy := by omega
          rw [e]
          unfold wrap64
          omega
        generalize (ck.len : Int) = zc at *
        obtain ⟨b0, b1, b2, b3⟩ := XB.get
        obtain ⟨x0, x1, x2, x3⟩ := HX7.out.get
        have gb0 := cell_regrown b0
        have gb1 := cell_regrown b1
        have gb2 := cell_regrown b2
        have gb3 := cell_regrown b3
        have gx0 := cell_regrown x0
        have gx1 := cell_regrown x1
        have gx2 := cell_regrown x2
        have gx3 := cell_regrown x3
        clear HF HER HTk lt ld hlA hlB hnA hnB hyl HS CC HPn AY HNy HN6 HN7 HX6 XB f1 f2 hzl
        go_upto_region 20 with fail
        refine wp_region_quiet_below (by kernel_rfl) (by kernel_rfl) ?_
        repeat (first | go_big_quiet_step ((first | (go_at_call 14; with_reducible exact C1.out _ _) | (go_at_call 12; first | with_reducible exact C3.out _ _ | with_reducible exact C5.out _ _) | fail)) | quiet_step ((first | (go_at_call 14; with_reducible exact C1.out _ _) | (go_at_call 12; first | with_reducible exact C3.out _ _ | with_reducible exact C5.out _ _) | fail)))
        refine wpQuiet_nil ?_
        intro _ hw'
        obtain ⟨⟨dq, osq⟩, hw''⟩ := hw'
        subst hw''
        go_wp2
        go_ret
        exact ⟨rfl, HB7.out.trans ((below_regrown wc dq osq).mono HB7.out.size)⟩
      · have h0b : (ck.over != 0) = true := bne_iff_ne.2 h0
        go_upto_region 19 with fail
        have HX6 := hid (HX5.out.below (alloc_below wr (.cells #[.slice q1 ck.key.length d1, .slice q2 ck.val.length d2, .int .i64 ck.over, .int .i64 ck.size] 58)))
        have HN6 := hid (HN5.out.below (alloc_below wr (.cells #[.slice q1 ck.key.length d1, .slice q2 ck.val.length d2, .int .i64 ck.over, .int .i64 ck.size] 58)))
        have HB6 := hid (HB5.out.alloc HB5.out.size (.cells #[.slice q1 ck.key.length d1, .slice q2 ck.val.length d2, .int .i64 ck.over, .int .i64 ck.size] 58))
        have HC6 := hid (HCl.out.kp (Kp.of_below (alloc_below wr (.cells #[.slice q1 ck.key.length d1, .slice q2 ck.val.length d2, .int .i64 ck.over, .int .i64 ck.size] 58))))
        have hb1 : w1.heap.size ≤ (wr.alloc (.cells #[.slice q1 ck.key.length d1, .slice q2 ck.val.length d2, .int .i64 ck.over, .int .i64 ck.size] 58)).heap.size := Nat.le_trans HW1.out (alloc_below wr (.cells #[.slice q1 ck.key.length d1, .slice q2 ck.val.length d2, .int .i64 ck.over, .int .i64 ck.size] 58)).size
        clear HX5 HN5 HB5 HCl c10 c11 c12 c13 x0 x1 x2 x3 hmod' hDw hU hD0 HN0 HX0 HB0
        try rw [hkz]
        generalize hW6 : wr.alloc _ = w6 at *
        clear hW6
        generalize w2.heap.size = xb at *
        clear hkz
        have hkm : k ≤ m1 := by omega
        have hk1 : k + 1 ≤ cells.length := by omega
        have HKw : Hid (wrap64 ((k : Int) + 1) = ((k + 1 : Nat) : Int)) := by show _ = _; unfold wrap64; omega
        have HKv : Hid (IntKind.i64.wrap ((k : Int) + 1) = ((k + 1 : Nat) : Int)) := by show _ = _; rw [IntKind.wrap_i64]; omega
        have hdl : (cells.drop (k + 1)).length = cells.length - (k + 1) := List.length_drop
        have htl : (cells.take k).length = k := by rw [List.length_take]; omega
        have HTk := hid (HC6.out.take (k := k))
        have lt := hid htl
        have ld := hid hdl
        have hlA : Hid ((([] : List Cl).length + (cells.take k).length) * 64 ≤ 140737488351232) := by show _ ≤ _; rw [htl]; simp; omega
        have hlB : Hid ((([] ++ cells.take k : List Cl).length + (cells.drop (k + 1)).length) * 64 ≤ 140737488351232) := by show _ ≤ _; rw [hdl, List.nil_append, htl]; omega
        have hnA : Hid (([] ++ cells.take k : List Cl).length = k) := by show _ = _; rw [List.nil_append, htl]
        have hnB : Hid (([] ++ cells.take k ++ cells.drop (k + 1) : List Cl).length = k + (cells.length - (k + 1))) := by show _ = _; rw [List.length_append, List.nil_append, htl, hdl]
        have HER : Hid ([] ++ cells.take k ++ cells.drop (k + 1) = cells.eraseIdx k) := by show _ = _; rw [List.nil_append, List.eraseIdx_eq_take_drop_succ]
        have hyl : Hid ((cells.eraseIdx k).length = k + (cells.length - (k + 1))) := by show _ = _; rw [← HER.out]; exact hnB.out
        have HS : Hid (∀ w', Below w6.heap.size w6 w' → w'.cell? ⟨xb, 1, none⟩ = some (.slice (some ⟨g, off, none⟩) cells.length m1)) := fun w' B => (HX6.out.below B).c1
        have CC : Below w6.heap.size w6 w6.drew := (Below.refl _ _).drew
        have HPn : Hid (∀ (c : Nat), ((if m1 = k + 1 then some ⟨g, off, none⟩ else some ⟨g, off + (k + 1) * 4, none⟩) : Option Addr) = none → (cells.drop (k + 1)).length = 0 ∧ c = 0) := fun c h => by split at h <;> cases h
        have HDr : Hid (Cls w6 (w1.heap.size ≤ ·) (if m1 = k + 1 then some ⟨g, off, none⟩ else some ⟨g, off + (k + 1) * 4, none⟩) (cells.drop (k + 1))) := by
          show Cls _ _ _ _
          split
          · exact Or.inl (List.length_eq_zero_iff.1 (by rw [hdl]; omega))
          · by_cases hk2 : k + 1 < cells.length
            · exact HC6.out.drop hk2
            · exact Or.inl (List.length_eq_zero_iff.1 (by rw [hdl]; omega))
        clear hdl htl
        go_cut [12] from 69 to 81 (fun s12 wx => ∃ (bb : Nat) (p : Option Addr) (c : Nat), s12 = .pointer (some ⟨bb, 0, none⟩) ∧ Bx wx bb (.bool true) (.slice p (k + (cells.length - (k + 1))) c) (.slice none 0 0) (.slice none 0 0) ∧ Ac w6 wx w1.heap.size (.slice p (k + (cells.length - (k + 1))) c) ([] ++ cells.take k ++ cells.drop (k + 1)))
        case first =>
          have hki0 : 0 ≤ (k : Int) + 1 := by omega
          have hki1 : (k : Int) + 1 ≤ (cells.length : Int) := by omega
          have hkw := HKw.out
          have hkv := HKv.out
          refine wp_region_z (z := 14) (S := fun w' => w'.cell? ⟨xb, 1, none⟩ = some (.slice (some ⟨g, off, none⟩) cells.length m1)) (by kernel_rfl) (HS.out _ CC) (fun hHeld => ?_)
          generalize hV : w6.drew = V0 at *
          clear hV
          refine wpZ_take (i := 1) (t := 70) (v := ?_) rfl rfl (by kernel_rfl) (by kernel_rfl) (by kernel_rfl) (by kernel_rfl) (fun _ _ _ h => h) (Or.inl ⟨by rfl, ?_⟩) (by assumption) ?_
          rotate_left
          · intro wq hSw
            try dsimp only at hSw
            go_simp
            try with_reducible rfl
          try go_frame
          refine wpZ_take (i := 2) (t := 71) (v := ?_) rfl rfl (by kernel_rfl) (by kernel_rfl) (by kernel_rfl) (by kernel_rfl) (fun _ _ _ h => h) (Or.inl ⟨by rfl, ?_⟩) (by assumption) ?_
          rotate_left
          · intro wq hSw
            try dsimp only at hSw
            go_simp
            try with_reducible rfl
          try go_frame
          refine wpZ_take (i := 3) (t := 72) (v := ?_) rfl rfl (by kernel_rfl) (by kernel_rfl) (by kernel_rfl) (by kernel_rfl) (fun _ _ _ h => h) (Or.inl ⟨by rfl, ?_⟩) (by assumption) ?_
          rotate_left
          · intro wq hSw
            try dsimp only at hSw
            go_simp
            try with_reducible rfl
          try go_frame
          refine wpZ_take (i := 4) (t := 73) (v := ?_) rfl rfl (by kernel_rfl) (by kernel_rfl) (by kernel_rfl) (by kernel_rfl) (fun _ _ _ h => h) (Or.inl ⟨by rfl, ?_⟩) (by assumption) ?_
          rotate_left
          · intro wq hSw
            try dsimp only at hSw
            go_simp
            try with_reducible rfl
          try go_frame
          refine wpZ_take (i := 6) (t := 75) (v := ?_) rfl rfl (by kernel_rfl) (by kernel_rfl) (by kernel_rfl) (by kernel_rfl) (fun _ _ _ h => h) (Or.inl ⟨by rfl, ?_⟩) (by assumption) ?_
          rotate_left
          · intro wq hSw
            try dsimp only at hSw
            go_simp
            try with_reducible rfl
          try go_frame
          refine wpZ_take (i := 7) (t := 76) (v := ?_) rfl rfl (by kernel_rfl) (by kernel_rfl) (by kernel_rfl) (by kernel_rfl) (fun _ _ _ h => h) (Or.inl ⟨by rfl, ?_⟩) (by assumption) ?_
          rotate_left
          · intro wq hSw
            try dsimp only at hSw
            go_simp
            try with_reducible rfl
          try go_frame
          refine wpZ_take (i := 8) (t := 77) (v := ?_) rfl rfl (by kernel_rfl) (by kernel_rfl) (by kernel_rfl) (by kernel_rfl) (fun _ _ _ h => h) (Or.inl ⟨by rfl, ?_⟩) (by assumption) ?_
          rotate_left
          · intro wq hSw
            try dsimp only at hSw
            go_simp
            try with_reducible rfl
          try go_frame
          refine wpZ_take (i := 9) (t := 78) (v := ?_) rfl rfl (by kernel_rfl) (by kernel_rfl) (by kernel_rfl) (by kernel_rfl) (fun _ _ _ h => h) (Or.inl ⟨by rfl, ?_⟩) (by assumption) ?_
          rotate_left
          · intro wq hSw
            try dsimp only at hSw
            go_simp
            try with_reducible rfl
          try go_frame
          refine wpZ_take (i := 10) (t := 79) (v := ?_) rfl rfl (by kernel_rfl) (by kernel_rfl) (by kernel_rfl) (by kernel_rfl) (fun _ _ _ h => h) (Or.inl ⟨by rfl, ?_⟩) (by assumption) ?_
          rotate_left
          · intro wq hSw
            try dsimp only at hSw
            go_simp
            try with_reducible rfl
          try go_frame
          refine wpZ_two (i := 0) (j := 13) (by kernel_rfl) rfl rfl (fun K hK => ?_) (fun K hK => ?_)
          · go_simp
            have AC := Ac.start (b1 := w1.heap.size) hb1 CC
            replace CC := AC.bel
            generalize hv : V0.alloc _ = V1 at *
            clear hv
            refine hK.out _ _ (fun _ => HS.out _ CC) (fun hHeldN => ?_)
            replace hHeld := hHeldN (by decide)
            clear hK K hHeldN
            try go_frame
            refine wpZ_two (i := 5) (j := 13) (by kernel_rfl) rfl rfl (fun K hK => ?_) (fun K hK => ?_)
            · refine stAc AC HTk.out lt.out (fun h => by cases h) hlA.out hb1 rfl rfl rfl rfl ?_
              intro v5 V2 AC' P'
              obtain ⟨p5, c5, hv5⟩ := AC'.form k hnA.out
              subst hv5
              replace CC := AC'.bel
              replace AC := AC'
              clear AC' P'
              refine hK.out _ _ (fun _ => HS.out _ CC) (fun hHeldN => ?_)
              replace hHeld := hHeldN (by decide)
              clear hK K hHeldN
              try go_frame
              refine wpZ_two (i := 11) (j := 13) (by kernel_rfl) rfl rfl (fun K hK => ?_) (fun K hK => ?_)
              · refine stAc AC HDr.out ld.out (HPn.out _) hlB.out hb1 rfl rfl rfl rfl ?_
                intro v11 V3 AC' P'
                obtain ⟨p11, c11, hv11⟩ := AC'.form (k + (cells.length - (k + 1))) hnB.out
                subst hv11
                replace CC := AC'.bel
                replace AC := AC'
                clear AC' P'
                refine hK.out _ _ (fun _ => HS.out _ CC) (fun hHeldN => ?_)
                replace hHeld := hHeldN (by decide)
                clear hK K hHeldN
                try go_frame
                refine wpZ_take (i := 12) (t := 81) (v := ?_) rfl rfl (by kernel_rfl) (by kernel_rfl) (by kernel_rfl) (by kernel_rfl) (fun _ _ _ h => h) (Or.inl ⟨by rfl, ?_⟩) (by assumption) ?_
                rotate_left
                · intro wq hSw
                  try dsimp only at hSw
                  go_simp
                  try with_reducible rfl
                try go_frame
                refine wpZ_step (i := 13) (by kernel_rfl) rfl (fun K hK => ?_)
                go_simp
                have QA := Bw.new V3 (.bool false) (.slice none 0 0) (.slice none 0 0) (.slice none 0 0) 29
                have hbb := QA.lt
                have hb4 : w6.heap.size ≤ V3.heap.size := CC.size
                have hne := AC.out V3.heap.size (Nat.lt_irrefl _)
                replace AC := AC.to (alloc_below V3 (.cells #[.bool false, .slice none 0 0, .slice none 0 0, .slice none 0 0] 29))
                replace CC := CC.alloc CC.size (.cells #[.bool false, .slice none 0 0, .slice none 0 0, .slice none 0 0] 29)
                generalize hv : V3.alloc _ = V4 at *
                clear hv
                generalize V3.heap.size = bb at *
                refine hK.out _ _ (fun _ => HS.out _ CC) (fun hHeldN => ?_)
                replace hHeld := hHeldN (by decide)
                clear hK K hHeldN
                try go_frame
                refine wpZ_step (i := 14) (by kernel_rfl) rfl (fun K hK => ?_)
                generalize (if m1 = k + 1 then some (⟨g, off, none⟩ : Addr) else some ⟨g, off + (k + 1) * 4, none⟩) = pz at *
                obtain ⟨qa0, qa1, qa2, qa3⟩ := QA.bx.get
                have qf0 := QA.fz 0
                have qf1 := QA.fz 1
                have qf2 := QA.fz 2
                have qf3 := QA.fz 3
                go_simp
                refine hK.out _ _ (fun h => absurd rfl h) (fun _ => ?_)
                clear hK K
                refine wpZ_done (by kernel_rfl) ?_
                go_wp2_with fail
                go_meet
                case rel => exact ⟨bb, p11, c11, rfl, (QA.put4 (.bool true) (.slice p11 (k + (cells.length - (k + 1))) c11) (.slice none 0 0) (.slice none 0 0)).bx, AC.put4 hne hb4 (.bool true) (.slice p11 (k + (cells.length - (k + 1))) c11) (.slice none 0 0) (.slice none 0 0)⟩
              · go_simp
                have QA := Bw.new V2 (.bool false) (.slice none 0 0) (.slice none 0 0) (.slice none 0 0) 29
                have hbb := QA.lt
                have hb4 : w6.heap.size ≤ V2.heap.size := CC.size
                have hne := AC.out V2.heap.size (Nat.lt_irrefl _)
                replace AC := AC.to (alloc_below V2 (.cells #[.bool false, .slice none 0 0, .slice none 0 0, .slice none 0 0] 29))
                replace CC := CC.alloc CC.size (.cells #[.bool false, .slice none 0 0, .slice none 0 0, .slice none 0 0] 29)
                generalize hv : V2.alloc _ = V3 at *
                clear hv
                generalize V2.heap.size = bb at *
                refine hK.out _ _ (fun _ => HS.out _ CC) (fun hHeldN => ?_)
                replace hHeld := hHeldN (by decide)
                clear hK K hHeldN
                try go_frame
                refine wpZ_step (i := 11) (by kernel_rfl) rfl (fun K hK => ?_)
                refine stAc AC HDr.out ld.out (HPn.out _) hlB.out hb1 rfl rfl rfl rfl ?_
                intro v11 V4 AC' P'
                have hb0 := QA.lt
                have hne1 := (P' V3.heap.size).own bb hb0 hne
                replace QA := QA.past P' hne
                replace hne := hne1
                clear hne1 hb0
                obtain ⟨p11, c11, hv11⟩ := AC'.form (k + (cells.length - (k + 1))) hnB.out
                subst hv11
                replace CC := AC'.bel
                replace AC := AC'
                clear AC' P'
                refine hK.out _ _ (fun _ => HS.out _ CC) (fun hHeldN => ?_)
                replace hHeld := hHeldN (by decide)
                clear hK K hHeldN
                try go_frame
                refine wpZ_take (i := 12) (t := 81) (v := ?_) rfl rfl (by kernel_rfl) (by kernel_rfl) (by kernel_rfl) (by kernel_rfl) (fun _ _ _ h => h) (Or.inl ⟨by rfl, ?_⟩) (by assumption) ?_
                rotate_left
                · intro wq hSw
                  try dsimp only at hSw
                  go_simp
                  try with_reducible rfl
                try go_frame
                refine wpZ_step (i := 14) (by kernel_rfl) rfl (fun K hK => ?_)
                generalize (if m1 = k + 1 then some (⟨g, off, none⟩ : Addr) else some ⟨g, off + (k + 1) * 4, none⟩) = pz at *
                obtain ⟨qa0, qa1, qa2, qa3⟩ := QA.bx.get
                have qf0 := QA.fz 0
                have qf1 := QA.fz 1
                have qf2 := QA.fz 2
                have qf3 := QA.fz 3
                go_simp
                refine hK.out _ _ (fun h => absurd rfl h) (fun _ => ?_)
                clear hK K
                refine wpZ_done (by kernel_rfl) ?_
                go_wp2_with fail
                go_meet
                case rel => exact ⟨bb, p11, c11, rfl, (QA.put4 (.bool true) (.slice p11 (k + (cells.length - (k + 1))) c11) (.slice none 0 0) (.slice none 0 0)).bx, AC.put4 hne hb4 (.bool true) (.slice p11 (k + (cells.length - (k + 1))) c11) (.slice none 0 0) (.slice none 0 0)⟩
            · go_simp
              have QA := Bw.new V1 (.bool false) (.slice none 0 0) (.slice none 0 0) (.slice none 0 0) 29
              have hbb := QA.lt
              have hb4 : w6.heap.size ≤ V1.heap.size := CC.size
              have hne := AC.out V1.heap.size (Nat.lt_irrefl _)
              replace AC := AC.to (alloc_below V1 (.cells #[.bool false, .slice none 0 0, .slice none 0 0, .slice none 0 0] 29))
              replace CC := CC.alloc CC.size (.cells #[.bool false, .slice none 0 0, .slice none 0 0, .slice none 0 0] 29)
              generalize hv : V1.alloc _ = V2 at *
              clear hv
              generalize V1.heap.size = bb at *
              refine hK.out _ _ (fun _ => HS.out _ CC) (fun hHeldN => ?_)
              replace hHeld := hHeldN (by decide)
              clear hK K hHeldN
              try go_frame
              refine wpZ_step (i := 5) (by kernel_rfl) rfl (fun K hK => ?_)
              refine stAc AC HTk.out lt.out (fun h => by cases h) hlA.out hb1 rfl rfl rfl rfl ?_
              intro v5 V3 AC' P'
              have hb0 := QA.lt
              have hne1 := (P' V2.heap.size).own bb hb0 hne
              replace QA := QA.past P' hne
              replace hne := hne1
              clear hne1 hb0
              obtain ⟨p5, c5, hv5⟩ := AC'.form k hnA.out
              subst hv5
              replace CC := AC'.bel
              replace AC := AC'
              clear AC' P'
              refine hK.out _ _ (fun _ => HS.out _ CC) (fun hHeldN => ?_)
              replace hHeld := hHeldN (by decide)
              clear hK K hHeldN
              try go_frame
              refine wpZ_step (i := 11) (by kernel_rfl) rfl (fun K hK => ?_)
              refine stAc AC HDr.out ld.out (HPn.out _) hlB.out hb1 rfl rfl rfl rfl ?_
              intro v11 V4 AC' P'
              have hb0 := QA.lt
              have hne1 := (P' V3.heap.size).own bb hb0 hne
              replace QA := QA.past P' hne
              replace hne := hne1
              clear hne1 hb0
              obtain ⟨p11, c11, hv11⟩ := AC'.form (k + (cells.length - (k + 1))) hnB.out
              subst hv11
              replace CC := AC'.bel
              replace AC := AC'
              clear AC' P'
              refine hK.out _ _ (fun _ => HS.out _ CC) (fun hHeldN => ?_)
              replace hHeld := hHeldN (by decide)
              clear hK K hHeldN
              try go_frame
              refine wpZ_take (i := 12) (t := 81) (v := ?_) rfl rfl (by kernel_rfl) (by kernel_rfl) (by kernel_rfl) (by kernel_rfl) (fun _ _ _ h => h) (Or.inl ⟨by rfl, ?_⟩) (by assumption) ?_
              rotate_left
              · intro wq hSw
                try dsimp only at hSw
                go_simp
                try with_reducible rfl
              try go_frame
              refine wpZ_step (i := 14) (by kernel_rfl) rfl (fun K hK => ?_)
              generalize (if m1 = k + 1 then some (⟨g, off, none⟩ : Addr) else some ⟨g, off + (k + 1) * 4, none⟩) = pz at *
              obtain ⟨qa0, qa1, qa2, qa3⟩ := QA.bx.get
              have qf0 := QA.fz 0
              have qf1 := QA.fz 1
              have qf2 := QA.fz 2
              have qf3 := QA.fz 3
              go_simp
              refine hK.out _ _ (fun h => absurd rfl h) (fun _ => ?_)
              clear hK K
              refine wpZ_done (by kernel_rfl) ?_
              go_wp2_with fail
              go_meet
              case rel => exact ⟨bb, p11, c11, rfl, (QA.put4 (.bool true) (.slice p11 (k + (cells.length - (k + 1))) c11) (.slice none 0 0) (.slice none 0 0)).bx, AC.put4 hne hb4 (.bool true) (.slice p11 (k + (cells.length - (k + 1))) c11) (.slice none 0 0) (.slice none 0 0)⟩
          · go_simp
            have QA := Bw.new V0 (.bool false) (.slice none 0 0) (.slice none 0 0) (.slice none 0 0) 29
            have hbb := QA.lt
            have hb4 : w6.heap.size ≤ V0.heap.size := CC.size
            replace CC := CC.alloc CC.size (.cells #[.bool false, .slice none 0 0, .slice none 0 0, .slice none 0 0] 29)
            generalize hv : V0.alloc _ = V1 at *
            clear hv
            generalize V0.heap.size = bb at *
            refine hK.out _ _ (fun _ => HS.out _ CC) (fun hHeldN => ?_)
            replace hHeld := hHeldN (by decide)
            clear hK K hHeldN
            try go_frame
            refine wpZ_step (i := 0) (by kernel_rfl) rfl (fun K hK => ?_)
            go_simp
            have AC := Ac.start (b1 := w1.heap.size) hb1 CC
            have hne := own_ne QA.lt
            replace QA := QA.alc (.cells #[] 58)
            replace CC := AC.bel
            generalize hv : V1.alloc _ = V2 at *
            clear hv
            refine hK.out _ _ (fun _ => HS.out _ CC) (fun hHeldN => ?_)
            replace hHeld := hHeldN (by decide)
            clear hK K hHeldN
            try go_frame
            refine wpZ_step (i := 5) (by kernel_rfl) rfl (fun K hK => ?_)
            refine stAc AC HTk.out lt.out (fun h => by cases h) hlA.out hb1 rfl rfl rfl rfl ?_
            intro v5 V3 AC' P'
            have hb0 := QA.lt
            have hne1 := (P' V2.heap.size).own bb hb0 hne
            replace QA := QA.past P' hne
            replace hne := hne1
            clear hne1 hb0
            obtain ⟨p5, c5, hv5⟩ := AC'.form k hnA.out
            subst hv5
            replace CC := AC'.bel
            replace AC := AC'
            clear AC' P'
            refine hK.out _ _ (fun _ => HS.out _ CC) (fun hHeldN => ?_)
            replace hHeld := hHeldN (by decide)
            clear hK K hHeldN
            try go_frame
            refine wpZ_step (i := 11) (by kernel_rfl) rfl (fun K hK => ?_)
            refine stAc AC HDr.out ld.out (HPn.out _) hlB.out hb1 rfl rfl rfl rfl ?_
            intro v11 V4 AC' P'
            have hb0 := QA.lt
            have hne1 := (P' V3.heap.size).own bb hb0 hne
            replace QA := QA.past P' hne
            replace hne := hne1
            clear hne1 hb0
            obtain ⟨p11, c11, hv11⟩ := AC'.form (k + (cells.length - (k + 1))) hnB.out
            subst hv11
            replace CC := AC'.bel
            replace AC := AC'
            clear AC' P'
            refine hK.out _ _ (fun _ => HS.out _ CC) (fun hHeldN => ?_)
            replace hHeld := hHeldN (by decide)
            clear hK K hHeldN
            try go_frame
            refine wpZ_take (i := 12) (t := 81) (v := ?_) rfl rfl (by kernel_rfl) (by kernel_rfl) (by kernel_rfl) (by kernel_rfl) (fun _ _ _ h => h) (Or.inl ⟨by rfl, ?_⟩) (by assumption) ?_
            rotate_left
            · intro wq hSw
              try dsimp only at hSw
              go_simp
              try with_reducible rfl
            try go_frame
            refine wpZ_step (i := 14) (by kernel_rfl) rfl (fun K hK => ?_)
            generalize (if m1 = k + 1 then some (⟨g, off, none⟩ : Addr) else some ⟨g, off + (k + 1) * 4, none⟩) = pz at *
            obtain ⟨qa0, qa1, qa2, qa3⟩ := QA.bx.get
            have qf0 := QA.fz 0
            have qf1 := QA.fz 1
            have qf2 := QA.fz 2
            have qf3 := QA.fz 3
            go_simp
            refine hK.out _ _ (fun h => absurd rfl h) (fun _ => ?_)
            clear hK K
            refine wpZ_done (by kernel_rfl) ?_
            go_wp2_with fail
            go_meet
            case rel => exact ⟨bb, p11, c11, rfl, (QA.put4 (.bool true) (.slice p11 (k + (cells.length - (k + 1))) c11) (.slice none 0 0) (.slice none 0 0)).bx, AC.put4 hne hb4 (.bool true) (.slice p11 (k + (cells.length - (k + 1))) c11) (.slice none 0 0) (.slice none 0 0)⟩
        case rest =>
        obtain ⟨bb, py, cy, rfl, XB, AY⟩ := hcut
        rw [HER.out] at AY
        have hk3 : cells.length - (k + 1) + k + 1 = cells.length := by omega
        have HN7 := hid (HN6.out.below AY.bel)
        have HX7 := hid (HX6.out.below AY.bel)
        have HB7 := hid (HB6.out.trans (AY.bel.mono HB6.out.size))
        obtain ⟨f1, f2, f3⟩ := HF.out
        have HNy : Hid (NV wc (w1.heap.size ≤ ·) (.slice py (k + (cells.length - (k + 1))) cy) (.slice none 0 0) (.slice none 0 0) ⟨true, cells.eraseIdx k, [], []⟩) := ⟨AY.csv (by rw [hyl.out]; omega), KsV.nil _ _, DsV.nil _ _⟩
        have C1 := hid (fun d os => Calls.regrown_of (check_any _ _ _ _ _ (HNy.out.below (below_regrown wc d os))))
        have C3 := hid (fun d os => Calls.regrown_of (size_any _ _ _ _ _ (HNy.out.below (below_regrown wc d os))))
        have C5 := hid (fun d os => Calls.regrown_of (size_any _ _ _ _ _ (HN7.out.below (below_regrown wc d os))))
        simp only at C1 C3 C5
        have hzl : (3 + (ck.key.length : Int) + (ck.val.length : Int) + 2) = (ck.len : Int) := by rw [Cl.len_over h0]; rcases HVl.out with ⟨hv, _⟩ | ⟨_, _, hv, _⟩; exact absurd hv h0; rw [hv]; simp <;> omega
        rw [hzl]
        generalize (⟨true, cells.eraseIdx k, [], []⟩ : Nd).sz = zy at *
        generalize (⟨true, cells, keys, kids⟩ : Nd).sz = zx at *
        generalize (⟨true, cells.eraseIdx k, [], []⟩ : Nd).err = ey at *
        have hzz : wrap64 (zx - (ck.len : Int)) = zy := by
          have e : zx - (ck.len : Int) = zy := by omega
          rw [e]
          unfold wrap64
          omega
        generalize (ck.len : Int) = zc at *
        obtain ⟨b0, b1, b2, b3⟩ := XB.get
        obtain ⟨x0, x1, x2, x3⟩ := HX7.out.get
        have gb0 := cell_regrown b0
        have gb1 := cell_regrown b1
        have gb2 := cell_regrown b2
        have gb3 := cell_regrown b3
        have gx0 := cell_regrown x0
        have gx1 := cell_regrown x1
        have gx2 := cell_regrown x2
        have gx3 := cell_regrown x3
        clear HF HER HTk lt ld hlA hlB hnA hnB hyl HS CC HPn AY HNy HN6 HN7 HX6 XB f1 f2 hzl
        go_upto_region 20 with fail
        refine wp_region_quiet_below (by kernel_rfl) (by kernel_rfl) ?_
        repeat (first | go_big_quiet_step ((first | (go_at_call 14; with_reducible exact C1.out _ _) | (go_at_call 12; first | with_reducible exact C3.out _ _ | with_reducible exact C5.out _ _) | fail)) | quiet_step ((first | (go_at_call 14; with_reducible exact C1.out _ _) | (go_at_call 12; first | with_reducible exact C3.out _ _ | with_reducible exact C5.out _ _) | fail)))
        refine wpQuiet_nil ?_
        intro _ hw'
        obtain ⟨⟨dq, osq⟩, hw''⟩ := hw'
        subst hw''
        go_wp2
        go_ret
        exact ⟨rfl, HB7.out.trans ((below_regrown wc dq osq).mono HB7.out.size)⟩
theorem nsizes_walk {F : Nat → Prop} (cv kv dv : Value) (n : Nd) (at_ : Int) (w : World) (h : NV w F cv kv dv n) :
    Calls Try.prog 8 #[.agg #[.bool n.leaf, cv, kv, dv], .int .i64 at_] w fun e w' => e = .returned (.bool true) ∧ Below w.heap.size w w' := by
  by_cases hr : n.err = 0
  · cases hl : n.leaf with
    | false => have q := nsizes_inner cv kv dv n at_ w h hr hl; rw [hl] at q; exact q
    | true => have q := nsizes_leaf cv kv dv n at_ w h hr hl; rw [hl] at q; exact q
  · exact nsizes_bad cv kv dv n at_ w h hr
end Go.Proofs.Ytilmlegkkgiahaa
