/- The law NodeHalves returns true and writes nothing that was there. Conditions: the node lies within the reach. -/
import Derived.Test.YtilmlegkkgiahaaNdLaw
namespace Go.Proofs.Ytilmlegkkgiahaa
open Go.RowKit Go.Lib Go.Sort
set_option linter.unusedVariables false
set_option maxRecDepth 20000

set_option maxHeartbeats 4000000 in
theorem nhalves_e1 {F : Nat → Prop} (cv kv dv : Value) (n : Nd) (at_ : Int) (w : World) (h : NV w F cv kv dv n) (hr : n.err ≠ 0) :
    Calls Try.prog 7 #[.agg #[.bool n.leaf, cv, kv, dv], .int .i64 at_] w fun e w' => e = .returned (.bool true) ∧ Below w.heap.size w w' := by
  have HN := hid h
  obtain ⟨pc, cc, pk, ck, pd, cd, rfl, rfl, rfl⟩ := h.formed
  have HB0 := hid (alloc_below w (.cells #[.bool n.leaf, .slice pc n.cells.length cc, .slice pk n.keys.length ck, .slice pd n.kids.length cd] 26))
  have HX0 := hid (Bx.new w (.bool n.leaf) (.slice pc n.cells.length cc) (.slice pk n.keys.length ck) (.slice pd n.kids.length cd) 26)
  have HN0 := hid (HN.out.below HB0.out)
  clear h HN
  have her0 : (n.err != 0) = true := bne_iff_ne.2 hr
  clear hr
  go_enter Try.func7, Try.ntmps7
  go_wp2_with (first
    | (go_at_call 25; with_reducible refine (works_any _).mono ?_; rintro e w1 ⟨rfl, b1⟩; obtain ⟨x0, x1, x2, x3⟩ := (HX0.out.below b1).get; have HX1 := hid (HX0.out.below b1); have HN1 := hid (HN0.out.below b1); have HB1 := hid (HB0.out.trans (b1.mono HB0.out.size)); have A1 := hid (its_any _ _ _ n _ HN1.out); unfold itEnd at A1; clear b1)
    | (go_at_call 9; with_reducible refine A1.out.mono ?_; rintro e w2 ⟨cv2, kv2, dv2, rfl, N2, B2⟩; obtain ⟨p1, m1, p2, m2, p3, m3, hv1, hv2, hv3⟩ := N2.formed; subst hv1 hv2 hv3; have HN2 := hid N2; have HX2 := hid (HX1.out.below B2); have HM2 := hid (HN1.out.below B2); have HBx := hid (alloc_below w2 (.cells #[.bool n.leaf, .slice p1 n.cells.length m1, .slice p2 n.keys.length m2, .slice p3 n.kids.length m3] 29)); have HX3 := hid (Bx.new w2 (.bool n.leaf) (.slice p1 n.cells.length m1) (.slice p2 n.keys.length m2) (.slice p3 n.kids.length m3) 29); have HN3 := hid (N2.below HBx.out); have HB3 := hid ((HB1.out.trans (B2.mono HB1.out.size)).trans (HBx.out.mono (Nat.le_trans HB1.out.size B2.size))); have A2 := hid (check_any _ _ _ n _ HN3.out); clear N2 B2 A1 x0 x1 x2 x3 HX1 HN1 HX2 HM2 HN2 HBx)
    | (go_at_call 14; with_reducible refine A2.out.mono ?_; rintro e w4 ⟨rfl, b4⟩; obtain ⟨y0, y1, y2, y3⟩ := (HX3.out.below b4).get; have HX4 := hid (HX3.out.below b4); have HN4 := hid (HN3.out.below b4); have HB4 := hid (HB3.out.trans (b4.mono HB3.out.size)); clear b4 A2)
    | fail)
  go_ret
  exact ⟨rfl, HB4.out⟩
set_option maxHeartbeats 4000000 in
theorem nhalves_e2 {F : Nat → Prop} (cv kv dv : Value) (n : Nd) (at_ : Int) (w : World) (h : NV w F cv kv dv n) (hr : n.err = 0) (hl : n.leaf = false) :
    Calls Try.prog 7 #[.agg #[.bool n.leaf, cv, kv, dv], .int .i64 at_] w fun e w' => e = .returned (.bool true) ∧ Below w.heap.size w w' := by
  obtain ⟨leaf, cells, keys, kids⟩ := n
  simp only at hl
  subst hl
  have HN := hid h
  obtain ⟨pc, cc, pk, ck, pd, cd, rfl, rfl, rfl⟩ := h.formed
  have HB0 := hid (alloc_below w (.cells #[.bool false, .slice pc cells.length cc, .slice pk keys.length ck, .slice pd kids.length cd] 26))
  have HX0 := hid (Bx.new w (.bool false) (.slice pc cells.length cc) (.slice pk keys.length ck) (.slice pd kids.length cd) 26)
  have HN0 := hid (HN.out.below HB0.out)
  clear h HN
  have her0 : ((⟨false, cells, keys, kids⟩ : Nd).err != 0) = false := by rw [hr]; rfl
  clear hr
  go_enter Try.func7, Try.ntmps7
  go_wp2_with (first
    | (go_at_call 25; with_reducible refine (works_any _).mono ?_; rintro e w1 ⟨rfl, b1⟩; obtain ⟨x0, x1, x2, x3⟩ := (HX0.out.below b1).get; have HX1 := hid (HX0.out.below b1); have HN1 := hid (HN0.out.below b1); have HB1 := hid (HB0.out.trans (b1.mono HB0.out.size)); have A1 := hid (its_any _ _ _ (⟨false, cells, keys, kids⟩ : Nd) _ HN1.out); unfold itEnd at A1; clear b1)
    | (go_at_call 9; with_reducible refine A1.out.mono ?_; rintro e w2 ⟨cv2, kv2, dv2, rfl, N2, B2⟩; obtain ⟨p1, m1, p2, m2, p3, m3, hv1, hv2, hv3⟩ := N2.formed; subst hv1 hv2 hv3; have HN2 := hid N2; have HX2 := hid (HX1.out.below B2); have HM2 := hid (HN1.out.below B2); have HBx := hid (alloc_below w2 (.cells #[.bool false, .slice p1 cells.length m1, .slice p2 keys.length m2, .slice p3 kids.length m3] 29)); have HX3 := hid (Bx.new w2 (.bool false) (.slice p1 cells.length m1) (.slice p2 keys.length m2) (.slice p3 kids.length m3) 29); have HN3 := hid (N2.below HBx.out); have HB3 := hid ((HB1.out.trans (B2.mono HB1.out.size)).trans (HBx.out.mono (Nat.le_trans HB1.out.size B2.size))); have A2 := hid (check_any _ _ _ (⟨false, cells, keys, kids⟩ : Nd) _ HN3.out); clear N2 B2 A1 x0 x1 x2 x3 HX1 HN1 HX2 HM2 HN2 HBx)
    | (go_at_call 14; with_reducible refine A2.out.mono ?_; rintro e w4 ⟨rfl, b4⟩; obtain ⟨y0, y1, y2, y3⟩ := (HX3.out.below b4).get; have HX4 := hid (HX3.out.below b4); have HN4 := hid (HN3.out.below b4); have HB4 := hid (HB3.out.trans (b4.mono HB3.out.size)); clear b4 A2)
    | fail)
  go_ret
  exact ⟨rfl, HB4.out⟩
set_option maxHeartbeats 4000000 in
theorem nhalves_e3 {F : Nat → Prop} (cv kv dv : Value) (n : Nd) (at_ : Int) (w : World) (h : NV w F cv kv dv n) (hr : n.err = 0) (hl : n.leaf = true) (h2 : n.cells.length < 2) :
    Calls Try.prog 7 #[.agg #[.bool n.leaf, cv, kv, dv], .int .i64 at_] w fun e w' => e = .returned (.bool true) ∧ Below w.heap.size w w' := by
  obtain ⟨leaf, cells, keys, kids⟩ := n
  simp only at hl
  subst hl
  have HN := hid h
  obtain ⟨pc, cc, pk, ck, pd, cd, rfl, rfl, rfl⟩ := h.formed
  have HB0 := hid (alloc_below w (.cells #[.bool true, .slice pc cells.length cc, .slice pk keys.length ck, .slice pd kids.length cd] 26))
  have HX0 := hid (Bx.new w (.bool true) (.slice pc cells.length cc) (.slice pk keys.length ck) (.slice pd kids.length cd) 26)
  have HN0 := hid (HN.out.below HB0.out)
  clear h HN
  simp only at h2
  have her0 : ((⟨true, cells, keys, kids⟩ : Nd).err != 0) = false := by rw [hr]; rfl
  clear hr
  go_enter Try.func7, Try.ntmps7
  go_wp2_with (first
    | (go_at_call 25; with_reducible refine (works_any _).mono ?_; rintro e w1 ⟨rfl, b1⟩; obtain ⟨x0, x1, x2, x3⟩ := (HX0.out.below b1).get; have HX1 := hid (HX0.out.below b1); have HN1 := hid (HN0.out.below b1); have HB1 := hid (HB0.out.trans (b1.mono HB0.out.size)); have A1 := hid (its_any _ _ _ (⟨true, cells, keys, kids⟩ : Nd) _ HN1.out); unfold itEnd at A1; clear b1)
    | (go_at_call 9; with_reducible refine A1.out.mono ?_; rintro e w2 ⟨cv2, kv2, dv2, rfl, N2, B2⟩; obtain ⟨p1, m1, p2, m2, p3, m3, hv1, hv2, hv3⟩ := N2.formed; subst hv1 hv2 hv3; have HN2 := hid N2; have HX2 := hid (HX1.out.below B2); have HM2 := hid (HN1.out.below B2); have HBx := hid (alloc_below w2 (.cells #[.bool true, .slice p1 cells.length m1, .slice p2 keys.length m2, .slice p3 kids.length m3] 29)); have HX3 := hid (Bx.new w2 (.bool true) (.slice p1 cells.length m1) (.slice p2 keys.length m2) (.slice p3 kids.length m3) 29); have HN3 := hid (N2.below HBx.out); have HB3 := hid ((HB1.out.trans (B2.mono HB1.out.size)).trans (HBx.out.mono (Nat.le_trans HB1.out.size B2.size))); have A2 := hid (check_any _ _ _ (⟨true, cells, keys, kids⟩ : Nd) _ HN3.out); clear N2 B2 A1 x0 x1 x2 x3 HX1 HN1 HX2 HM2 HN2 HBx)
    | (go_at_call 14; with_reducible refine A2.out.mono ?_; rintro e w4 ⟨rfl, b4⟩; obtain ⟨y0, y1, y2, y3⟩ := (HX3.out.below b4).get; have HX4 := hid (HX3.out.below b4); have HN4 := hid (HN3.out.below b4); have HB4 := hid (HB3.out.trans (b4.mono HB3.out.size)); clear b4 A2)
    | fail)
  go_ret
  exact ⟨rfl, HB4.out⟩
theorem leaf_right {n : Nd} (hr : n.err = 0) (hl : n.leaf = true) : n = ⟨true, n.cells, [], []⟩ := by
  obtain ⟨leaf, cells, keys, kids⟩ := n
  simp only at hl
  subst hl
  have h := ((Nd.right_iff _).2 hr).1
  simp only [Nd.fields, if_true, Bool.and_eq_true, List.isEmpty_iff] at h
  obtain ⟨_, h2, h3, _⟩ := h
  rw [h2, h3]
theorem Cls.drop {w : World} {F : Nat → Prop} {g off k : Nat} {l : List Cl} (h : Cls w F (some ⟨g, off, none⟩) l) (hk : k < l.length) : Cls w F (some ⟨g, off + k * 4, none⟩) (l.drop k) := by
  rcases h with h | ⟨g', off', e, hF, h⟩
  · rw [h] at hk; exact absurd hk (by simp)
  · simp only [Option.some.injEq, Addr.mk.injEq, and_true] at e
    obtain ⟨rfl, rfl⟩ := e
    refine Or.inr ⟨_, _, rfl, hF, fun i hi => ?_⟩
    rw [List.length_drop] at hi
    have := h (k + i) (by omega)
    rw [List.getElem_drop, show off + k * 4 + i * 4 = off + (k + i) * 4 by omega]
    exact this
theorem Cls.take {w : World} {F : Nat → Prop} {p : Option Addr} {k : Nat} {l : List Cl} (h : Cls w F p l) : Cls w F p (l.take k) := by
  rcases h with h | ⟨g', off', e, hF, h⟩
  · exact Or.inl (by rw [h]; simp)
  · refine Or.inr ⟨g', off', e, hF, fun i hi => ?_⟩
    rw [List.length_take] at hi
    rw [List.getElem_take]
    exact h i (by omega)
set_option maxHeartbeats 8000000 in
theorem nhalves_good {F : Nat → Prop} (cv kv dv : Value) (n : Nd) (at_ : Int) (w : World) (h : NV w F cv kv dv n) (hr : n.err = 0) (hl : n.leaf = true) (h2 : 2 ≤ n.cells.length) :
    Calls Try.prog 7 #[.agg #[.bool n.leaf, cv, kv, dv], .int .i64 at_] w fun e w' => e = .returned (.bool true) ∧ Below w.heap.size w w' := by
  have hlr := leaf_right hr hl
  obtain ⟨leaf, cells, keys, kids⟩ := n
  simp only at hl hlr h2
  subst hl
  have HHv : Hid (∀ k, 1 ≤ k → k < cells.length → (⟨true, cells.take k, [], []⟩ : Nd).err = 0 ∧ (⟨true, cells.drop k, [], []⟩ : Nd).err = 0 ∧ (⟨true, cells.take k, [], []⟩ : Nd).sz + (⟨true, cells.drop k, [], []⟩ : Nd).sz = (⟨true, cells, keys, kids⟩ : Nd).sz + 3) := fun k h1 h3 => by
    have hri := (Nd.right_iff _).2 hr
    rw [hlr] at hri
    obtain ⟨a, b, c⟩ := halves hri h1 h3
    refine ⟨(Nd.right_iff _).1 a, (Nd.right_iff _).1 b, ?_⟩
    have b1 := hri.2
    have b2 := a.2
    have b3 := b.2
    simp only [Nd.len, if_true, Nd.sz, wrap64] at c b1 b2 b3 ⊢
    omega
  have HN := hid h
  obtain ⟨pc, cc, pk, ck, pd, cd, rfl, rfl, rfl⟩ := h.formed
  have HB0 := hid (alloc_below w (.cells #[.bool true, .slice pc cells.length cc, .slice pk keys.length ck, .slice pd kids.length cd] 26))
  have HX0 := hid (Bx.new w (.bool true) (.slice pc cells.length cc) (.slice pk keys.length ck) (.slice pd kids.length cd) 26)
  have HN0 := hid (HN.out.below HB0.out)
  clear h HN
  have her0 : ((⟨true, cells, keys, kids⟩ : Nd).err != 0) = false := by rw [hr]; rfl
  obtain ⟨U, hU⟩ : ∃ U : Nat, IntKind.u64.wrap at_ = (U : Int) := ⟨(IntKind.u64.wrap at_).toNat, by rw [IntKind.wrap_u64]; omega⟩
  have hlen : cells.length * 64 ≤ 140737488351232 := by obtain ⟨⟨_, _, _, _, _, _, hl3⟩, _, _⟩ := HN0.out; exact hl3
  obtain ⟨D, hD⟩ : ∃ D : Nat, (cells.length : Int) - 1 = (D : Int) := ⟨cells.length - 1, by omega⟩
  have hW : wrap64 ((cells.length : Int) - 1) = (D : Int) := by rw [hD]; unfold wrap64; omega
  have hDw : IntKind.u64.wrap (D : Int) = (D : Int) := by rw [IntKind.wrap_u64]; omega
  have hD0 : ((D : Int) == 0) = false := beq_eq_false_iff_ne.2 (by omega)
  obtain ⟨J, hJ⟩ : ∃ J, J = U % D := ⟨_, rfl⟩
  have hJl : J < D := by rw [hJ]; exact Nat.mod_lt _ (by omega)
  have hmod : (U : Int) % (D : Int) = (J : Int) := by rw [hJ]; exact (Int.natCast_emod U D).symm
  have hmod' : (U : Int).tmod (D : Int) = (J : Int) := by rw [Int.tmod_eq_emod_of_nonneg (by omega)]; exact hmod
  have HD := hid hD
  have hg2 : decide ((cells.length : Int) < 2) = false := decide_eq_false (by omega)
  clear hD hJ hlen
  clear hr hlr
  go_enter Try.func7, Try.ntmps7
  go_upto_region 7 with (first
    | (go_at_call 25; with_reducible refine (works_any _).mono ?_; rintro e w1 ⟨rfl, b1⟩; obtain ⟨x0, x1, x2, x3⟩ := (HX0.out.below b1).get; have HX1 := hid (HX0.out.below b1); have HN1 := hid (HN0.out.below b1); have HB1 := hid (HB0.out.trans (b1.mono HB0.out.size)); have A1 := hid (its_any _ _ _ (⟨true, cells, keys, kids⟩ : Nd) _ HN1.out); unfold itEnd at A1; clear b1)
    | (go_at_call 9; with_reducible refine A1.out.mono ?_; rintro e w2 ⟨cv2, kv2, dv2, rfl, N2, B2⟩; obtain ⟨p1, m1, p2, m2, p3, m3, hv1, hv2, hv3⟩ := N2.formed; subst hv1 hv2 hv3; have HN2 := hid N2; have HX2 := hid (HX1.out.below B2); have HM2 := hid (HN1.out.below B2); have HBx := hid (alloc_below w2 (.cells #[.bool true, .slice p1 cells.length m1, .slice p2 keys.length m2, .slice p3 kids.length m3] 29)); have HX3 := hid (Bx.new w2 (.bool true) (.slice p1 cells.length m1) (.slice p2 keys.length m2) (.slice p3 kids.length m3) 29); have HN3 := hid (N2.below HBx.out); have HB3 := hid ((HB1.out.trans (B2.mono HB1.out.size)).trans (HBx.out.mono (Nat.le_trans HB1.out.size B2.size))); have A2 := hid (check_any _ _ _ (⟨true, cells, keys, kids⟩ : Nd) _ HN3.out); clear N2 B2 A1 x0 x1 x2 x3 HX1 HN1 HX2 HM2 HN2 HBx)
    | (go_at_call 14; with_reducible refine A2.out.mono ?_; rintro e w4 ⟨rfl, b4⟩; obtain ⟨y0, y1, y2, y3⟩ := (HX3.out.below b4).get; have HX4 := hid (HX3.out.below b4); have HN4 := hid (HN3.out.below b4); have HB4 := hid (HB3.out.trans (b4.mono HB3.out.size)); clear b4 A2)
    | fail)
  obtain ⟨g, off, hp1⟩ : ∃ g off, p1 = some ⟨g, off, none⟩ := by
    obtain ⟨⟨p', c', e, hcl, _⟩, _, _⟩ := HN4.out
    simp only [Value.slice.injEq] at e
    rcases hcl with h | ⟨g, off, h, _⟩
    · simp only at h; rw [h] at h2; simp at h2
    · exact ⟨g, off, by rw [e.1, h]⟩
  subst hp1
  have hcap : cells.length ≤ m1 := by
    obtain ⟨⟨p', c', e, _, hc, _⟩, _, _⟩ := HN4.out
    simp only [Value.slice.injEq] at e
    rw [e.2.2]
    exact hc
  have hx4 : w2.heap.size < w4.heap.size := cell_lt y1
  have hJL : 1 + (J : Int) < (cells.length : Int) := by have := HD.out; omega
  generalize w2.heap.size = xb at *
  have hlk : (cells.length : Int) ≤ 140737488351232 := by
    obtain ⟨⟨_, _, _, _, _, _, hl3⟩, _, _⟩ := HN4.out
    simp only at hl3
    omega
  have hJb : 0 ≤ (J : Int) ∧ (J : Int) ≤ 140737488351232 := by omega
  have hj1 : wrap64 (J : Int) = (J : Int) := by clear hmod hmod' hW hDw; unfold wrap64; omega
  have hj2 : wrap64 (1 + (J : Int)) = 1 + (J : Int) := by clear hmod hmod' hW hDw hj1; unfold wrap64; omega
  obtain ⟨k, hk⟩ : ∃ k, k = J + 1 := ⟨_, rfl⟩
  have hkz : wrap64 (1 + wrap64 (J : Int)) = (k : Int) := by rw [hj1, hj2, hk, Int.natCast_add]; exact Int.add_comm _ _
  clear hmod hmod' hW hDw hD0 hU
  have HKz := hid hkz
  clear hkz
  clear hj1 hj2 hJb
  have hk1 : 1 ≤ k := by omega
  have hkL : k < cells.length := by omega
  have hkm : k ≤ m1 := by omega
  have hkl : k ≤ cells.length := by omega
  have hkc : ¬ m1 = k := by omega
  clear hk hJL hJl hlk
  rw [HKz.out]
  have HS : Hid (∀ w', Below w4.heap.size w4 w' → w'.cell? ⟨xb, 1, none⟩ = some (.slice (some ⟨g, off, none⟩) cells.length m1)) := fun w' B => (HX4.out.below B).c1
  have CC : Below w4.heap.size w4 w4.drew := (Below.refl _ _).drew
  go_cut [7, 8] from 37 to 46 (fun s7 s8 wx => ∃ ba bb : Nat, s7 = .pointer (some ⟨ba, 0, none⟩) ∧ s8 = .pointer (some ⟨bb, 0, none⟩) ∧ Bx wx ba (.bool true) (.slice (some ⟨g, off, none⟩) k m1) (.slice none 0 0) (.slice none 0 0) ∧ Bx wx bb (.bool true) (.slice (some ⟨g, off + k * 4, none⟩) (cells.length - k) (m1 - k)) (.slice none 0 0) (.slice none 0 0) ∧ Below w4.heap.size w4 wx)
  case first =>
    refine wp_region_z (z := 13) (S := fun w' => w'.cell? ⟨xb, 1, none⟩ = some (.slice (some ⟨g, off, none⟩) cells.length m1)) (by kernel_rfl) (HS.out _ CC) (fun hHeld => ?_)
    generalize hV : w4.drew = V0 at *
    clear hV
    refine wpZ_take (i := 0) (t := 37) (v := ?_) rfl rfl (by kernel_rfl) (by kernel_rfl) (by kernel_rfl) (by kernel_rfl) (fun _ _ _ h => h) (Or.inl ⟨by rfl, ?_⟩) (by assumption) ?_
    rotate_left
    · intro wq hSw
      try dsimp only at hSw
      go_simp
      try with_reducible rfl
    try go_frame
    refine wpZ_take (i := 1) (t := 38) (v := ?_) rfl rfl (by kernel_rfl) (by kernel_rfl) (by kernel_rfl) (by kernel_rfl) (fun _ _ _ h => h) (Or.inl ⟨by rfl, ?_⟩) (by assumption) ?_
    rotate_left
    · intro wq hSw
      try dsimp only at hSw
      go_simp
      try with_reducible rfl
    try go_frame
    refine wpZ_take (i := 2) (t := 39) (v := ?_) rfl rfl (by kernel_rfl) (by kernel_rfl) (by kernel_rfl) (by kernel_rfl) (fun _ _ _ h => h) (Or.inl ⟨by rfl, ?_⟩) (by assumption) ?_
    rotate_left
    · intro wq hSw
      try dsimp only at hSw
      go_simp
      try with_reducible rfl
    try go_frame
    refine wpZ_take (i := 3) (t := 40) (v := ?_) rfl rfl (by kernel_rfl) (by kernel_rfl) (by kernel_rfl) (by kernel_rfl) (fun _ _ _ h => h) (Or.inl ⟨by rfl, ?_⟩) (by assumption) ?_
    rotate_left
    · intro wq hSw
      try dsimp only at hSw
      go_simp
      try with_reducible rfl
    try go_frame
    refine wpZ_take (i := 4) (t := 41) (v := ?_) rfl rfl (by kernel_rfl) (by kernel_rfl) (by kernel_rfl) (by kernel_rfl) (fun _ _ _ h => h) (Or.inl ⟨by rfl, ?_⟩) (by assumption) ?_
    rotate_left
    · intro wq hSw
      try dsimp only at hSw
      go_simp
      try with_reducible rfl
    try go_frame
    refine wpZ_take (i := 5) (t := 42) (v := ?_) rfl rfl (by kernel_rfl) (by kernel_rfl) (by kernel_rfl) (by kernel_rfl) (fun _ _ _ h => h) (Or.inl ⟨by rfl, ?_⟩) (by assumption) ?_
    rotate_left
    · intro wq hSw
      try dsimp only at hSw
      go_simp
      try with_reducible rfl
    try go_frame
    refine wpZ_take (i := 6) (t := 43) (v := ?_) rfl rfl (by kernel_rfl) (by kernel_rfl) (by kernel_rfl) (by kernel_rfl) (fun _ _ _ h => h) (Or.inl ⟨by rfl, ?_⟩) (by assumption) ?_
    rotate_left
    · intro wq hSw
      try dsimp only at hSw
      go_simp
      try with_reducible rfl
    try go_frame
    refine wpZ_take (i := 7) (t := 44) (v := ?_) rfl rfl (by kernel_rfl) (by kernel_rfl) (by kernel_rfl) (by kernel_rfl) (fun _ _ _ h => h) (Or.inl ⟨by rfl, ?_⟩) (by assumption) ?_
    rotate_left
    · intro wq hSw
      try dsimp only at hSw
      go_simp
      try with_reducible rfl
    try go_frame
    refine wpZ_take (i := 8) (t := 45) (v := ?_) rfl rfl (by kernel_rfl) (by kernel_rfl) (by kernel_rfl) (by kernel_rfl) (fun _ _ _ h => h) (Or.inl ⟨by rfl, ?_⟩) (by assumption) ?_
    rotate_left
    · intro wq hSw
      try dsimp only at hSw
      go_simp
      try with_reducible rfl
    try go_frame
    refine wpZ_take (i := 9) (t := 46) (v := ?_) rfl rfl (by kernel_rfl) (by kernel_rfl) (by kernel_rfl) (by kernel_rfl) (fun _ _ _ h => h) (Or.inl ⟨by rfl, ?_⟩) (by assumption) ?_
    rotate_left
    · intro wq hSw
      try dsimp only at hSw
      go_simp
      try with_reducible rfl
    try go_frame
    refine wpZ_two (i := 10) (j := 11) (by kernel_rfl) rfl rfl (fun K hK => ?_) (fun K hK => ?_)
    · go_simp
      have QA := Bw.new V0 (.bool false) (.slice none 0 0) (.slice none 0 0) (.slice none 0 0) 29
      have hsV1 : V0.heap.size < (V0.alloc (.cells #[.bool false, .slice none 0 0, .slice none 0 0, .slice none 0 0] 29)).heap.size := QA.lt
      have hA : w4.heap.size ≤ V0.heap.size := CC.size
      replace CC := CC.alloc CC.size (.cells #[.bool false, .slice none 0 0, .slice none 0 0, .slice none 0 0] 29)
      generalize hv : V0.alloc _ = V1 at *
      clear hv
      generalize V0.heap.size = ba at *
      refine hK.out _ _ (fun _ => HS.out _ CC) (fun hHeldN => ?_)
      replace hHeld := hHeldN (by decide)
      clear hK K hHeldN
      try go_frame
      refine wpZ_step (i := 11) (by kernel_rfl) rfl (fun K hK => ?_)
      go_simp
      have QB := Bw.new V1 (.bool false) (.slice none 0 0) (.slice none 0 0) (.slice none 0 0) 29
      have hsV2 : V1.heap.size < (V1.alloc (.cells #[.bool false, .slice none 0 0, .slice none 0 0, .slice none 0 0] 29)).heap.size := QB.lt
      have hB : w4.heap.size ≤ V1.heap.size := CC.size
      replace QA := QA.alc (.cells #[.bool false, .slice none 0 0, .slice none 0 0, .slice none 0 0] 29)
      have hne : ba ≠ V1.heap.size := by omega
      replace CC := CC.alloc CC.size (.cells #[.bool false, .slice none 0 0, .slice none 0 0, .slice none 0 0] 29)
      generalize hv : V1.alloc _ = V2 at *
      clear hv
      generalize V1.heap.size = bb at *
      refine hK.out _ _ (fun _ => HS.out _ CC) (fun hHeldN => ?_)
      replace hHeld := hHeldN (by decide)
      clear hK K hHeldN
      try go_frame
      refine wpZ_step (i := 12) (by kernel_rfl) rfl (fun K hK => ?_)
      obtain ⟨qa0, qa1, qa2, qa3⟩ := QA.bx.get
      have qf0 := QA.fz 0
      have qf1 := QA.fz 1
      have qf2 := QA.fz 2
      have qf3 := QA.fz 3
      go_simp
      replace QA := QA.put4 (.bool true) (.slice (some ⟨g, off, none⟩) k m1) (.slice none 0 0) (.slice none 0 0)
      replace QB := QB.chg (chg4 V2 ba (.bool true) (.slice (some ⟨g, off, none⟩) k m1) (.slice none 0 0) (.slice none 0 0)) (show ¬ bb = ba from fun e => hne e.symm)
      replace CC := bel_put4 CC hA (.bool true) (.slice (some ⟨g, off, none⟩) k m1) (.slice none 0 0) (.slice none 0 0)
      clear qa0 qa1 qa2 qa3 qf0 qf1 qf2 qf3
      generalize hv : (((V2.setCell _ _).setCell _ _).setCell _ _).setCell _ _ = V3 at *
      clear hv
      refine hK.out _ _ (fun _ => HS.out _ CC) (fun hHeldN => ?_)
      replace hHeld := hHeldN (by decide)
      clear hK K hHeldN
      try go_frame
      refine wpZ_step (i := 13) (by kernel_rfl) rfl (fun K hK => ?_)
      obtain ⟨qa0, qa1, qa2, qa3⟩ := QB.bx.get
      have qf0 := QB.fz 0
      have qf1 := QB.fz 1
      have qf2 := QB.fz 2
      have qf3 := QB.fz 3
      go_simp
      refine hK.out _ _ (fun h => absurd rfl h) (fun _ => ?_)
      clear hK K
      refine wpZ_done (by kernel_rfl) ?_
      go_wp2_with fail
      go_meet
      case rel => exact ⟨ba, bb, rfl, rfl, (QA.chg (chg4 V3 bb (.bool true) (.slice (some ⟨g, off + k * 4, none⟩) (cells.length - k) (m1 - k)) (.slice none 0 0) (.slice none 0 0)) hne).bx, (QB.put4 (.bool true) (.slice (some ⟨g, off + k * 4, none⟩) (cells.length - k) (m1 - k)) (.slice none 0 0) (.slice none 0 0)).bx, bel_put4 CC hB (.bool true) (.slice (some ⟨g, off + k * 4, none⟩) (cells.length - k) (m1 - k)) (.slice none 0 0) (.slice none 0 0)⟩
    · go_simp
      have QB := Bw.new V0 (.bool false) (.slice none 0 0) (.slice none 0 0) (.slice none 0 0) 29
      have hsV1 : V0.heap.size < (V0.alloc (.cells #[.bool false, .slice none 0 0, .slice none 0 0, .slice none 0 0] 29)).heap.size := QB.lt
      have hB : w4.heap.size ≤ V0.heap.size := CC.size
      replace CC := CC.alloc CC.size (.cells #[.bool false, .slice none 0 0, .slice none 0 0, .slice none 0 0] 29)
      generalize hv : V0.alloc _ = V1 at *
      clear hv
      generalize V0.heap.size = bb at *
      refine hK.out _ _ (fun _ => HS.out _ CC) (fun hHeldN => ?_)
      replace hHeld := hHeldN (by decide)
      clear hK K hHeldN
      try go_frame
      refine wpZ_step (i := 10) (by kernel_rfl) rfl (fun K hK => ?_)
      go_simp
      have QA := Bw.new V1 (.bool false) (.slice none 0 0) (.slice none 0 0) (.slice none 0 0) 29
      have hsV2 : V1.heap.size < (V1.alloc (.cells #[.bool false, .slice none 0 0, .slice none 0 0, .slice none 0 0] 29)).heap.size := QA.lt
      have hA : w4.heap.size ≤ V1.heap.size := CC.size
      replace QB := QB.alc (.cells #[.bool false, .slice none 0 0, .slice none 0 0, .slice none 0 0] 29)
      have hne : V1.heap.size ≠ bb := by omega
      replace CC := CC.alloc CC.size (.cells #[.bool false, .slice none 0 0, .slice none 0 0, .slice none 0 0] 29)
      generalize hv : V1.alloc _ = V2 at *
      clear hv
      generalize V1.heap.size = ba at *
      refine hK.out _ _ (fun _ => HS.out _ CC) (fun hHeldN => ?_)
      replace hHeld := hHeldN (by decide)
      clear hK K hHeldN
      try go_frame
      refine wpZ_step (i := 12) (by kernel_rfl) rfl (fun K hK => ?_)
      obtain ⟨qa0, qa1, qa2, qa3⟩ := QA.bx.get
      have qf0 := QA.fz 0
      have qf1 := QA.fz 1
      have qf2 := QA.fz 2
      have qf3 := QA.fz 3
      go_simp
      replace QA := QA.put4 (.bool true) (.slice (some ⟨g, off, none⟩) k m1) (.slice none 0 0) (.slice none 0 0)
      replace QB := QB.chg (chg4 V2 ba (.bool true) (.slice (some ⟨g, off, none⟩) k m1) (.slice none 0 0) (.slice none 0 0)) (show ¬ bb = ba from fun e => hne e.symm)
      replace CC := bel_put4 CC hA (.bool true) (.slice (some ⟨g, off, none⟩) k m1) (.slice none 0 0) (.slice none 0 0)
      clear qa0 qa1 qa2 qa3 qf0 qf1 qf2 qf3
      generalize hv : (((V2.setCell _ _).setCell _ _).setCell _ _).setCell _ _ = V3 at *
      clear hv
      refine hK.out _ _ (fun _ => HS.out _ CC) (fun hHeldN => ?_)
      replace hHeld := hHeldN (by decide)
      clear hK K hHeldN
      try go_frame
      refine wpZ_step (i := 13) (by kernel_rfl) rfl (fun K hK => ?_)
      obtain ⟨qa0, qa1, qa2, qa3⟩ := QB.bx.get
      have qf0 := QB.fz 0
      have qf1 := QB.fz 1
      have qf2 := QB.fz 2
      have qf3 := QB.fz 3
      go_simp
      refine hK.out _ _ (fun h => absurd rfl h) (fun _ => ?_)
      clear hK K
      refine wpZ_done (by kernel_rfl) ?_
      go_wp2_with fail
      go_meet
      case rel => exact ⟨ba, bb, rfl, rfl, (QA.chg (chg4 V3 bb (.bool true) (.slice (some ⟨g, off + k * 4, none⟩) (cells.length - k) (m1 - k)) (.slice none 0 0) (.slice none 0 0)) hne).bx, (QB.put4 (.bool true) (.slice (some ⟨g, off + k * 4, none⟩) (cells.length - k) (m1 - k)) (.slice none 0 0) (.slice none 0 0)).bx, bel_put4 CC hB (.bool true) (.slice (some ⟨g, off + k * 4, none⟩) (cells.length - k) (m1 - k)) (.slice none 0 0) (.slice none 0 0)⟩
  case rest =>
  obtain ⟨ba, bb, rfl, rfl, XA, XB, B5⟩ := hcut
  have HN5 := hid (HN4.out.below B5)
  have HX5 := hid (HX4.out.below B5)
  have HB5 := hid (HB4.out.trans (B5.mono HB4.out.size))
  obtain ⟨e1, e2, e3⟩ := HHv.out k hk1 hkL
  obtain ⟨hCl, hl3⟩ : Cls wc (w1.heap.size ≤ ·) (some ⟨g, off, none⟩) cells ∧ cells.length * 64 ≤ 140737488351232 := by
    obtain ⟨⟨p', c', e, hcl, _, _, hl⟩, _, _⟩ := HN5.out
    simp only [Value.slice.injEq] at e
    rw [e.1]
    exact ⟨hcl, hl⟩
  have lt : (cells.take k).length = k := by rw [List.length_take]; omega
  have ld : (cells.drop k).length = cells.length - k := List.length_drop
  have HNa : Hid (NV wc (w1.heap.size ≤ ·) (.slice (some ⟨g, off, none⟩) k m1) (.slice none 0 0) (.slice none 0 0) ⟨true, cells.take k, [], []⟩) := ⟨⟨_, m1, by simp only; rw [lt], hCl.take, by simp only; rw [lt]; exact hkm, (fun h => by cases h), by simp only; rw [lt]; omega⟩, KsV.nil _ _, DsV.nil _ _⟩
  have HNb : Hid (NV wc (w1.heap.size ≤ ·) (.slice (some ⟨g, off + k * 4, none⟩) (cells.length - k) (m1 - k)) (.slice none 0 0) (.slice none 0 0) ⟨true, cells.drop k, [], []⟩) := ⟨⟨_, m1 - k, by simp only; rw [ld], hCl.drop hkL, by simp only; rw [ld]; omega, (fun h => by cases h), by simp only; rw [ld]; omega⟩, KsV.nil _ _, DsV.nil _ _⟩
  have C1 := hid (fun d os => Calls.regrown_of (check_any _ _ _ _ _ (HNa.out.below (below_regrown wc d os))))
  have C2 := hid (fun d os => Calls.regrown_of (check_any _ _ _ _ _ (HNb.out.below (below_regrown wc d os))))
  have C3 := hid (fun d os => Calls.regrown_of (size_any _ _ _ _ _ (HNa.out.below (below_regrown wc d os))))
  have C4 := hid (fun d os => Calls.regrown_of (size_any _ _ _ _ _ (HNb.out.below (below_regrown wc d os))))
  have C5 := hid (fun d os => Calls.regrown_of (size_any _ _ _ _ _ (HN5.out.below (below_regrown wc d os))))
  rw [e1] at C1
  rw [e2] at C2
  simp only at C1 C2 C3 C4 C5
  generalize (⟨true, cells.take k, [], []⟩ : Nd).sz = za at *
  generalize (⟨true, cells.drop k, [], []⟩ : Nd).sz = zb at *
  generalize (⟨true, cells, keys, kids⟩ : Nd).sz = zx at *
  obtain ⟨a0, a1, a2, a3⟩ := XA.get
  obtain ⟨b0, b1, b2, b3⟩ := XB.get
  obtain ⟨x0, x1, x2, x3⟩ := HX5.out.get
  have ga0 := cell_regrown a0
  have ga1 := cell_regrown a1
  have ga2 := cell_regrown a2
  have ga3 := cell_regrown a3
  have gb0 := cell_regrown b0
  have gb1 := cell_regrown b1
  have gb2 := cell_regrown b2
  have gb3 := cell_regrown b3
  have gx0 := cell_regrown x0
  have gx1 := cell_regrown x1
  have gx2 := cell_regrown x2
  have gx3 := cell_regrown x3
  clear HHv e1 e2 hCl lt ld HNa HNb HN5 HN4 HX4 y0 y1 y2 y3 HS CC
  go_upto_region 8 with fail
  refine wp_region_quiet_below (by kernel_rfl) (by kernel_rfl) ?_
  repeat (first | go_big_quiet_step ((first | (go_at_call 14; first | with_reducible exact C1.out _ _ | with_reducible exact C2.out _ _) | (go_at_call 12; first | with_reducible exact C3.out _ _ | with_reducible exact C4.out _ _ | with_reducible exact C5.out _ _) | fail)) | quiet_step ((first | (go_at_call 14; first | with_reducible exact C1.out _ _ | with_reducible exact C2.out _ _) | (go_at_call 12; first | with_reducible exact C3.out _ _ | with_reducible exact C4.out _ _ | with_reducible exact C5.out _ _) | fail)))
  refine wpQuiet_nil ?_
  intro _ hw'
  obtain ⟨⟨dq, osq⟩, hw''⟩ := hw'
  subst hw''
  go_wp2
  go_ret
  exact ⟨rfl, HB5.out.trans ((below_regrown wc dq osq).mono HB5.out.size)⟩
theorem nhalves_walk {F : Nat → Prop} (cv kv dv : Value) (n : Nd) (at_ : Int) (w : World) (h : NV w F cv kv dv n) :
    Calls Try.prog 7 #[.agg #[.bool n.leaf, cv, kv, dv], .int .i64 at_] w fun e w' => e = .returned (.bool true) ∧ Below w.heap.size w w' := by
  by_cases hr : n.err = 0
  · cases hl : n.leaf with
    | false => have q := nhalves_e2 cv kv dv n at_ w h hr hl; rw [hl] at q; exact q
    | true =>
      by_cases h2 : n.cells.length < 2
      · have q := nhalves_e3 cv kv dv n at_ w h hr hl h2; rw [hl] at q; exact q
      · have q := nhalves_good cv kv dv n at_ w h hr hl (by omega); rw [hl] at q; exact q
  · exact nhalves_e1 cv kv dv n at_ w h hr
end Go.Proofs.Ytilmlegkkgiahaa
