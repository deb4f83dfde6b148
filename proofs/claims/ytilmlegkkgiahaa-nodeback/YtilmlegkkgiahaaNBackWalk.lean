/- The law NodeBack returns true and writes nothing that was there. Conditions: the node lies within the reach. -/
import Derived.Test.YtilmlegkkgiahaaNdLaw
namespace Go.Proofs.Ytilmlegkkgiahaa
open Go.RowKit Go.Lib Go.Sort
set_option linter.unusedVariables false
set_option maxRecDepth 20000

set_option maxHeartbeats 4000000 in
theorem nback_bad {F : Nat → Prop} (cv kv dv : Value) (n : Nd) (at_ : Int) (by_ : UInt8) (w : World) (h : NV w F cv kv dv n) (hr : n.err ≠ 0) :
    Calls Try.prog 6 #[.agg #[.bool n.leaf, cv, kv, dv], .int .i64 at_, .int .u8 (by_.toNat : Int)] w fun e w' => e = .returned (.bool true) ∧ Below w.heap.size w w' := by
  have HN := hid h
  obtain ⟨pc, cc, pk, ck, pd, cd, rfl, rfl, rfl⟩ := h.formed
  have HB0 := hid (alloc_below w (.cells #[.bool n.leaf, .slice pc n.cells.length cc, .slice pk n.keys.length ck, .slice pd n.kids.length cd] 26))
  have HX0 := hid (Bx.new w (.bool n.leaf) (.slice pc n.cells.length cc) (.slice pk n.keys.length ck) (.slice pd n.kids.length cd) 26)
  have HN0 := hid (HN.out.below HB0.out)
  clear h HN
  have A2 := hid (fun w' cv kv dv (G : Nat → Prop) (N : NV w' G cv kv dv n) => encode_wrong cv kv dv n w' N hr)
  have her0 : (n.err != 0) = true := bne_iff_ne.2 hr
  generalize n.err = er at *
  clear hr
  go_enter Try.func6, Try.ntmps6
  go_wp2_with (first
    | (go_at_call 25; with_reducible refine (works_any _).mono ?_; rintro e w1 ⟨rfl, b1⟩; obtain ⟨x0, x1, x2, x3⟩ := (HX0.out.below b1).get; have HX1 := hid (HX0.out.below b1); have HN1 := hid (HN0.out.below b1); have HB1 := hid (HB0.out.trans (b1.mono HB0.out.size)); have A1 := hid (its_any _ _ _ n _ HN1.out); unfold itEnd at A1; clear b1)
    | (go_at_call 9; with_reducible refine A1.out.mono ?_; rintro e w2 ⟨cv2, kv2, dv2, rfl, N2, B2⟩; obtain ⟨p1, m1, p2, m2, p3, m3, hv1, hv2, hv3⟩ := N2.formed; subst hv1 hv2 hv3; have HN2 := hid N2; have HX2 := hid (HX1.out.below B2); have HM2 := hid (HN1.out.below B2); have HB2 := hid (HB1.out.trans (B2.mono HB1.out.size)); clear N2 B2 A1 x0 x1 x2 x3 HX1 HN1)
    | (go_at_call 10; with_reducible refine (A2.out _ _ _ _ _ HN2.out).mono ?_; rintro e w3 ⟨rfl, b3⟩; have HB3 := hid (HB2.out.trans (b3.mono HB2.out.size)); clear b3)
    | fail)
  go_ret
  exact ⟨rfl, HB3.out⟩
set_option maxHeartbeats 8000000 in
theorem nback_good {F : Nat → Prop} (cv kv dv : Value) (n : Nd) (at_ : Int) (by_ : UInt8) (w : World) (h : NV w F cv kv dv n) (hr : n.err = 0) :
    Calls Try.prog 6 #[.agg #[.bool n.leaf, cv, kv, dv], .int .i64 at_, .int .u8 (by_.toNat : Int)] w fun e w' => e = .returned (.bool true) ∧ Below w.heap.size w w' := by
  have HN := hid h
  obtain ⟨pc, cc, pk, ck, pd, cd, rfl, rfl, rfl⟩ := h.formed
  have HB0 := hid (alloc_below w (.cells #[.bool n.leaf, .slice pc n.cells.length cc, .slice pk n.keys.length ck, .slice pd n.kids.length cd] 26))
  have HX0 := hid (Bx.new w (.bool n.leaf) (.slice pc n.cells.length cc) (.slice pk n.keys.length ck) (.slice pd n.kids.length cd) 26)
  have HN0 := hid (HN.out.below HB0.out)
  clear h HN
  have hri := (Nd.right_iff n).2 hr
  have HL : Hid (n.load.length = 508) := Nd.load_len hri
  have A2 := hid (fun w' cv kv dv (G : Nat → Prop) (N : NV w' G cv kv dv n) => encode_right cv kv dv n w' N hr)
  have A3 := hid (fun w' v (G : Nat → Prop) (N : BV w' G v n.load) => decode_some v n.load n w' N (decN_load hri))
  have A8 := hid (fun (m : Nd) w' cv kv dv (G : Nat → Prop) (N : NV w' G cv kv dv m) => ours_any cv kv dv m w' N)
  unfold itEnd at A8
  have A9 := hid (fun w' cv kv dv (G : Nat → Prop) (N : NV w' G cv kv dv n) (M : NV w' F (.slice pc n.cells.length cc) (.slice pk n.keys.length ck) (.slice pd n.kids.length cd) n) => same_any cv kv dv _ _ _ n n w' N M)
  rw [(sameN_eq n n).2 rfl] at A9
  have HDo := hid (fun m k (c : UInt8) (hk : k < n.load.length) (h : n.load[k] ≠ c) (hd : decN (n.load.set k c) = some m) => dec_other hri hk h hd)
  clear hr hri
  go_enter Try.func6, Try.ntmps6
  go_upto_region 7 with (first
    | (go_at_call 25; with_reducible refine (works_any _).mono ?_; rintro e w1 ⟨rfl, b1⟩; obtain ⟨x0, x1, x2, x3⟩ := (HX0.out.below b1).get; have HX1 := hid (HX0.out.below b1); have HN1 := hid (HN0.out.below b1); have HB1 := hid (HB0.out.trans (b1.mono HB0.out.size)); have A1 := hid (its_any _ _ _ n _ HN1.out); unfold itEnd at A1; clear b1)
    | (go_at_call 9; with_reducible refine A1.out.mono ?_; rintro e w2 ⟨cv2, kv2, dv2, rfl, N2, B2⟩; obtain ⟨p1, m1, p2, m2, p3, m3, hv1, hv2, hv3⟩ := N2.formed; subst hv1 hv2 hv3; have HN2 := hid N2; have HX2 := hid (HX1.out.below B2); have HM2 := hid (HN1.out.below B2); have HB2 := hid (HB1.out.trans (B2.mono HB1.out.size)); clear N2 B2 A1 x0 x1 x2 x3 HX1 HN1)
    | (go_at_call 10; with_reducible refine (A2.out _ _ _ _ _ HN2.out).mono ?_; rintro e w3 ⟨b3, va, rfl, oa⟩; obtain ⟨pa, ca, hva⟩ := oa.formN 508 HL.out; subst hva; have HO3 := hid oa; have A3' := hid (A3.out _ _ _ (oa.bv (Nat.le_trans (Nat.le_of_eq HL.out) (by decide)))); have HB3 := hid b3; clear b3 oa A2 HN2)
    | (go_at_call 19; with_reducible refine A3'.out.mono ?_; rintro e w4 ⟨b4, cv4, kv4, dv4, rfl, N4⟩; obtain ⟨y1, y4, y2, y5, y3, y6, hv1, hv2, hv3⟩ := N4.formed; subst hv1 hv2 hv3; have HN4 := hid N4; have HO4 := hid (HO3.out.bel b4); have HB4 := hid (HB3.out.trans (b4.mono HB3.out.size)); clear b4 N4 A3 A3' HO3 HB3)
    | fail)
  have HBx := hid (alloc_below w4 (.cells #[.bool n.leaf, .slice y1 n.cells.length y4, .slice y2 n.keys.length y5, .slice y3 n.kids.length y6] 29))
  have HX5 := hid (Bx.new w4 (.bool n.leaf) (.slice y1 n.cells.length y4) (.slice y2 n.keys.length y5) (.slice y3 n.kids.length y6) 29)
  have HN5 := hid (HN4.out.below HBx.out)
  have HO5 := hid (HO4.out.bel HBx.out)
  have HB5 := hid (HB4.out.trans (HBx.out.mono HB4.out.size))
  clear HN4 HO4 HB4
  generalize hW5 : w4.alloc _ = W5 at *
  clear hW5 HBx
  generalize w4.heap.size = xb at *
  have B0 : Below W5.heap.size W5 W5.drew := (Below.refl _ _).drew
  have HS : Hid (∀ w', Below W5.heap.size W5 w' → (w'.cell? ⟨xb, 0, none⟩ = some (.bool n.leaf) ∧ w'.cell? ⟨xb, 1, none⟩ = some (.slice y1 n.cells.length y4) ∧ w'.cell? ⟨xb, 2, none⟩ = some (.slice y2 n.keys.length y5) ∧ w'.cell? ⟨xb, 3, none⟩ = some (.slice y3 n.kids.length y6)) ∧ (w'.cell? ⟨w.heap.size, 0, none⟩ = some (.bool n.leaf) ∧ w'.cell? ⟨w.heap.size, 1, none⟩ = some (.slice pc n.cells.length cc) ∧ w'.cell? ⟨w.heap.size, 2, none⟩ = some (.slice pk n.keys.length ck) ∧ w'.cell? ⟨w.heap.size, 3, none⟩ = some (.slice pd n.kids.length cd))) := fun w' B => ⟨(HX5.out.below B).get, ((HX2.out.below HB5.out).below B).get⟩
  have O1 := hid (A8.out n W5.drew _ _ _ _ (HN5.out.below B0))
  have HNn2 := hid (fun w' (B : Below W5.heap.size W5 w') => (HM2.out.below HB5.out).below B)
  clear HX5 HN5
  go_region_held_law (fun w' => (w'.cell? ⟨xb, 0, none⟩ = some (.bool n.leaf) ∧ w'.cell? ⟨xb, 1, none⟩ = some (.slice y1 n.cells.length y4) ∧ w'.cell? ⟨xb, 2, none⟩ = some (.slice y2 n.keys.length y5) ∧ w'.cell? ⟨xb, 3, none⟩ = some (.slice y3 n.kids.length y6)) ∧ (w'.cell? ⟨w.heap.size, 0, none⟩ = some (.bool n.leaf) ∧ w'.cell? ⟨w.heap.size, 1, none⟩ = some (.slice pc n.cells.length cc) ∧ w'.cell? ⟨w.heap.size, 2, none⟩ = some (.slice pk n.keys.length ck) ∧ w'.cell? ⟨w.heap.size, 3, none⟩ = some (.slice pd n.kids.length cd))) (with_reducible first | exact HS.out _ B0 | exact HS.out _ B6 | exact HS.out _ B7)
    (first
      | (go_at_call 17; with_reducible refine O1.out.mono ?_; rintro e w6 ⟨cv6, kv6, dv6, rfl, N6, b6⟩; have B6 := B0.trans (b6.mono B0.size); have O2 := hid (A9.out w6 _ _ _ _ N6 (HNn2.out w6 B6)); obtain ⟨q1, r1, q2, r2, q3, r3, hv1, hv2, hv3⟩ := N6.formed; subst hv1 hv2 hv3; clear N6 b6)
      | (go_at_call 16; with_reducible refine O2.out.mono ?_; rintro e w7 ⟨rfl, b7⟩; have B7 := B6.trans (b7.mono B6.size); clear b7)
      | fail)
  have HB7 := hid (HB5.out.trans (B7.mono HB5.out.size))
  have HO7 := hid (HO5.out.bel B7)
  clear HS O1 O2 HNn2 B0 B6 B7 HB5 HO5 A9
  generalize hld : n.load = ld at *
  obtain ⟨a, ha⟩ : ∃ a, wrap64 ((IntKind.u64.wrap at_).tmod 508) = a := ⟨_, rfl⟩
  have hab := umod_bd at_ 508 (by omega) (by omega)
  rw [ha] at hab
  obtain ⟨ha0, ha1⟩ := hab
  obtain ⟨K, rfl⟩ : ∃ an : Nat, a = (an : Int) := ⟨a.toNat, by omega⟩
  have hK : K < ld.length := by rw [HL.out]; omega
  obtain ⟨g, cap, hv, hg, _, hc, hset⟩ := HO7.out.parts (fun e => by rw [e] at hK; simp at hK)
  simp only [Value.slice.injEq] at hv
  obtain ⟨rfl, h508, rfl⟩ := hv
  clear h508
  obtain ⟨c0, f0⟩ := hc K hK
  have HSet := hid (hset K by_)
  have HB8 := hid (HB7.out.setCell (p := ⟨g, K, none⟩) hg (.int .u8 (by_.toNat : Int)))
  have HDo' := hid (fun m => HDo.out m K by_ hK)
  have HK : Hid (K < ld.length) := hK
  have HEq : Hid (((ld[K].toNat : Int) = (by_.toNat : Int)) ↔ ld[K] = by_) := ⟨fun h => UInt8.toNat_inj.1 (by omega), fun h => by rw [h]⟩
  clear hc hset HDo HO7
  by_cases heq : ld[K] = by_
  · have e1 : ((ld[K].toNat : Int) == (by_.toNat : Int)) = true := beq_iff_eq.2 (HEq.out.2 heq)
    generalize (ld[K].toNat : Int) = yb at *
    generalize (by_.toNat : Int) = cb at *
    go_wp2
    go_ret
    exact ⟨rfl, HB2.out.trans (HB7.out.mono HB2.out.size)⟩
  · have e1 : ((ld[K].toNat : Int) == (by_.toNat : Int)) = false := beq_eq_false_iff_ne.2 (fun h => heq (HEq.out.1 h))
    have HE := hid heq
    have HLs : Hid ((ld.set K by_).length = 508) := by show _ = _; rw [List.length_set]; exact HL.out
    have HV := hid (HSet.out.bv (Nat.le_trans (Nat.le_of_eq HLs.out) (by decide)))
    clear HEq heq
    cases hd : decN (ld.set K by_) with
    | none =>
      have A3 := hid (decode_none _ _ _ HV.out hd)
      clear hd HDo' HE
      generalize (ld[K].toNat : Int) = yb at *
      go_wp2_with (first
        | (go_at_call 19; go_loud (with_reducible refine A3.out.mono ?_); rintro e w9 ⟨b9, p9, c9, p8, c8, p7, c7, rfl⟩; have HB9 := hid (HB8.out.trans (b9.mono HB8.out.size)); clear b9)
        | fail)
      go_ret
      exact ⟨rfl, HB2.out.trans ((HB9.out.alloc HB9.out.size _).mono HB2.out.size)⟩
    | some m =>
      have A3 := hid (decode_some _ _ m _ HV.out hd)
      obtain ⟨hm0, hm1, hm2⟩ := HDo'.out m HE.out hd
      have A2 := hid (fun w' cv kv dv (G : Nat → Prop) (N : NV w' G cv kv dv m) => encode_right cv kv dv m w' N hm0)
      rw [hm1] at A2
      have A9 := hid (fun w' cv kv dv (G : Nat → Prop) (N : NV w' G cv kv dv m) (M : NV w' F (.slice pc n.cells.length cc) (.slice pk n.keys.length ck) (.slice pd n.kids.length cd) n) => same_any cv kv dv _ _ _ m n w' N M)
      rw [hm2] at A9
      clear hd HDo' HE hm0 hm1 hm2
      generalize (ld[K].toNat : Int) = yb at *
      generalize ld.set K by_ = ld' at *
      go_upto_region 17 with (first
        | (go_at_call 19; with_reducible refine A3.out.mono ?_; rintro e w9 ⟨b9, cv9, kv9, dv9, rfl, N9⟩; obtain ⟨z1, z4, z2, z5, z3, z6, hv1, hv2, hv3⟩ := N9.formed; subst hv1 hv2 hv3; have HBx := hid (alloc_below w9 (.cells #[.bool m.leaf, .slice z1 m.cells.length z4, .slice z2 m.keys.length z5, .slice z3 m.kids.length z6] 29)); have HX9 := hid (Bx.new w9 (.bool m.leaf) (.slice z1 m.cells.length z4) (.slice z2 m.keys.length z5) (.slice z3 m.kids.length z6) 29); have HN9 := hid (N9.below HBx.out); have HV9 := hid ((HV.out.below b9).below HBx.out); have HB9 := hid ((HB8.out.trans (b9.mono HB8.out.size)).trans (HBx.out.mono (Nat.le_trans HB8.out.size b9.size))); have A2' := hid (A2.out _ _ _ _ _ HN9.out); clear b9 N9 A3 A2 HV)
        | (go_at_call 10; with_reducible refine A2'.out.mono ?_; rintro e w10 ⟨b10, vb, rfl, ob⟩; obtain ⟨pb, cb, hvb⟩ := ob.formN 508 HLs.out; subst hvb; have HX10 := hid (HX9.out.below b10); have HN10 := hid (HN9.out.below b10); have HV10 := hid (HV9.out.below b10); have HU10 := hid (ob.bv (Nat.le_trans (Nat.le_of_eq HLs.out) (by decide))); have HB10 := hid (HB9.out.trans (b10.mono HB9.out.size)); clear b10 ob)
        | fail)
      clear HX9 HN9 HV9 HB9 A2' HBx
      generalize w9.heap.size = xb9 at *
      have B0 : Below w10.heap.size w10 w10.drew := (Below.refl _ _).drew
      have HS : Hid (∀ w', Below w10.heap.size w10 w' → (w'.cell? ⟨xb9, 0, none⟩ = some (.bool m.leaf) ∧ w'.cell? ⟨xb9, 1, none⟩ = some (.slice z1 m.cells.length z4) ∧ w'.cell? ⟨xb9, 2, none⟩ = some (.slice z2 m.keys.length z5) ∧ w'.cell? ⟨xb9, 3, none⟩ = some (.slice z3 m.kids.length z6)) ∧ (w'.cell? ⟨w.heap.size, 0, none⟩ = some (.bool n.leaf) ∧ w'.cell? ⟨w.heap.size, 1, none⟩ = some (.slice pc n.cells.length cc) ∧ w'.cell? ⟨w.heap.size, 2, none⟩ = some (.slice pk n.keys.length ck) ∧ w'.cell? ⟨w.heap.size, 3, none⟩ = some (.slice pd n.kids.length cd)) ∧ (convert 31 9 (.slice (some ⟨g, 0, none⟩) 508 ca)).run Try.prog w' = .ok (.string ⟨ld'.toArray⟩) w' ∧ (convert 31 9 (.slice pb 508 cb)).run Try.prog w' = .ok (.string ⟨ld'.toArray⟩) w') := fun w' B => ⟨(HX10.out.below B).get, ((HX2.out.below HB10.out).below B).get, (HV10.out.below B).conv, (HU10.out.below B).conv⟩
      have O1 := hid (A8.out m w10.drew _ _ _ _ (HN10.out.below B0))
      have HNn2 := hid (fun w' (B : Below w10.heap.size w10 w') => (HM2.out.below HB10.out).below B)
      go_region_held_law (fun w' => (w'.cell? ⟨xb9, 0, none⟩ = some (.bool m.leaf) ∧ w'.cell? ⟨xb9, 1, none⟩ = some (.slice z1 m.cells.length z4) ∧ w'.cell? ⟨xb9, 2, none⟩ = some (.slice z2 m.keys.length z5) ∧ w'.cell? ⟨xb9, 3, none⟩ = some (.slice z3 m.kids.length z6)) ∧ (w'.cell? ⟨w.heap.size, 0, none⟩ = some (.bool n.leaf) ∧ w'.cell? ⟨w.heap.size, 1, none⟩ = some (.slice pc n.cells.length cc) ∧ w'.cell? ⟨w.heap.size, 2, none⟩ = some (.slice pk n.keys.length ck) ∧ w'.cell? ⟨w.heap.size, 3, none⟩ = some (.slice pd n.kids.length cd)) ∧ (convert 31 9 (.slice (some ⟨g, 0, none⟩) 508 ca)).run Try.prog w' = .ok (.string ⟨ld'.toArray⟩) w' ∧ (convert 31 9 (.slice pb 508 cb)).run Try.prog w' = .ok (.string ⟨ld'.toArray⟩) w') (with_reducible first | exact HS.out _ B0 | exact HS.out _ B6 | exact HS.out _ B7)
        (first
          | (go_at_call 17; with_reducible refine O1.out.mono ?_; rintro e w6 ⟨cv6, kv6, dv6, rfl, N6, b6⟩; have B6 := B0.trans (b6.mono B0.size); have O2 := hid (A9.out w6 _ _ _ _ N6 (HNn2.out w6 B6)); obtain ⟨q1, r1, q2, r2, q3, r3, hv1, hv2, hv3⟩ := N6.formed; subst hv1 hv2 hv3; clear N6 b6)
          | (go_at_call 16; with_reducible refine O2.out.mono ?_; rintro e w7 ⟨rfl, b7⟩; have B7 := B6.trans (b7.mono B6.size); clear b7)
          | fail)
      go_wp2
      go_ret
      exact ⟨rfl, HB2.out.trans ((HB10.out.trans (B7.mono HB10.out.size)).mono HB2.out.size)⟩
theorem nback_walk {F : Nat → Prop} (cv kv dv : Value) (n : Nd) (at_ : Int) (by_ : UInt8) (w : World) (h : NV w F cv kv dv n) :
    Calls Try.prog 6 #[.agg #[.bool n.leaf, cv, kv, dv], .int .i64 at_, .int .u8 (by_.toNat : Int)] w fun e w' => e = .returned (.bool true) ∧ Below w.heap.size w w' := by
  by_cases hr : n.err = 0
  · exact nback_good cv kv dv n at_ by_ w h hr
  · exact nback_bad cv kv dv n at_ by_ w h hr
end Go.Proofs.Ytilmlegkkgiahaa
