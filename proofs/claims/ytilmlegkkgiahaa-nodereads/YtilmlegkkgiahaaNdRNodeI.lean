/- What the document's reader of nodes does with a node that is no leaf. Condition: the bytes lie within the reach. -/
import Derived.Test.YtilmlegkkgiahaaNdRPl
import Derived.Test.YtilmlegkkgiahaaNdKD
namespace Go.Proofs.Ytilmlegkkgiahaa
open Go.RowKit Go.Lib
set_option linter.unusedVariables false
set_option maxRecDepth 20000

theorem KD.nil (w : World) (base xb : Nat) : KD w base xb (.slice none 0 0) (.slice none 0 0) [] [] :=
  ⟨fun _ => False, [], World.ownsRow_nil _ _ _ _, trivial, fun _ h => h.elim, OwnD.nil _ _, fun j hj => by simp [Value.ownBlock] at hj, by simp [Value.ownBlock], by simp [Value.ownBlock]⟩
theorem KD.lo {w : World} {base xb : Nat} {kv dv : Value} {ks : List (List UInt8)} {ds : List Int} (h : KD w base xb kv dv ks ds) (hn : 0 < ks.length + ds.length) : base ≤ w.heap.size := by
  obtain ⟨F, xs, h1, _, _, h4, _⟩ := h
  by_cases hk : ks.length = 0
  · obtain ⟨p, c, hv, _⟩ := row_form h4
    subst hv
    obtain ⟨g, rfl, hg, _⟩ := row_at h4 (by omega)
    have := (h4.lt g rfl).2
    omega
  · obtain ⟨p, c, hv, _⟩ := row_form h1
    subst hv
    obtain ⟨g, rfl, hg, _⟩ := row_at h1 hk
    have := (h1.lt g rfl).2
    omega
set_option maxHeartbeats 16000000 in
theorem dnode_inner (rb : Nat) (s : List UInt8 × Bool) (w : World) (hR : Rr w (· < rb) rb s) (h1 : leN (tkD 1 s).1 ≠ 1) :
    Calls Try.prog 38 #[.pointer (some ⟨rb, 0, none⟩)] w (rrEnd (NodeP w.heap.size) (· < rb) rb (nodeD s) w) := by
  have hrb := hR.lt
  have HB0 := hid (alloc_below w (.cells #[.bool false, .slice none 0 0, .slice none 0 0, .slice none 0 0] 26))
  have HZ0 := hid (Bw.new w (.bool false) (.slice none 0 0) (.slice none 0 0) (.slice none 0 0) 26)
  have T := hid (dtake_any rb 1 s _ (hR.below HB0.out) (by omega))
  rw [show ((1 : Nat) : Int) = 1 from rfl] at T
  unfold rrEnd bvP at T
  have HN : Hid (nodeD s = (⟨false, [], (kidsD (twoD (tkD 1 s).2).1 (twoD (twoD (tkD 1 s).2).2).2).1.1, ((twoD (twoD (tkD 1 s).2).2).1 : Int) :: (kidsD (twoD (tkD 1 s).2).1 (twoD (twoD (tkD 1 s).2).2).2).1.2⟩, (kidsD (twoD (tkD 1 s).2).1 (twoD (twoD (tkD 1 s).2).2).2).2)) := if_neg h1
  obtain ⟨x, hx⟩ := one_list (tkD_len 1 s)
  generalize tkD 1 s = t at *
  obtain ⟨t1, t2⟩ := t
  simp only at hx T HN h1
  subst hx
  have hx1 : ((x.toNat : Int) == 1) = false := beq_eq_false_iff_ne.2 (fun e => h1 (by simp [leN]; omega))
  have T2f := hid (fun w1 (R : Rr w1 (· < rb) rb t2) => dtwo_any rb t2 w1 R)
  unfold rrEnd nmP at T2f
  have hK := twoD_lt t2
  generalize twoD t2 = t4 at *
  obtain ⟨K, s4⟩ := t4
  simp only at T2f HN hK
  have HTw := hid (fun w1 (R : Rr w1 (· < rb) rb s4) => dtwo_any rb s4 w1 R)
  unfold rrEnd nmP at HTw
  have hd := twoD_lt s4
  generalize twoD s4 = t6 at *
  obtain ⟨d, s6⟩ := t6
  simp only at HTw HN hd
  generalize htot : ((([] ++ (kidsD K s6).1.1, [(d : Int)] ++ (kidsD K s6).1.2), (kidsD K s6).2) : (List (List UInt8) × List Int) × (List UInt8 × Bool)) = tot
  have HTt := hid htot
  have HN0 : Hid (nodeD s = (⟨false, [], tot.1.1, tot.1.2⟩, tot.2)) := by show _ = _; rw [HN.out, ← htot]; simp
  clear hR HN h1 htot
  generalize hX : x.toNat = X at *
  go_enter Try.func38, Try.ntmps38
  go_upto_region 4 with (first
    | (go_at_call 57; with_reducible refine T.out.mono ?_; rintro e w2 ⟨v2, rfl, b2, r2, k2⟩; obtain ⟨p2', c2, hv2⟩ := b2.shape; subst hv2; obtain ⟨b, off, hp, _, g0⟩ := b2.at (i := 0) (by simp); subst hp; simp only [List.getElem_cons_zero, Nat.add_zero, hX] at g0; have HC2 := hid ((Chg.of_below HB0.out).trans k2 (fun _ _ h => h)); have HZ2 := hid (HZ0.out.chg k2 (show ¬ w.heap.size = rb by omega)); have HXb := hid (Bw.new w2 (.bool false) (.slice none 0 0) (.slice none 0 0) (.slice none 0 0) 26); obtain ⟨l0, l1, l2, l3⟩ := HXb.out.bx.get; have T2 := hid (T2f.out _ (r2.below (alloc_below w2 (.cells #[.bool false, .slice none 0 0, .slice none 0 0, .slice none 0 0] 26)))); have hw2 : w.heap.size < w2.heap.size := HZ2.out.lt; clear r2 k2 b2 T)
    | (go_at_call 58; with_reducible refine T2.out.mono ?_; rintro e w4 ⟨v4, rfl, hn4, r4, k4⟩; subst hn4; have HXy := hid (HXb.out.chg k4 (show ¬ w2.heap.size = rb by omega)); obtain ⟨m0, m1, m2, m3⟩ := HXy.out.bx.get; have HZy := hid ((HZ2.out.alc _).chg k4 (show ¬ w.heap.size = rb by omega)); have HCy := hid (((HC2.out.alloc _).trans k4 (fun _ _ h => h) : Chg (· = rb) w w4)); have HRy := hid r4; clear r4 k4 T2 l0 l1 l2 l3)
    | fail)
  have hx4 : w2.heap.size < w4.heap.size := HXy.out.lt
  generalize w2.heap.size = xb at *
  clear HZ2 HC2 HXb HZ0 m0 m1 m2 m3
  have HKy := hid (KD.nil w4 w4.heap.size xb)
  have HBy : Hid (w4.heap.size ≤ w4.heap.size) := Nat.le_refl _
  have HLds : Hid (([] : List Int).length = 0) := rfl
  have HBd : Hid (0 < 65536) := by show _ < _; decide
  have HA := hid (HTw.out w4.drew (HRy.out.below (drew_below w4)))
  generalize hbs : w4.heap.size = bs at HKy HBy
  replace HBy : Hid (bs ≤ w4.heap.size) := Nat.le_of_eq hbs.symm
  have hbs1 : w.heap.size < bs ∧ xb < bs := by omega
  obtain ⟨hbs2, hbs3⟩ := hbs1
  clear hbs
  have hxr : xb < w4.heap.size := HXy.out.lt
  have HxR := hid hxr
  have HbR : Hid (bs ≤ w4.heap.size) := HBy.out
  have HS : Hid (∀ w', Chg (· = rb) w4 w' → w'.cell? ⟨xb, 3, none⟩ = some (.slice none 0 0)) := fun w' C' => (HXy.out.chg C' (show ¬ xb = rb by omega)).bx.c3
  have HKk : Hid (∀ w', Chg (· = rb) w4 w' → KD w' bs xb (.slice none 0 0) (.slice none 0 0) ([] : List (List UInt8)) ([] : List Int)) := fun w' C' => HKy.out.chg C' (fun j e => Or.inl (by have h2 : j = rb := e; omega))
  have HFr : Hid (∀ j, w4.drew.heap.size ≤ j → bs ≤ j ∧ (Value.slice none 0 0).ownBlock ≠ some j ∧ (Value.slice none 0 0).ownBlock ≠ some j ∧ j ≠ xb) := fun j hj => by
    have hj' : w4.heap.size ≤ j := hj
    have hbr := HbR.out
    obtain ⟨b1, b2⟩ := HKy.out.blocks
    exact ⟨by omega, fun e => by have := b1 j e; omega, fun e => by have := b2 j e; omega, by omega⟩
  have HSp : Hid (∀ (cur : World) (v' : Value) (w' : World), Chg (· = rb) w4 cur → Rr cur (· < rb) rb s6 → (∀ wx, Past wx (.slice none 0 0) v' cur w') → (w'.cell? ⟨xb, 3, none⟩ = some (.slice none 0 0)) ∧ Bw w' xb (.bool false) (.slice none 0 0) (.slice none 0 0) (.slice none 0 0) ∧ Chg (· = rb) w w' ∧ Rr w' (· < rb) rb s6 ∧ Bw w' w.heap.size (.bool false) (.slice none 0 0) (.slice none 0 0) (.slice none 0 0)) := fun cur v' w' C' R' P => by
    have hob := HKy.out.blocks.2
    have X5 := (HXy.out.chg C' (show ¬ xb = rb by omega)).chg (past_chg P) (fun e => (hob _ e).2.2 rfl)
    exact ⟨X5.bx.c3, X5, chgF_past (HCy.out.trans C' (fun _ _ h => h)) P (fun j e => by have := hob j e; omega), R'.kp (Kp.of_chg (past_chg P) (fun j hj e => by have := hob j e; rcases hj with q | q <;> omega)), (HZy.out.chg C' (show ¬ w.heap.size = rb by omega)).chg (past_chg P) (fun e => by have := hob _ e; omega)⟩
  have HLd2 : Hid ((([] : List Int) ++ [(d : Int)]).length = 0 + 1) := by show _ = _; rw [List.length_append, HLds.out]; rfl
  have HLk2 : Hid ((([] : List Int).length + 1) * 8 ≤ 140737488351232) := by show _ ≤ _; rw [HLds.out]; have := HBd.out; omega
  have CC : Chg (· = rb) w4 w4.drew := (Chg.refl _ _).drew
  refine wp_region_z (z := 7) (S := fun w' => w'.cell? ⟨xb, 3, none⟩ = some (.slice none 0 0)) (by kernel_rfl) (HS.out _ CC) (fun hHeld => ?_)
  generalize hV : w4.drew = V at *
  clear hV
  refine wpZ_take (i := 0) (t := 18) (v := ?_) rfl rfl (by kernel_rfl) (by kernel_rfl) (by kernel_rfl) (by kernel_rfl) (fun _ _ _ h => h) (Or.inl ⟨by rfl, ?_⟩) (by assumption) ?_
  rotate_left
  · intro wq hSw
    try dsimp only at hSw
    go_simp
    try with_reducible rfl
  try go_frame
  refine wpZ_take (i := 1) (t := 19) (v := ?_) rfl rfl (by kernel_rfl) (by kernel_rfl) (by kernel_rfl) (by kernel_rfl) (fun _ _ _ h => h) (Or.inl ⟨by rfl, ?_⟩) (by assumption) ?_
  rotate_left
  · intro wq hSw
    try dsimp only at hSw
    go_simp
    try with_reducible rfl
  try go_frame
  refine wpZ_take (i := 2) (t := 20) (v := ?_) rfl rfl (by kernel_rfl) (by kernel_rfl) (by kernel_rfl) (by kernel_rfl) (fun _ _ _ h => h) (Or.inl ⟨by rfl, ?_⟩) (by assumption) ?_
  rotate_left
  · intro wq hSw
    try dsimp only at hSw
    go_simp
    try with_reducible rfl
  try go_frame
  refine wpZ_step (i := 3) (by kernel_rfl) rfl (fun K hK => ?_)
  go_simp
  go_wp2_with (first | (go_at_call 58; with_reducible refine HA.out.mono ?_; rintro e0 w6 ⟨ve, rfl, hve, R6, C6⟩; subst hve; replace CC := CC.trans C6 (fun _ _ h => h); replace RR := R6; clear C6 R6) | fail)
  refine hK.out _ _ (fun _ => HS.out _ CC) (fun hHeldN => ?_)
  replace hHeld := hHeldN (by decide)
  clear hK K hHeldN
  try go_frame
  refine wpZ_step (i := 4) (by kernel_rfl) rfl (fun K hK => ?_)
  go_simp
  replace CC := CC.alloc (.cells #[.int .i64 (d : Int)] 3)
  refine hK.out _ _ (fun _ => HS.out _ CC) (fun hHeldN => ?_)
  replace hHeld := hHeldN (by decide)
  clear hK K hHeldN
  try go_frame
  refine wpZ_step (i := 5) (by kernel_rfl) rfl (fun K hK => ?_)
  refine stKid (n := (d : Int)) (HKk.out _ CC) (by go_simp) rfl rfl rfl rfl HLk2.out (Nat.le_trans HbR.out CC.size) (Nat.lt_of_lt_of_le HxR.out CC.size) ?_
  intro v7 w7 K7 P7
  obtain ⟨S7, XB, C7, R7, Z7⟩ := HSp.out _ v7 w7 CC (RR.below (alloc_below w6 (.cells #[.int .i64 (d : Int)] 3))) P7
  obtain ⟨_, ⟨q7, d7, hv7⟩⟩ := K7.forms ([] : List (List UInt8)).length (0 + 1) rfl HLd2.out
  subst hv7
  have q1 := XB.bx.c3
  have f1 := XB.fz 3
  have HK7 := hid K7
  have HX7 := hid XB
  have HC7 := hid C7
  have HR7 := hid R7
  have HZ7 := hid Z7
  clear K7 XB C7 P7 R7 Z7
  refine hK.out _ _ (fun _ => S7) (fun hHeldN => ?_)
  replace hHeld := hHeldN (by decide)
  clear hK K hHeldN
  try go_frame
  refine wpZ_take (i := 6) (t := 24) (v := ?_) rfl rfl (by kernel_rfl) (by kernel_rfl) (by kernel_rfl) (by kernel_rfl) (fun _ _ _ h => h) (Or.inl ⟨by rfl, ?_⟩) (by assumption) ?_
  rotate_left
  · intro wq hSw
    try dsimp only at hSw
    go_simp
    try with_reducible rfl
  try go_frame
  refine wpZ_step (i := 7) (by kernel_rfl) rfl (fun K hK => ?_)
  go_simp
  refine hK.out _ _ (fun h => absurd rfl h) (fun _ => ?_)
  clear hK K
  refine wpZ_done (by kernel_rfl) ?_
  go_wp2
  have HX8 := hid (HX7.out.set3 (.slice q7 (0 + 1) d7))
  have HK8 := hid (HK7.out.chg (chg_set1 w7 xb 3 (.slice q7 (0 + 1) d7)) (fun j e => Or.inr e))
  have HR8 := hid (HR7.out.kp (Kp.of_chg (chg_set1 w7 xb 3 (.slice q7 (0 + 1) d7)) (fun j hj e => by have h2 : j = xb := e; rcases hj with q | q <;> omega)))
  have HC8 := hid (HC7.out.setCell (p := ⟨xb, 3, none⟩) (Or.inr (show w.heap.size ≤ xb by omega)) (.slice q7 (0 + 1) d7))
  have HZ8 := hid (HZ7.out.chg (chg_set1 w7 xb 3 (.slice q7 (0 + 1) d7)) (show ¬ w.heap.size = xb by omega))
  have HB8 : Hid (bs ≤ (w7.setCell ⟨xb, 3, none⟩ (.slice q7 (0 + 1) d7)).heap.size) := by show _ ≤ _; exact HK8.out.lo (by simp)
  clear HX7 HK7 HR7 HC7 HZ7 HXy HKy HRy HCy HZy HBy HA HS HKk HFr HSp HLds HBd HLd2 HLk2 HxR HbR hxr q1 f1 S7
  generalize w7.setCell _ _ = w8 at *
  go_loopw [5] (fun i wr => ∃ (k : Nat) (ks : List (List UInt8)) (ds : List Int) (s' : List UInt8 × Bool) (kv dv : Value), i = .int .i64 (k : Int) ∧ k ≤ K ∧ ks.length ≤ k ∧ ds.length = ks.length + 1 ∧ Bw wr xb (.bool false) (.slice none 0 0) kv dv ∧ KD wr bs xb kv dv ks ds ∧ Rr wr (· < rb) rb s' ∧ (∀ x ∈ ds, i64b x) ∧ ((ks ++ (kidsD (K - k) s').1.1, ds ++ (kidsD (K - k) s').1.2), (kidsD (K - k) s').2) = tot ∧ Chg (· = rb) w wr ∧ Bw wr w.heap.size (.bool false) (.slice none 0 0) (.slice none 0 0) (.slice none 0 0) ∧ bs ≤ wr.heap.size) (fun i _ => K - (RowKit.intOf i).toNat)
  case atStart => exact ⟨0, [], [(d : Int)], s6, _, _, rfl, Nat.zero_le _, Nat.le_refl _, rfl, HX8.out, HK8.out, HR8.out, fun x hx => by rw [List.mem_singleton.1 hx]; exact i64_nat hd, by rw [Nat.sub_zero, HTt.out], HC8.out, HZ8.out, HB8.out⟩
  case round =>
    clear HX8 HK8 HR8 HC8 HZ8 HB8 HTt
    obtain ⟨k, ks, ds, s', kv, dv, rfl, hk, hks, hds, X9, KK, R, hi, hE, C, Z, hB⟩ := hrel
    obtain ⟨⟨p0, c0, hv0⟩, ⟨q0, d0, hv1⟩⟩ := KK.forms ks.length (ks.length + 1) rfl hds
    subst hv0 hv1
    have HX := hid X9
    have HKK := hid KK
    have HRr := hid R
    have HI := hid hi
    have HE := hid hE
    have HC := hid C
    have HZr := hid Z
    have HLds := hid hds
    have HBk : Hid (ks.length ≤ k ∧ k ≤ K ∧ K < 65536) := ⟨hks, hk, hK⟩
    have HBy : Hid (bs ≤ wr.heap.size) := hB
    obtain ⟨xc0, xc1, xc2, xc3⟩ := X9.bx.get
    have rok := R.ok
    clear X9 KK R hi hE C Z hds
    by_cases hx : k < K
    · cases hs : s'.2
      · rw [hs] at rok
        have HSt := hid (kidsD_stop (n := K - k) hs)
        clear hs
        have HP : Hid (tot = ((ks, ds), s')) := by
          show _ = _
          rw [← HE.out, HSt.out]
          simp
        obtain ⟨⟨t0, t1, t2, t3⟩, tf⟩ := HX.out
        obtain ⟨⟨z0, z1, z2, z3⟩, zf⟩ := HZr.out
        have y0 := zf 0
        have y1 := zf 1
        have y2 := zf 2
        have y3 := zf 3
        have HNV : Hid (∀ y0 y1 y2 y3, NV ((((wr.setCell ⟨w.heap.size, 0, none⟩ y0).setCell ⟨w.heap.size, 1, none⟩ y1).setCell ⟨w.heap.size, 2, none⟩ y2).setCell ⟨w.heap.size, 3, none⟩ y3) (w.heap.size ≤ ·) (.slice none 0 0) (.slice p0 ks.length c0) (.slice q0 (ks.length + 1) d0) ⟨false, [], ks, ds⟩) := fun y0 y1 y2 y3 => by
          obtain ⟨b1, b2⟩ := (HKK.out.chg (chg4 wr w.heap.size y0 y1 y2 y3) (fun j e => Or.inl (by have h2 : j = w.heap.size := e; omega))).both (by have := HBk.out; omega) (by rw [HLds.out]; have := HBk.out; omega) HI.out
          exact ⟨CsV.nil _ _, b1.mono (fun j _ hj => by have h1 : bs ≤ j := hj; omega), b2.mono (fun j _ hj => by have h1 : bs ≤ j := hj; omega)⟩
        have HRf : Hid (∀ y0 y1 y2 y3, Rr ((((wr.setCell ⟨w.heap.size, 0, none⟩ y0).setCell ⟨w.heap.size, 1, none⟩ y1).setCell ⟨w.heap.size, 2, none⟩ y2).setCell ⟨w.heap.size, 3, none⟩ y3) (· < rb) rb s') := fun y0 y1 y2 y3 => HRr.out.kp (Kp.of_chg (chg4 wr w.heap.size y0 y1 y2 y3) (fun j hj e => by have h2 : j = w.heap.size := e; rcases hj with h1 | h1 <;> omega))
        have HCf := hid HC.out
        have HT := hid HP.out
        clear HKK HE HX HP
        go_wp2
        refine bodyPost_ret (by simp [results, Try.results38, go_sem, z0, z1, z2, z3]; try rfl) rfl ?_
        rw [HN0.out, HT.out]
        exact ⟨_, rfl, ⟨_, _, _, rfl, HNV.out _ _ _ _⟩, HRf.out _ _ _ _, chg_put4 HCf.out (Nat.le_refl _) _ _ _ _⟩
      · rw [hs] at rok
        have HSt := hid hs
        obtain ⟨m, hm⟩ : ∃ m, K - k = m + 1 := ⟨K - k - 1, by omega⟩
        have hm' : K - (k + 1) = m := by omega
        rw [hm] at HE
        have HA := hid (dkey_any rb s' wr.drew (HRr.out.below (drew_below wr)))
        unfold rrEnd frP at HA
        have HTw2 := hid (fun w1 (R : Rr w1 (· < rb) rb (keyD s').2) => dtwo_any rb (keyD s').2 w1 R)
        unfold rrEnd nmP at HTw2
        have HE1 : Hid (((ks ++ ((keyD s').1 :: (kidsD m (twoD (keyD s').2).2).1.1), ds ++ (((twoD (keyD s').2).1 : Int) :: (kidsD m (twoD (keyD s').2).2).1.2)), (kidsD m (twoD (keyD s').2).2).2) = tot) := by
          show _ = _
          rw [← HE.out, kidsD_go HSt.out]
        have he := twoD_lt (keyD s').2
        generalize keyD s' = t5 at *
        obtain ⟨ky, s5⟩ := t5
        simp only at HA HTw2 HE1 he
        generalize twoD s5 = t9 at *
        obtain ⟨e, s9⟩ := t9
        simp only at HTw2 HE1 he
        clear hs HE
        have HE2 : Hid (((ks ++ [ky] ++ (kidsD m s9).1.1, ds ++ [(e : Int)] ++ (kidsD m s9).1.2), (kidsD m s9).2) = tot) := by
          show _ = _
          rw [← HE1.out]
          simp
        clear HE1
        have HXy := hid HX.out
        have HKy := hid HKK.out
        have HRy := hid HRr.out
        have HCy := hid HC.out
        have HZy := hid HZr.out
        clear HX HKK HRr HC HZr
        go_wp2
        have hxr : xb < wr.heap.size := HXy.out.lt
        have HxR := hid hxr
        have HbR : Hid (bs ≤ wr.heap.size) := HBy.out
        have HS : Hid (∀ w', Chg (· = rb) wr w' → w'.cell? ⟨xb, 2, none⟩ = some (.slice p0 ks.length c0)) := fun w' C' => (HXy.out.chg C' (show ¬ xb = rb by omega)).bx.c2
        have HKk : Hid (∀ w', Chg (· = rb) wr w' → KD w' bs xb (.slice p0 ks.length c0) (.slice q0 (ks.length + 1) d0) ks ds) := fun w' C' => HKy.out.chg C' (fun j e => Or.inl (by have h2 : j = rb := e; omega))
        have HFr : Hid (∀ j, wr.drew.heap.size ≤ j → bs ≤ j ∧ (Value.slice p0 ks.length c0).ownBlock ≠ some j ∧ (Value.slice q0 (ks.length + 1) d0).ownBlock ≠ some j ∧ j ≠ xb) := fun j hj => by
          have hj' : wr.heap.size ≤ j := hj
          have hbr := HbR.out
          obtain ⟨b1, b2⟩ := HKy.out.blocks
          exact ⟨by omega, fun e => by have := b1 j e; omega, fun e => by have := b2 j e; omega, by omega⟩
        have HSp : Hid (∀ (cur : World) (v' : Value) (w' : World), Chg (· = rb) wr cur → Rr cur (· < rb) rb s5 → (∀ wx, Past wx (.slice p0 ks.length c0) v' cur w') → (w'.cell? ⟨xb, 2, none⟩ = some (.slice p0 ks.length c0)) ∧ Bw w' xb (.bool false) (.slice none 0 0) (.slice p0 ks.length c0) (.slice q0 (ks.length + 1) d0) ∧ Chg (· = rb) w w' ∧ Rr w' (· < rb) rb s5 ∧ Bw w' w.heap.size (.bool false) (.slice none 0 0) (.slice none 0 0) (.slice none 0 0)) := fun cur v' w' C' R' P => by
          have hob := HKy.out.blocks.1
          have X5 := (HXy.out.chg C' (show ¬ xb = rb by omega)).chg (past_chg P) (fun e => (hob _ e).2.2 rfl)
          exact ⟨X5.bx.c2, X5, chgF_past (HCy.out.trans C' (fun _ _ h => h)) P (fun j e => by have := hob j e; omega), R'.kp (Kp.of_chg (past_chg P) (fun j hj e => by have := hob j e; rcases hj with q | q <;> omega)), (HZy.out.chg C' (show ¬ w.heap.size = rb by omega)).chg (past_chg P) (fun e => by have := hob _ e; omega)⟩
        have HLen : Hid ((ks ++ [ky]).length = ks.length + 1) := by show _ = _; rw [List.length_append]; rfl
        have HLk : Hid ((ks.length + 1) * 24 ≤ 140737488351232) := by show _ ≤ _; have := HBk.out; omega
        have CC : Chg (· = rb) wr wr.drew := (Chg.refl _ _).drew
        refine wp_region_z (z := 7) (S := fun w' => w'.cell? ⟨xb, 2, none⟩ = some (.slice p0 ks.length c0)) (by kernel_rfl) (HS.out _ CC) (fun hHeld => ?_)
        generalize hV : wr.drew = V at *
        clear hV
        refine wpZ_take (i := 0) (t := 39) (v := ?_) rfl rfl (by kernel_rfl) (by kernel_rfl) (by kernel_rfl) (by kernel_rfl) (fun _ _ _ h => h) (Or.inl ⟨by rfl, ?_⟩) (by assumption) ?_
        rotate_left
        · intro wq hSw
          try dsimp only at hSw
          go_simp
          try with_reducible rfl
        try go_frame
        refine wpZ_take (i := 1) (t := 40) (v := ?_) rfl rfl (by kernel_rfl) (by kernel_rfl) (by kernel_rfl) (by kernel_rfl) (fun _ _ _ h => h) (Or.inl ⟨by rfl, ?_⟩) (by assumption) ?_
        rotate_left
        · intro wq hSw
          try dsimp only at hSw
          go_simp
          try with_reducible rfl
        try go_frame
        refine wpZ_take (i := 2) (t := 41) (v := ?_) rfl rfl (by kernel_rfl) (by kernel_rfl) (by kernel_rfl) (by kernel_rfl) (fun _ _ _ h => h) (Or.inl ⟨by rfl, ?_⟩) (by assumption) ?_
        rotate_left
        · intro wq hSw
          try dsimp only at hSw
          go_simp
          try with_reducible rfl
        try go_frame
        refine wpZ_step (i := 3) (by kernel_rfl) rfl (fun K hK => ?_)
        go_simp
        go_wp2_with (first | (go_at_call 59; with_reducible refine HA.out.mono ?_; rintro e0 w4' ⟨vk, rfl, O4, R4, C4⟩; obtain ⟨pk, ck, hvk⟩ := O4.shape; subst hvk; replace CC := CC.trans C4 (fun _ _ h => h); replace RR := R4; clear C4 R4) | fail)
        refine hK.out _ _ (fun _ => HS.out _ CC) (fun hHeldN => ?_)
        replace hHeld := hHeldN (by decide)
        clear hK K hHeldN
        try go_frame
        refine wpZ_step (i := 4) (by kernel_rfl) rfl (fun K hK => ?_)
        go_simp
        replace CC := CC.alloc (.cells #[.slice pk ky.length ck] 31)
        refine hK.out _ _ (fun _ => HS.out _ CC) (fun hHeldN => ?_)
        replace hHeld := hHeldN (by decide)
        clear hK K hHeldN
        try go_frame
        refine wpZ_step (i := 5) (by kernel_rfl) rfl (fun K hK => ?_)
        refine stKey (HKk.out _ CC) (by go_simp) (O4.below (alloc_below _ _)) HFr.out rfl rfl rfl rfl HLk.out (Nat.le_trans HbR.out CC.size) (Nat.lt_of_lt_of_le HxR.out CC.size) ?_
        intro v5 w5 K5 P5
        obtain ⟨S5, XB, C5, R5, Z5⟩ := HSp.out _ v5 w5 CC (RR.below (alloc_below w4' (.cells #[.slice pk ky.length ck] 31))) P5
        obtain ⟨⟨p5, c5, hv5⟩, _⟩ := K5.forms (ks.length + 1) ds.length HLen.out rfl
        subst hv5
        have q1 := XB.bx.c2
        have f1 := XB.fz 2
        have HK5 := hid K5
        have HX5 := hid XB
        have HC5 := hid C5
        have HR5 := hid R5
        have HZ5 := hid Z5
        clear K5 XB C5 P5 R5 Z5 O4
        refine hK.out _ _ (fun _ => S5) (fun hHeldN => ?_)
        replace hHeld := hHeldN (by decide)
        clear hK K hHeldN
        try go_frame
        refine wpZ_take (i := 6) (t := 45) (v := ?_) rfl rfl (by kernel_rfl) (by kernel_rfl) (by kernel_rfl) (by kernel_rfl) (fun _ _ _ h => h) (Or.inl ⟨by rfl, ?_⟩) (by assumption) ?_
        rotate_left
        · intro wq hSw
          try dsimp only at hSw
          go_simp
          try with_reducible rfl
        try go_frame
        refine wpZ_step (i := 7) (by kernel_rfl) rfl (fun K hK => ?_)
        go_simp
        refine hK.out _ _ (fun h => absurd rfl h) (fun _ => ?_)
        clear hK K
        refine wpZ_done (by kernel_rfl) ?_
        have HX8 := hid (HX5.out.set2 (.slice p5 (ks.length + 1) c5))
        have HK8 := hid (HK5.out.chg (chg_set1 w5 xb 2 (.slice p5 (ks.length + 1) c5)) (fun j e => Or.inr e))
        have HR8 := hid (HR5.out.kp (Kp.of_chg (chg_set1 w5 xb 2 (.slice p5 (ks.length + 1) c5)) (fun j hj e => by have h2 : j = xb := e; rcases hj with q | q <;> omega)))
        have HC8 := hid (HC5.out.setCell (p := ⟨xb, 2, none⟩) (Or.inr (show w.heap.size ≤ xb by omega)) (.slice p5 (ks.length + 1) c5))
        have HZ8 := hid (HZ5.out.chg (chg_set1 w5 xb 2 (.slice p5 (ks.length + 1) c5)) (show ¬ w.heap.size = xb by omega))
        have HB8 : Hid (bs ≤ (w5.setCell ⟨xb, 2, none⟩ (.slice p5 (ks.length + 1) c5)).heap.size) := HK8.out.lo (by rw [HLen.out]; omega)
        clear HX5 HK5 HR5 HC5 HZ5 HXy HKy HRy HCy HZy HBy HA HS HKk HFr HSp HLk HxR HbR hxr q1 f1 S5 CC RR
        generalize w5.setCell _ _ = wy at *
        have HXy := hid HX8.out
        have HKy := hid HK8.out
        have HRy := hid HR8.out
        have HCy := hid HC8.out
        have HZy := hid HZ8.out
        have HBy : Hid (bs ≤ wy.heap.size) := HB8.out
        have HBd : Hid (ks.length + 1 < 65537) := by show _ < _; have := HBk.out; omega
        have HA := hid (HTw2.out wy.drew (HRy.out.below (drew_below wy)))
        clear HX8 HK8 HR8 HC8 HZ8 HB8
        go_wp2
        have hxr : xb < wy.heap.size := HXy.out.lt
        have HxR := hid hxr
        have HbR : Hid (bs ≤ wy.heap.size) := HBy.out
        have HS : Hid (∀ w', Chg (· = rb) wy w' → w'.cell? ⟨xb, 3, none⟩ = some (.slice q0 (ks.length + 1) d0)) := fun w' C' => (HXy.out.chg C' (show ¬ xb = rb by omega)).bx.c3
        have HKk : Hid (∀ w', Chg (· = rb) wy w' → KD w' bs xb (.slice p5 (ks.length + 1) c5) (.slice q0 (ks.length + 1) d0) (ks ++ [ky]) ds) := fun w' C' => HKy.out.chg C' (fun j e => Or.inl (by have h2 : j = rb := e; omega))
        have HFr : Hid (∀ j, wy.drew.heap.size ≤ j → bs ≤ j ∧ (Value.slice p5 (ks.length + 1) c5).ownBlock ≠ some j ∧ (Value.slice q0 (ks.length + 1) d0).ownBlock ≠ some j ∧ j ≠ xb) := fun j hj => by
          have hj' : wy.heap.size ≤ j := hj
          have hbr := HbR.out
          obtain ⟨b1, b2⟩ := HKy.out.blocks
          exact ⟨by omega, fun e => by have := b1 j e; omega, fun e => by have := b2 j e; omega, by omega⟩
        have HSp : Hid (∀ (cur : World) (v' : Value) (w' : World), Chg (· = rb) wy cur → Rr cur (· < rb) rb s9 → (∀ wx, Past wx (.slice q0 (ks.length + 1) d0) v' cur w') → (w'.cell? ⟨xb, 3, none⟩ = some (.slice q0 (ks.length + 1) d0)) ∧ Bw w' xb (.bool false) (.slice none 0 0) (.slice p5 (ks.length + 1) c5) (.slice q0 (ks.length + 1) d0) ∧ Chg (· = rb) w w' ∧ Rr w' (· < rb) rb s9 ∧ Bw w' w.heap.size (.bool false) (.slice none 0 0) (.slice none 0 0) (.slice none 0 0)) := fun cur v' w' C' R' P => by
          have hob := HKy.out.blocks.2
          have X5 := (HXy.out.chg C' (show ¬ xb = rb by omega)).chg (past_chg P) (fun e => (hob _ e).2.2 rfl)
          exact ⟨X5.bx.c3, X5, chgF_past (HCy.out.trans C' (fun _ _ h => h)) P (fun j e => by have := hob j e; omega), R'.kp (Kp.of_chg (past_chg P) (fun j hj e => by have := hob j e; rcases hj with q | q <;> omega)), (HZy.out.chg C' (show ¬ w.heap.size = rb by omega)).chg (past_chg P) (fun e => by have := hob _ e; omega)⟩
        have HLd2 : Hid ((ds ++ [(e : Int)]).length = (ks.length + 1) + 1) := by show _ = _; rw [List.length_append, HLds.out]; rfl
        have HLk2 : Hid ((ds.length + 1) * 8 ≤ 140737488351232) := by show _ ≤ _; rw [HLds.out]; have := HBd.out; omega
        have CC : Chg (· = rb) wy wy.drew := (Chg.refl _ _).drew
        refine wp_region_z (z := 7) (S := fun w' => w'.cell? ⟨xb, 3, none⟩ = some (.slice q0 (ks.length + 1) d0)) (by kernel_rfl) (HS.out _ CC) (fun hHeld => ?_)
        generalize hV : wy.drew = V at *
        clear hV
        refine wpZ_take (i := 0) (t := 46) (v := ?_) rfl rfl (by kernel_rfl) (by kernel_rfl) (by kernel_rfl) (by kernel_rfl) (fun _ _ _ h => h) (Or.inl ⟨by rfl, ?_⟩) (by assumption) ?_
        rotate_left
        · intro wq hSw
          try dsimp only at hSw
          go_simp
          try with_reducible rfl
        try go_frame
        refine wpZ_take (i := 1) (t := 47) (v := ?_) rfl rfl (by kernel_rfl) (by kernel_rfl) (by kernel_rfl) (by kernel_rfl) (fun _ _ _ h => h) (Or.inl ⟨by rfl, ?_⟩) (by assumption) ?_
        rotate_left
        · intro wq hSw
          try dsimp only at hSw
          go_simp
          try with_reducible rfl
        try go_frame
        refine wpZ_take (i := 2) (t := 48) (v := ?_) rfl rfl (by kernel_rfl) (by kernel_rfl) (by kernel_rfl) (by kernel_rfl) (fun _ _ _ h => h) (Or.inl ⟨by rfl, ?_⟩) (by assumption) ?_
        rotate_left
        · intro wq hSw
          try dsimp only at hSw
          go_simp
          try with_reducible rfl
        try go_frame
        refine wpZ_step (i := 3) (by kernel_rfl) rfl (fun K hK => ?_)
        go_simp
        go_wp2_with (first | (go_at_call 58; with_reducible refine HA.out.mono ?_; rintro e0 w6 ⟨ve, rfl, hve, R6, C6⟩; subst hve; replace CC := CC.trans C6 (fun _ _ h => h); replace RR := R6; clear C6 R6) | fail)
        refine hK.out _ _ (fun _ => HS.out _ CC) (fun hHeldN => ?_)
        replace hHeld := hHeldN (by decide)
        clear hK K hHeldN
        try go_frame
        refine wpZ_step (i := 4) (by kernel_rfl) rfl (fun K hK => ?_)
        go_simp
        replace CC := CC.alloc (.cells #[.int .i64 (e : Int)] 3)
        refine hK.out _ _ (fun _ => HS.out _ CC) (fun hHeldN => ?_)
        replace hHeld := hHeldN (by decide)
        clear hK K hHeldN
        try go_frame
        refine wpZ_step (i := 5) (by kernel_rfl) rfl (fun K hK => ?_)
        refine stKid (n := (e : Int)) (HKk.out _ CC) (by go_simp) rfl rfl rfl rfl HLk2.out (Nat.le_trans HbR.out CC.size) (Nat.lt_of_lt_of_le HxR.out CC.size) ?_
        intro v7 w7 K7 P7
        obtain ⟨S7, XB, C7, R7, Z7⟩ := HSp.out _ v7 w7 CC (RR.below (alloc_below w6 (.cells #[.int .i64 (e : Int)] 3))) P7
        obtain ⟨_, ⟨q7, d7, hv7⟩⟩ := K7.forms (ks ++ [ky]).length ((ks.length + 1) + 1) rfl HLd2.out
        subst hv7
        have q1 := XB.bx.c3
        have f1 := XB.fz 3
        have HK7 := hid K7
        have HX7 := hid XB
        have HC7 := hid C7
        have HR7 := hid R7
        have HZ7 := hid Z7
        clear K7 XB C7 P7 R7 Z7
        refine hK.out _ _ (fun _ => S7) (fun hHeldN => ?_)
        replace hHeld := hHeldN (by decide)
        clear hK K hHeldN
        try go_frame
        refine wpZ_take (i := 6) (t := 52) (v := ?_) rfl rfl (by kernel_rfl) (by kernel_rfl) (by kernel_rfl) (by kernel_rfl) (fun _ _ _ h => h) (Or.inl ⟨by rfl, ?_⟩) (by assumption) ?_
        rotate_left
        · intro wq hSw
          try dsimp only at hSw
          go_simp
          try with_reducible rfl
        try go_frame
        refine wpZ_step (i := 7) (by kernel_rfl) rfl (fun K hK => ?_)
        go_simp
        refine hK.out _ _ (fun h => absurd rfl h) (fun _ => ?_)
        clear hK K
        refine wpZ_done (by kernel_rfl) ?_
        go_wp2
        go_roundw
        case rel => exact ⟨k + 1, ks ++ [ky], ds ++ [(e : Int)], s9, _, _, by go_num, by omega, by rw [HLen.out]; have := HBk.out; omega, by rw [HLd2.out, HLen.out], HX7.out.set3 _, HK7.out.chg (chg_set1 _ _ _ _) (fun j e => Or.inr e), HR7.out.kp (Kp.of_chg (chg_set1 _ _ _ _) (fun j hj e => by have h2 : j = xb := e; rcases hj with q | q <;> omega)), fun x hx => by rcases List.mem_append.1 hx with h | h; exact HI.out x h; rw [List.mem_singleton.1 h]; exact i64_nat he, by rw [hm']; exact HE2.out, HC7.out.setCell (p := ⟨xb, 3, none⟩) (Or.inr (show w.heap.size ≤ xb by omega)) _, HZ7.out.chg (chg_set1 _ _ _ _) (show ¬ w.heap.size = xb by omega), KD.lo (HK7.out.chg (chg_set1 _ _ _ _) (fun j e => Or.inr e)) (by rw [HLen.out]; omega)⟩
        case measure => simp [RowKit.intOf]; omega
    · obtain rfl : k = K := by omega
      have HP : Hid (tot = ((ks, ds), s')) := by
        show _ = _
        rw [← HE.out, Nat.sub_self, show kidsD 0 s' = (([], []), s') from rfl]
        simp
      obtain ⟨⟨t0, t1, t2, t3⟩, tf⟩ := HX.out
      obtain ⟨⟨z0, z1, z2, z3⟩, zf⟩ := HZr.out
      have y0 := zf 0
      have y1 := zf 1
      have y2 := zf 2
      have y3 := zf 3
      have HNV : Hid (∀ y0 y1 y2 y3, NV ((((wr.setCell ⟨w.heap.size, 0, none⟩ y0).setCell ⟨w.heap.size, 1, none⟩ y1).setCell ⟨w.heap.size, 2, none⟩ y2).setCell ⟨w.heap.size, 3, none⟩ y3) (w.heap.size ≤ ·) (.slice none 0 0) (.slice p0 ks.length c0) (.slice q0 (ks.length + 1) d0) ⟨false, [], ks, ds⟩) := fun y0 y1 y2 y3 => by
        obtain ⟨b1, b2⟩ := (HKK.out.chg (chg4 wr w.heap.size y0 y1 y2 y3) (fun j e => Or.inl (by have h2 : j = w.heap.size := e; omega))).both (by have := HBk.out; omega) (by rw [HLds.out]; have := HBk.out; omega) HI.out
        exact ⟨CsV.nil _ _, b1.mono (fun j _ hj => by have h1 : bs ≤ j := hj; omega), b2.mono (fun j _ hj => by have h1 : bs ≤ j := hj; omega)⟩
      have HRf : Hid (∀ y0 y1 y2 y3, Rr ((((wr.setCell ⟨w.heap.size, 0, none⟩ y0).setCell ⟨w.heap.size, 1, none⟩ y1).setCell ⟨w.heap.size, 2, none⟩ y2).setCell ⟨w.heap.size, 3, none⟩ y3) (· < rb) rb s') := fun y0 y1 y2 y3 => HRr.out.kp (Kp.of_chg (chg4 wr w.heap.size y0 y1 y2 y3) (fun j hj e => by have h2 : j = w.heap.size := e; rcases hj with h1 | h1 <;> omega))
      have HCf := hid HC.out
      have HT := hid HP.out
      clear HKK HE HX HP
      go_wp2
      refine bodyPost_ret (by simp [results, Try.results38, go_sem, z0, z1, z2, z3]; try rfl) rfl ?_
      rw [HN0.out, HT.out]
      exact ⟨_, rfl, ⟨_, _, _, rfl, HNV.out _ _ _ _⟩, HRf.out _ _ _ _, chg_put4 HCf.out (Nat.le_refl _) _ _ _ _⟩
end Go.Proofs.Ytilmlegkkgiahaa
