/- What the document's Same answers. Conditions: the nodes lie within the reach. -/
import Derived.Test.YtilmlegkkgiahaaNdIts
import Derived.BigQuiet
namespace Go.Proofs.Ytilmlegkkgiahaa
open Go.RowKit Go.Lib Go.Sort
set_option linter.unusedVariables false
set_option maxRecDepth 20000

/-- Are two cells the same; two nodes. -/
def sameC (a b : Cl) : Bool := decide (a.key = b.key) && (decide (a.val = b.val) && (decide (a.over = b.over) && decide (a.size = b.size)))
def upTo {α : Type} (f : α → α → Bool) : List α → List α → Bool
  | a :: r, b :: s => f a b && upTo f r s
  | _, _ => true
def sameN (a b : Nd) : Bool := decide (a.leaf = b.leaf) && (decide (a.cells.length = b.cells.length) && (decide (a.keys.length = b.keys.length) && (decide (a.kids.length = b.kids.length) && (upTo sameC a.cells b.cells && (upTo (fun x y => decide (x = y)) a.keys b.keys && upTo (fun x y => decide (x = y)) a.kids b.kids)))))
theorem upTo_drop {α : Type} {f : α → α → Bool} {a b : List α} {k : Nat} (ha : k < a.length) (hb : k < b.length) : upTo f (a.drop k) (b.drop k) = (f a[k] b[k] && upTo f (a.drop (k + 1)) (b.drop (k + 1))) := by
  rw [List.drop_eq_getElem_cons ha, List.drop_eq_getElem_cons hb]
  rfl
theorem upTo_eq {α : Type} {f : α → α → Bool} (hf : ∀ x y, f x y = true ↔ x = y) : ∀ {a b : List α}, a.length = b.length → (upTo f a b = true ↔ a = b)
  | [], [], _ => by simp [upTo]
  | x :: r, y :: s, h => by
    simp only [upTo, Bool.and_eq_true, hf, upTo_eq hf (show r.length = s.length by simpa using h), List.cons.injEq]
theorem sameC_eq (a b : Cl) : sameC a b = true ↔ a = b := by
  obtain ⟨a1, a2, a3, a4⟩ := a
  obtain ⟨b1, b2, b3, b4⟩ := b
  simp [sameC]
theorem sameN_eq (a b : Nd) : sameN a b = true ↔ a = b := by
  obtain ⟨a1, a2, a3, a4⟩ := a
  obtain ⟨b1, b2, b3, b4⟩ := b
  simp only [sameN, Bool.and_eq_true, decide_eq_true_eq, Nd.mk.injEq]
  constructor
  · rintro ⟨h1, h2, h3, h4, h5, h6, h7⟩
    exact ⟨h1, (upTo_eq sameC_eq h2).1 h5, (upTo_eq (by simp) h3).1 h6, (upTo_eq (by simp) h4).1 h7⟩
  · rintro ⟨rfl, rfl, rfl, rfl⟩
    exact ⟨rfl, rfl, rfl, rfl, (upTo_eq sameC_eq rfl).2 rfl, (upTo_eq (by simp) rfl).2 rfl, (upTo_eq (by simp) rfl).2 rfl⟩
theorem toL (l : List UInt8) : (⟨l.toArray⟩ : ByteArray).toList = l := by
  simp
theorem str_ne {a b : List UInt8} (h : a ≠ b) : ((⟨a.toArray⟩ : ByteArray).toList == (⟨b.toArray⟩ : ByteArray).toList) = false := by rw [toL, toL]; exact beq_eq_false_iff_ne.2 h
/-- Two boxes. -/
theorem str_eq {a b : List UInt8} (h : a = b) : ((⟨a.toArray⟩ : ByteArray).toList == (⟨b.toArray⟩ : ByteArray).toList) = true := by rw [h]; simp
theorem two_new (w : World) (a b c d a' b' c' d' : Value) (t t' : TypeId) : Bx (((w.alloc (.cells #[a, b, c, d] t)).alloc (.cells #[a', b', c', d'] t')).drew) w.heap.size a b c d ∧ Bx (((w.alloc (.cells #[a, b, c, d] t)).alloc (.cells #[a', b', c', d'] t')).drew) (w.heap.size + 1) a' b' c' d' := by
  have h := its_boxes (Below.refl (w.heap.size + 2) ((w.alloc (.cells #[a, b, c, d] t)).alloc (.cells #[a', b', c', d'] t')))
  exact ⟨h.1.below ((Below.refl _ _).drew), h.2.bx.below ((Below.refl _ _).drew)⟩
theorem two_boxes {w w' : World} {a b c d a' b' c' d' : Value} {t t' : TypeId} (B : Below ((w.alloc (.cells #[a, b, c, d] t)).alloc (.cells #[a', b', c', d'] t')).heap.size ((w.alloc (.cells #[a, b, c, d] t)).alloc (.cells #[a', b', c', d'] t')) w') : Bx w' w.heap.size a b c d ∧ Bx w' (w.heap.size + 1) a' b' c' d' := by
  rw [show ((w.alloc (.cells #[a, b, c, d] t)).alloc (.cells #[a', b', c', d'] t')).heap.size = w.heap.size + 2 by simp] at B
  exact ⟨(its_boxes B).1, (its_boxes B).2.bx⟩
set_option maxHeartbeats 8000000 in
theorem same_main {F G : Nat → Prop} (pa1 pa2 pa3 pb1 pb2 pb3 : Option Addr) (ca1 ca2 ca3 cb1 cb2 cb3 : Nat) (la : Bool) (c1 c2 : List Cl) (k1 k2 : List (List UInt8)) (d1 d2 : List Int) (w : World) (La Lb Lc : Nat)
    (e1 : c1.length = La) (e2 : c2.length = La) (e3 : k1.length = Lb) (e4 : k2.length = Lb) (e5 : d1.length = Lc) (e6 : d2.length = Lc) (hA : Cls w F pa1 c1) (hB : Cls w G pb1 c2) (hC : Kys w F pa2 k1) (hD : Kys w G pb2 k2) (hE : Kds w F pa3 d1) (hG : Kds w G pb3 d2)
    (hLa : La * 64 ≤ 140737488351232) (hLb : Lb * 24 ≤ 140737488351232) (hLc : Lc * 8 ≤ 140737488351232) (q : Bool) (HQ : q = (upTo sameC c1 c2 && (upTo (fun x y => decide (x = y)) k1 k2 && upTo (fun x y => decide (x = y)) d1 d2))) :
    Calls Try.prog 16 #[.agg #[.bool la, .slice pa1 La ca1, .slice pa2 Lb ca2, .slice pa3 Lc ca3], .agg #[.bool la, .slice pb1 La cb1, .slice pb2 Lb cb2, .slice pb3 Lc cb3]] w fun e w' => e = .returned (.bool q) ∧ Below w.heap.size w w' := by
  have hla : (la != la) = false := by simp
  have HQ0 : Hid (q = (upTo sameC (c1.drop 0) (c2.drop 0) && (upTo (fun x y => decide (x = y)) k1 k2 && upTo (fun x y => decide (x = y)) d1 d2))) := HQ
  have HB0 := hid (below2 w (.cells #[.bool la, .slice pa1 La ca1, .slice pa2 Lb ca2, .slice pa3 Lc ca3] 26) (.cells #[.bool la, .slice pb1 La cb1, .slice pb2 Lb cb2, .slice pb3 Lc cb3] 26))
  have HX := hid (fun w' (B : Below ((w.alloc (.cells #[.bool la, .slice pa1 La ca1, .slice pa2 Lb ca2, .slice pa3 Lc ca3] 26)).alloc (.cells #[.bool la, .slice pb1 La cb1, .slice pb2 Lb cb2, .slice pb3 Lc cb3] 26)).heap.size ((w.alloc (.cells #[.bool la, .slice pa1 La ca1, .slice pa2 Lb ca2, .slice pa3 Lc ca3] 26)).alloc (.cells #[.bool la, .slice pb1 La cb1, .slice pb2 Lb cb2, .slice pb3 Lc cb3] 26)) w') => two_boxes B)
  have H1 := hid (hA.kp (Kp.of_below HB0.out))
  have H2 := hid (hB.kp (Kp.of_below HB0.out))
  have H3 := hid (hC.kp (Kp.of_below HB0.out))
  have H4 := hid (hD.kp (Kp.of_below HB0.out))
  have H5 := hid (hE.kp (Kp.of_below HB0.out))
  have H6 := hid (hG.kp (Kp.of_below HB0.out))
  have E1 := hid e1
  have E2 := hid e2
  have E3 := hid e3
  have E4 := hid e4
  have E5 := hid e5
  have E6 := hid e6
  clear HQ hA hB hC hD hE hG e1 e2 e3 e4 e5 e6
  go_enter Try.func16, Try.ntmps16
  go_wp2
  generalize hW : (w.alloc _).alloc _ = W at *
  clear hW
  have HS0 : Hid (w.heap.size ≤ W.heap.size) := HB0.out.size
  go_loopw [5] (fun i wr => ∃ k : Nat, i = .int .i64 (k : Int) ∧ k ≤ La ∧ q = (upTo sameC (c1.drop k) (c2.drop k) && (upTo (fun x y => decide (x = y)) k1 k2 && upTo (fun x y => decide (x = y)) d1 d2)) ∧ Below W.heap.size W wr) (fun i _ => La - (RowKit.intOf i).toNat)
  case atStart => exact ⟨0, rfl, Nat.zero_le _, HQ0.out, Below.refl _ _⟩
  case round =>
    clear HQ0
    obtain ⟨k, rfl, hk, hQ, hB⟩ := hrel
    have HQ := hid hQ
    have HB := hid hB
    obtain ⟨X1, X2⟩ := HX.out wr hB
    obtain ⟨x10, x11, x12, x13⟩ := X1.get
    obtain ⟨x20, x21, x22, x23⟩ := X2.get
    clear hQ hB X1 X2
    by_cases hx : k < La
    · have hx1 : k < c1.length := by rw [E1.out]; exact hx
      have hx2 : k < c2.length := by rw [E2.out]; exact hx
      obtain ⟨g1, o1, p1, m1, p2, m2, rfl, a0, a1, a2, a3, b1, b2, _⟩ := (H1.out.kp (Kp.of_below HB.out)).get hx1
      obtain ⟨g2, o2, p3, m3, p4, m4, rfl, s0, s1, s2, s3, b3, b4, _⟩ := (H2.out.kp (Kp.of_below HB.out)).get hx2
      have HU := hid (upTo_drop (f := sameC) hx1 hx2)
      have HS : Hid (∀ w', Below wr.heap.size wr w' → w'.cell? ⟨w.heap.size, 1, none⟩ = some (.slice (some ⟨g1, o1, none⟩) La ca1) ∧ w'.cell? ⟨w.heap.size + 1, 1, none⟩ = some (.slice (some ⟨g2, o2, none⟩) La cb1) ∧ w'.cell? ⟨g1, o1 + k * 4, none⟩ = some (.slice p1 c1[k].key.length m1) ∧ w'.cell? ⟨g1, o1 + k * 4 + 1, none⟩ = some (.slice p2 c1[k].val.length m2) ∧ w'.cell? ⟨g1, o1 + k * 4 + 2, none⟩ = some (.int .i64 c1[k].over) ∧ w'.cell? ⟨g1, o1 + k * 4 + 3, none⟩ = some (.int .i64 c1[k].size) ∧ w'.cell? ⟨g2, o2 + k * 4, none⟩ = some (.slice p3 c2[k].key.length m3) ∧ w'.cell? ⟨g2, o2 + k * 4 + 1, none⟩ = some (.slice p4 c2[k].val.length m4) ∧ w'.cell? ⟨g2, o2 + k * 4 + 2, none⟩ = some (.int .i64 c2[k].over) ∧ w'.cell? ⟨g2, o2 + k * 4 + 3, none⟩ = some (.int .i64 c2[k].size)) := fun w' B => ⟨below_cell B x11, below_cell B x21, below_cell B a0, below_cell B a1, below_cell B a2, below_cell B a3, below_cell B s0, below_cell B s1, below_cell B s2, below_cell B s3⟩
      have HV := hid (fun w' (B : Below wr.heap.size wr w') => show _ ∧ _ ∧ _ ∧ _ from ⟨(b1.below B).conv, (b2.below B).conv, (b3.below B).conv, (b4.below B).conv⟩)
      have B0 : Below wr.heap.size wr wr := Below.refl _ _
      have hs0 : wr.heap.size ≤ wr.heap.size := Nat.le_refl _
      clear b1 b2 b3 b4
      go_upto_region 6 with fail
      go_cut [6, 7] from 49 to 58 (fun s6 s7 wx => ∃ u1 u2 : Nat, s6 = .pointer (some ⟨u1, 0, none⟩) ∧ s7 = .pointer (some ⟨u2, 0, none⟩) ∧ Bx wx u1 (.slice p1 c1[k].key.length m1) (.slice p2 c1[k].val.length m2) (.int .i64 c1[k].over) (.int .i64 c1[k].size) ∧ Bx wx u2 (.slice p3 c2[k].key.length m3) (.slice p4 c2[k].val.length m4) (.int .i64 c2[k].over) (.int .i64 c2[k].size) ∧ Below wr.heap.size wr wx)
      case first =>
        go_region_held_law (fun w' => w'.cell? ⟨w.heap.size, 1, none⟩ = some (.slice (some ⟨g1, o1, none⟩) La ca1) ∧ w'.cell? ⟨w.heap.size + 1, 1, none⟩ = some (.slice (some ⟨g2, o2, none⟩) La cb1) ∧ w'.cell? ⟨g1, o1 + k * 4, none⟩ = some (.slice p1 c1[k].key.length m1) ∧ w'.cell? ⟨g1, o1 + k * 4 + 1, none⟩ = some (.slice p2 c1[k].val.length m2) ∧ w'.cell? ⟨g1, o1 + k * 4 + 2, none⟩ = some (.int .i64 c1[k].over) ∧ w'.cell? ⟨g1, o1 + k * 4 + 3, none⟩ = some (.int .i64 c1[k].size) ∧ w'.cell? ⟨g2, o2 + k * 4, none⟩ = some (.slice p3 c2[k].key.length m3) ∧ w'.cell? ⟨g2, o2 + k * 4 + 1, none⟩ = some (.slice p4 c2[k].val.length m4) ∧ w'.cell? ⟨g2, o2 + k * 4 + 2, none⟩ = some (.int .i64 c2[k].over) ∧ w'.cell? ⟨g2, o2 + k * 4 + 3, none⟩ = some (.int .i64 c2[k].size)) (with_reducible first | exact HS.out _ B0.drew | exact HS.out _ (bel_ad B0 hs0) | exact HS.out _ (bel_aad B0 hs0)) (fail)
        all_goals
          go_wp2_with fail
          go_meet
          case rel =>
            first
              | exact ⟨_, _, rfl, rfl, (two_new _ _ _ _ _ _ _ _ _ _ _).1, (two_new _ _ _ _ _ _ _ _ _ _ _).2, bel_aad B0 hs0⟩
              | exact ⟨_, _, rfl, rfl, (two_new _ _ _ _ _ _ _ _ _ _ _).2, (two_new _ _ _ _ _ _ _ _ _ _ _).1, bel_aad B0 hs0⟩
      case rest =>
      obtain ⟨u1, u2, rfl, rfl, Y1, Y2, B5⟩ := hcut
      obtain ⟨y10, y11, y12, y13⟩ := Y1.get
      obtain ⟨y20, y21, y22, y23⟩ := Y2.get
      obtain ⟨v1, v2, v3, v4⟩ := HV.out _ B5
      have HB5 := hid (HB.out.trans (B5.mono HB.out.size))
      have HS5 := hid (HB0.out.trans (HB5.out.mono HS0.out))
      have HSC : Hid (sameC c1[k] c2[k] = (decide (c1[k].key = c2[k].key) && (decide (c1[k].val = c2[k].val) && (decide (c1[k].over = c2[k].over) && decide (c1[k].size = c2[k].size))))) := rfl
      have HFf : Hid (sameC c1[k] c2[k] = false → q = false) := fun h => by rw [HQ.out, HU.out, h]; rfl
      have HTt : Hid (sameC c1[k] c2[k] = true → q = (upTo sameC (c1.drop (k + 1)) (c2.drop (k + 1)) && (upTo (fun x y => decide (x = y)) k1 k2 && upTo (fun x y => decide (x = y)) d1 d2))) := fun h => by rw [HQ.out, HU.out, h]; rfl
      clear Y1 Y2 B5 HV B0 HS HQ HU
      generalize sameC c1[k] c2[k] = sc at *
      generalize c1[k].key = K1 at *
      generalize c2[k].key = K2 at *
      generalize c1[k].val = V1 at *
      generalize c2[k].val = V2 at *
      generalize c1[k].over = O1 at *
      generalize c2[k].over = O2 at *
      generalize c1[k].size = S1 at *
      generalize c2[k].size = S2 at *
      by_cases f1 : K1 = K2
      case neg =>
        have HF : Hid (q = false) := HFf.out (by rw [HSC.out, decide_eq_false f1]; rfl)
        have t1 := str_ne f1
        go_wp2
        go_ret
        exact ⟨by rw [HF.out]; rfl, HS5.out⟩
      subst f1
      by_cases f2 : V1 = V2
      case neg =>
        have HF : Hid (q = false) := HFf.out (by rw [HSC.out, decide_eq_false f2]; simp)
        have t2 := str_ne f2
        go_wp2
        go_ret
        exact ⟨by rw [HF.out]; rfl, HS5.out⟩
      subst f2
      by_cases f3 : O1 = O2
      case neg =>
        have t3 : (O1 == O2) = false := beq_eq_false_iff_ne.2 f3
        have HF : Hid (q = false) := HFf.out (by rw [HSC.out, decide_eq_false f3]; simp)
        go_wp2
        go_ret
        exact ⟨by rw [HF.out]; rfl, HS5.out⟩
      subst f3
      by_cases f4 : S1 = S2
      case neg =>
        have t4 : (S1 == S2) = false := beq_eq_false_iff_ne.2 f4
        have HF : Hid (q = false) := HFf.out (by rw [HSC.out, decide_eq_false f4]; simp)
        go_wp2
        go_ret
        exact ⟨by rw [HF.out]; rfl, HS5.out⟩
      subst f4
      have HG := hid (HTt.out (by rw [HSC.out]; simp))
      clear HFf HTt HSC
      go_wp2
      go_roundw
      case rel => exact ⟨k + 1, by go_num, by omega, HG.out, HB5.out⟩
      case measure => simp [RowKit.intOf]; omega
    · obtain rfl : k = La := by omega
      have HQ2 : Hid (q = (upTo (fun x y => decide (x = y)) (k1.drop 0) (k2.drop 0) && upTo (fun x y => decide (x = y)) d1 d2)) := by
        show _ = _
        rw [HQ.out, List.drop_of_length_le (by rw [E1.out]; exact Nat.le_refl _)]
        rfl
      have HB1 := hid (HB0.out.trans (HB.out.mono HS0.out))
      have H3' := hid (H3.out.kp (Kp.of_below HB.out))
      have H4' := hid (H4.out.kp (Kp.of_below HB.out))
      have H5' := hid (H5.out.kp (Kp.of_below HB.out))
      have H6' := hid (H6.out.kp (Kp.of_below HB.out))
      clear H1 H2 H3 H4 H5 H6 HX HQ HB HB0 HS0
      go_wp2
      generalize hwz : wr = wz at *
      clear hwz
      go_loopw [8] (fun i wr => ∃ k : Nat, i = .int .i64 (k : Int) ∧ k ≤ Lb ∧ q = (upTo (fun x y => decide (x = y)) (k1.drop k) (k2.drop k) && upTo (fun x y => decide (x = y)) d1 d2) ∧ Below wz.heap.size wz wr) (fun i _ => Lb - (RowKit.intOf i).toNat)
      case atStart => exact ⟨0, rfl, Nat.zero_le _, HQ2.out, Below.refl _ _⟩
      case round =>
        clear HQ2
        obtain ⟨j, rfl, hj, hQ, hB⟩ := hrel
        have HQ := hid hQ
        have HB := hid hB
        have z12 := below_cell hB x12
        have z22 := below_cell hB x22
        clear hQ hB
        by_cases hx : j < Lb
        · have hx1 : j < k1.length := by rw [E3.out]; exact hx
          have hx2 : j < k2.length := by rw [E4.out]; exact hx
          obtain ⟨g1, o1, p1, m1, rfl, a0, b1, _⟩ := (H3'.out.kp (Kp.of_below HB.out)).get hx1
          obtain ⟨g2, o2, p3, m3, rfl, s0, b3, _⟩ := (H4'.out.kp (Kp.of_below HB.out)).get hx2
          have HU := hid (upTo_drop (f := fun x y => decide (x = y)) hx1 hx2)
          have v1 := conv_reg b1
          have v3 := conv_reg b3
          have r1 := cell_regrown z12
          have r2 := cell_regrown z22
          have r3 := cell_regrown a0
          have r4 := cell_regrown s0
          have hj0 : ¬ ((j : Int) < 0) := by omega
          have hjl : (j : Int) < (Lb : Int) := by omega
          clear b1 b3
          have HU1 : Hid (k1[j] = k2[j] → q = (upTo (fun x y => decide (x = y)) (k1.drop (j + 1)) (k2.drop (j + 1)) && upTo (fun x y => decide (x = y)) d1 d2)) := fun f1 => by rw [HQ.out, HU.out, decide_eq_true f1]; rfl
          have HU2 : Hid (¬ k1[j] = k2[j] → q = false) := fun f1 => by rw [HQ.out, HU.out, decide_eq_false f1]; rfl
          generalize k1[j] = K1 at *
          generalize k2[j] = K2 at *
          by_cases f1 : K1 = K2
          · have HG : Hid (q = (upTo (fun x y => decide (x = y)) (k1.drop (j + 1)) (k2.drop (j + 1)) && upTo (fun x y => decide (x = y)) d1 d2)) := HU1.out f1
            clear HQ HU HU1 HU2
            subst f1
            go_wp2
            refine wp_region_quiet_below (by kernel_rfl) (by kernel_rfl) ?_
            repeat (first | go_big_quiet_step (fail) | quiet_step (fail))
            refine wpQuiet_nil ?_
            intro _ hw'
            obtain ⟨⟨dq, osq⟩, hw''⟩ := hw'
            subst hw''
            go_wp2
            go_roundw
            case rel => exact ⟨j + 1, by go_num, by omega, HG.out, HB.out.trans ((below_regrown wr dq osq).mono HB.out.size)⟩
            case measure => simp [RowKit.intOf]; omega
          · have t1 := str_ne f1
            have t1b : (K1 == K2) = false := beq_eq_false_iff_ne.2 f1
            have HF : Hid (q = false) := HU2.out f1
            clear HQ HU HU1 HU2
            go_wp2
            refine wp_region_quiet_below (by kernel_rfl) (by kernel_rfl) ?_
            repeat (first | go_big_quiet_step (fail) | quiet_step (fail))
            refine wpQuiet_nil ?_
            intro _ hw'
            obtain ⟨⟨dq, osq⟩, hw''⟩ := hw'
            subst hw''
            go_wp2
            go_ret
            exact ⟨by rw [HF.out]; rfl, HB1.out.trans ((HB.out.trans ((below_regrown wr dq osq).mono HB.out.size)).mono HB1.out.size)⟩
        · obtain rfl : j = Lb := by omega
          have HQ3 : Hid (q = upTo (fun x y => decide (x = y)) (d1.drop 0) (d2.drop 0)) := by
            show _ = _
            rw [HQ.out, List.drop_of_length_le (by rw [E3.out]; exact Nat.le_refl _)]
            rfl
          have HB2 := hid (HB1.out.trans (HB.out.mono HB1.out.size))
          have H5q := hid (H5'.out.kp (Kp.of_below HB.out))
          have H6q := hid (H6'.out.kp (Kp.of_below HB.out))
          have z13 := below_cell HB.out x13
          have z23 := below_cell HB.out x23
          clear H3' H4' H5' H6' HQ HB HB1 x10 x11 x12 x13 x20 x21 x22 x23
          go_wp2
          clear z12 z22
          generalize hwy : wr = wy at *
          clear hwy
          go_loopw [9] (fun i wr => ∃ k : Nat, i = .int .i64 (k : Int) ∧ k ≤ Lc ∧ q = upTo (fun x y => decide (x = y)) (d1.drop k) (d2.drop k) ∧ Below wy.heap.size wy wr) (fun i _ => Lc - (RowKit.intOf i).toNat)
          case atStart => exact ⟨0, rfl, Nat.zero_le _, HQ3.out, Below.refl _ _⟩
          case round =>
            clear HQ3
            obtain ⟨i, rfl, hi, hQ, hB⟩ := hrel
            have HQ := hid hQ
            have HB := hid hB
            have y13 := below_cell hB z13
            have y23 := below_cell hB z23
            clear hQ hB
            by_cases hx : i < Lc
            · have hx1 : i < d1.length := by rw [E5.out]; exact hx
              have hx2 : i < d2.length := by rw [E6.out]; exact hx
              obtain ⟨g1, o1, rfl, _, a0⟩ := (H5q.out.kp (Kp.of_below HB.out)).at hx1
              obtain ⟨g2, o2, rfl, _, s0⟩ := (H6q.out.kp (Kp.of_below HB.out)).at hx2
              have HU := hid (upTo_drop (f := fun x y => decide (x = y)) hx1 hx2)
              have r1 := cell_regrown y13
              have r2 := cell_regrown y23
              have r3 := cell_regrown a0
              have r4 := cell_regrown s0
              have hj0 : ¬ ((i : Int) < 0) := by omega
              have hjl : (i : Int) < (Lc : Int) := by omega
              have HU1 : Hid (d1[i] = d2[i] → q = upTo (fun x y => decide (x = y)) (d1.drop (i + 1)) (d2.drop (i + 1))) := fun f1 => by rw [HQ.out, HU.out, decide_eq_true f1]; rfl
              have HU2 : Hid (¬ d1[i] = d2[i] → q = false) := fun f1 => by rw [HQ.out, HU.out, decide_eq_false f1]; rfl
              generalize d1[i] = K1 at *
              generalize d2[i] = K2 at *
              by_cases f1 : K1 = K2
              · have HG : Hid (q = upTo (fun x y => decide (x = y)) (d1.drop (i + 1)) (d2.drop (i + 1))) := HU1.out f1
                clear HQ HU HU1 HU2
                subst f1
                go_wp2
                refine wp_region_quiet_below (by kernel_rfl) (by kernel_rfl) ?_
                repeat (first | go_big_quiet_step (fail) | quiet_step (fail))
                refine wpQuiet_nil ?_
                intro _ hw'
                obtain ⟨⟨dq, osq⟩, hw''⟩ := hw'
                subst hw''
                go_wp2
                go_roundw
                case rel => exact ⟨i + 1, by go_num, by omega, HG.out, HB.out.trans ((below_regrown wr dq osq).mono HB.out.size)⟩
                case measure => simp [RowKit.intOf]; omega
              · have t1 : (K1 == K2) = false := beq_eq_false_iff_ne.2 f1
                have HF : Hid (q = false) := HU2.out f1
                clear HQ HU HU1 HU2
                go_wp2
                refine wp_region_quiet_below (by kernel_rfl) (by kernel_rfl) ?_
                repeat (first | go_big_quiet_step (fail) | quiet_step (fail))
                refine wpQuiet_nil ?_
                intro _ hw'
                obtain ⟨⟨dq, osq⟩, hw''⟩ := hw'
                subst hw''
                go_wp2
                go_ret
                exact ⟨by rw [HF.out]; rfl, HB2.out.trans ((HB.out.trans ((below_regrown wr dq osq).mono HB.out.size)).mono HB2.out.size)⟩
            · obtain rfl : i = Lc := by omega
              have HF : Hid (q = true) := by
                show _ = _
                rw [HQ.out, List.drop_of_length_le (by rw [E5.out]; exact Nat.le_refl _)]
                rfl
              go_wp2
              go_ret
              exact ⟨by rw [HF.out]; rfl, HB2.out.trans (HB.out.mono HB2.out.size)⟩
set_option maxHeartbeats 4000000 in
theorem same_any {F G : Nat → Prop} (ca ka da cb kb db : Value) (a b : Nd) (w : World) (ha : NV w F ca ka da a) (hb : NV w G cb kb db b) :
    Calls Try.prog 16 #[.agg #[.bool a.leaf, ca, ka, da], .agg #[.bool b.leaf, cb, kb, db]] w fun e w' => e = .returned (.bool (sameN a b)) ∧ Below w.heap.size w w' := by
  obtain ⟨⟨pa1, ca1, rfl, h1, _, _, l1⟩, ⟨pa2, ca2, rfl, h2, _, _, l2⟩, ⟨pa3, ca3, rfl, h3, _, _, l3, _⟩⟩ := ha
  obtain ⟨⟨pb1, cb1, rfl, h4, _, _, l4⟩, ⟨pb2, cb2, rfl, h5, _, _, l5⟩, ⟨pb3, cb3, rfl, h6, _, _, l6, _⟩⟩ := hb
  have HQ : Hid (sameN a b = (decide (a.leaf = b.leaf) && (decide (a.cells.length = b.cells.length) && (decide (a.keys.length = b.keys.length) && (decide (a.kids.length = b.kids.length) && (upTo sameC a.cells b.cells && (upTo (fun x y => decide (x = y)) a.keys b.keys && upTo (fun x y => decide (x = y)) a.kids b.kids))))))) := rfl
  generalize sameN a b = q at *
  by_cases e0 : a.leaf = b.leaf
  case neg =>
    obtain rfl : q = false := by rw [HQ.out, decide_eq_false e0]; rfl
    have hne : (a.leaf != b.leaf) = true := bne_iff_ne.2 e0
    have hnb : (a.leaf == b.leaf) = false := beq_eq_false_iff_ne.2 e0
    clear HQ h1 h2 h3 h4 h5 h6
    generalize a.leaf = la at *
    generalize b.leaf = lb at *
    go_enter Try.func16, Try.ntmps16
    go_wp2
    go_ret
    exact ⟨rfl, below2 _ _ _⟩
  have hl : (b.leaf != b.leaf) = false := by simp
  rw [e0]
  have HQ1 : Hid (q = (decide (a.cells.length = b.cells.length) && (decide (a.keys.length = b.keys.length) && (decide (a.kids.length = b.kids.length) && (upTo sameC a.cells b.cells && (upTo (fun x y => decide (x = y)) a.keys b.keys && upTo (fun x y => decide (x = y)) a.kids b.kids)))))) := by show _ = _; rw [HQ.out, decide_eq_true e0]; rfl
  clear HQ e0
  by_cases e1 : a.cells.length = b.cells.length
  case neg =>
    obtain rfl : q = false := by rw [HQ1.out, decide_eq_false e1]; rfl
    have hnb : ((a.cells.length : Int) == (b.cells.length : Int)) = false := beq_eq_false_iff_ne.2 (by omega)
    clear HQ1 h1 h2 h3 h4 h5 h6
    generalize a.cells.length = x1 at *
    generalize b.cells.length = x2 at *
    generalize b.leaf = lb at *
    go_enter Try.func16, Try.ntmps16
    go_wp2
    go_ret
    exact ⟨rfl, below2 _ _ _⟩
  have HQ2 : Hid (q = (decide (a.keys.length = b.keys.length) && (decide (a.kids.length = b.kids.length) && (upTo sameC a.cells b.cells && (upTo (fun x y => decide (x = y)) a.keys b.keys && upTo (fun x y => decide (x = y)) a.kids b.kids))))) := by show _ = _; rw [HQ1.out, decide_eq_true e1]; rfl
  clear HQ1
  by_cases e2 : a.keys.length = b.keys.length
  case neg =>
    obtain rfl : q = false := by rw [HQ2.out, decide_eq_false e2]; rfl
    have hnb : ((a.keys.length : Int) == (b.keys.length : Int)) = false := beq_eq_false_iff_ne.2 (by omega)
    clear HQ2 h1 h2 h3 h4 h5 h6
    rw [e1]
    generalize a.keys.length = x1 at *
    generalize b.keys.length = x2 at *
    generalize b.cells.length = x3 at *
    generalize b.leaf = lb at *
    clear e1
    go_enter Try.func16, Try.ntmps16
    go_wp2
    go_ret
    exact ⟨rfl, below2 _ _ _⟩
  have HQ3 : Hid (q = (decide (a.kids.length = b.kids.length) && (upTo sameC a.cells b.cells && (upTo (fun x y => decide (x = y)) a.keys b.keys && upTo (fun x y => decide (x = y)) a.kids b.kids)))) := by show _ = _; rw [HQ2.out, decide_eq_true e2]; rfl
  clear HQ2
  by_cases e3 : a.kids.length = b.kids.length
  case neg =>
    obtain rfl : q = false := by rw [HQ3.out, decide_eq_false e3]; rfl
    have hnb : ((a.kids.length : Int) == (b.kids.length : Int)) = false := beq_eq_false_iff_ne.2 (by omega)
    clear HQ3 h1 h2 h3 h4 h5 h6
    rw [e1, e2]
    generalize a.kids.length = x1 at *
    generalize b.kids.length = x2 at *
    generalize b.cells.length = x3 at *
    generalize b.keys.length = x4 at *
    generalize b.leaf = lb at *
    clear e1 e2
    go_enter Try.func16, Try.ntmps16
    go_wp2
    go_ret
    exact ⟨rfl, below2 _ _ _⟩
  rw [e1, e2, e3]
  exact same_main pa1 pa2 pa3 pb1 pb2 pb3 ca1 ca2 ca3 cb1 cb2 cb3 b.leaf a.cells b.cells a.keys b.keys a.kids b.kids w _ _ _ e1 rfl e2 rfl e3 rfl h1 h4 h2 h5 h3 h6 l4 l5 l6 q (by rw [HQ3.out, decide_eq_true e3]; rfl)
end Go.Proofs.Ytilmlegkkgiahaa
