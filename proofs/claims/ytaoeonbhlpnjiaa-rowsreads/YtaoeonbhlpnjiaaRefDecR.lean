/- What the document's own Decode of rows answers: the same as rows.Decode. Condition: the bytes lie within the reach. -/
import Derived.Test.YtaoeonbhlpnjiaaRefValR
namespace Go.Proofs.Ytaoeonbhlpnjiaa
open Go.RowKit Go.Lib Go.Sort
set_option linter.unusedVariables false

set_option maxRecDepth 20000 in
set_option maxHeartbeats 8000000 in
theorem refDecodeW_any (p : Option Addr) (l : List UInt8) (c : Nat) (w : World) (hc : l.length ≤ c) (rB : Byts w p l) (hl : l.length ≤ 140737488351232) :
    Calls Try.prog 16 #[.slice p l.length c] w (decEnd (decW l) w) := by
  by_cases hbig : 2048 < l.length
  · have hx : decW l = .error 8 := if_pos hbig
    rw [hx]
    clear hx rB
    go_enter Try.func16, Try.ntmps16
    go_wp2
    go_returns
    exact ⟨Below.refl _ _, rfl⟩
  have hx : decW l = closeW (readW l) := if_neg hbig
  rw [hx]
  clear hx
  have B0 : Below w.heap.size w (w.alloc (.cells #[.slice p l.length c, .int .i64 0] 54)) := (Below.refl _ _).alloc (Nat.le_refl _) _
  have R0 : Rq (w.alloc (.cells #[.slice p l.length c, .int .i64 0] 54)) w.heap.size l 0 := by
    refine ⟨p, c, by go_simp, by go_simp, by go_simp, by go_simp, hc, ?_⟩
    rcases rB with h | ⟨b1, off, hp, hcells⟩
    · exact Or.inl h
    · by_cases hn : l = []
      · exact Or.inl hn
      · have h0 := hcells 0 (List.length_pos_iff.2 hn)
        exact Or.inr ⟨b1, off, hp, cell_lt h0, fun i hi => below_cell B0 (hcells i hi)⟩
  have N := qnum_any w.heap.size l _ R0 hl
  unfold qnumEnd at N
  have HB0 := hid B0
  have hs1 : (w.alloc (.cells #[.slice p l.length c, .int .i64 0] 54)).heap.size = w.heap.size + 1 := by simp
  have hrb1 : w.heap.size < (w.alloc (.cells #[.slice p l.length c, .int .i64 0] 54)).heap.size := by omega
  clear B0 R0 rB
  unfold readW
  cases hnum : numG 0 l with
  | error k =>
    rw [hnum] at N
    simp only [] at N
    have hk : k ≠ 0 := numG_err _ _ _ hnum
    have hkb : (k != 0) = true := bne_iff_ne.2 hk
    have Hk : Hid (k ≠ 0) := hk
    have F := fun r w2 (R2 : Rq w2 w.heap.size r k) => qfail_old w.heap.size r 6 k w2 R2 Hk.out
    clear hnum hk
    go_enter Try.func16, Try.ntmps16
    go_wp2_with (first
      | (go_at_call 28; with_reducible refine N.mono ?_; rintro e w2 ⟨O2, rfl, r2, R2⟩; have HO2 := hid O2; have F2 := F r2 w2 R2; obtain ⟨p2, c2, h20, h21, f20, f21, hc2⟩ := R2.get; clear O2 R2)
      | fail)
    have HB2 : Hid (Below w.heap.size w w2) := HB0.out.trans (HO2.out.below (Nat.le_of_lt hrb1))
    clear F
    go_loopw [6, 7] (fun b i wr => b = .slice none 0 0 ∧ i = .int .u64 0 ∧ w2 = wr) (fun _ _ _ => 0)
    case atStart => exact ⟨rfl, rfl, rfl⟩
    case round =>
      obtain ⟨rfl, rfl, rfl⟩ := hrel
      by_cases hr2 : r2 = []
      · subst hr2
        simp only [List.length_nil] at h20
        clear F2
        go_wp2
        go_quiet (fail)
        go_wp2
        go_returns
        exact ⟨HB2.out.trans ⟨rfl, rfl, rfl, Nat.le_refl _, fun _ _ => rfl⟩, rfl⟩
      · have hpos : 0 < r2.length := List.length_pos_iff.2 hr2
        go_wp2_with (first
          | (go_at_call 30; with_reducible refine F2.mono ?_; rintro e w3 ⟨rfl, hw⟩; subst hw)
          | fail)
        go_quiet (fail)
        go_wp2
        go_returns
        exact ⟨HB2.out.trans ⟨rfl, rfl, rfl, Nat.le_refl _, fun _ _ => rfl⟩, rfl⟩
  | ok x =>
    obtain ⟨m0, r0⟩ := x
    have hm0 := numG_lt0 hnum
    have hr0 : r0.length ≤ l.length := by
      obtain ⟨k, e1, e2, _⟩ := numG_rest l 0 m0 r0 hnum
      rw [e1, List.length_drop]
      omega
    rw [hnum] at N
    simp only [] at N ⊢
    clear hnum
    generalize hres : rowG m0 r0 = res
    have HRes : Hid (res = uponW [] (rowG m0 r0)) := by show _ = _; rw [uponW_nil]; exact hres.symm
    clear hres
    generalize hcl : closeW res = out
    have Hcl : Hid (out = closeW res) := hcl.symm
    clear hcl
    go_enter Try.func16, Try.ntmps16
    go_wp2_with (first
      | (go_at_call 28; with_reducible refine N.mono ?_; rintro e w2 ⟨O2, rfl, R2⟩; have HO2 := hid O2; have HR2 := hid R2; clear O2 R2)
      | fail)
    have HB2 : Hid (Below w.heap.size w w2) := HB0.out.trans (HO2.out.below (Nat.le_of_lt hrb1))
    have hs2 : w.heap.size + 1 ≤ w2.heap.size := by have := HO2.out.size; omega
    clear N HO2 HB0 hs1 hrb1
    go_loopw [6, 7] (fun b i wr => ∃ i' : Nat, i = .int .u64 (i' : Int) ∧ i' ≤ m0 ∧ Below w.heap.size w wr ∧ w.heap.size + 1 ≤ wr.heap.size ∧
        ((∃ (acc : List Val) (r : List UInt8) (m : Nat), i' + m = m0 ∧ OwnV wr (w.heap.size + 1) b acc ∧ Rq wr w.heap.size r 0 ∧ res = uponW acc (rowG m r) ∧ acc.length + r.length ≤ l.length) ∨
         (∃ (k : Int) (r : List UInt8), k ≠ 0 ∧ Rq wr w.heap.size r k ∧ res = .error k))) (fun _ i _ => m0 - (RowKit.intOf i).toNat)
    case atStart => exact ⟨0, rfl, Nat.zero_le _, HB2.out, hs2, Or.inl ⟨[], r0, m0, by omega, ownV_nil _ _, HR2.out, HRes.out, by simpa using hr0⟩⟩
    case round =>
      clear HB2 HR2 HRes hr0 hs2
      obtain ⟨i', rfl, him, hB, hsz, hrel⟩ := hrel
      have HB : Hid (Below w.heap.size w wr) := hB
      clear hB
      rcases hrel with ⟨acc, r, m, hm, hO, hR, hT, hL⟩ | ⟨k, r, hk, hR, hT⟩
      · obtain ⟨pv, cv, rfl, rv, _, hmv⟩ := ownV_slice hO
        have HO : Hid (OwnV wr (w.heap.size + 1) _ acc) := hO
        have HT : Hid (res = uponW acc (rowG m r)) := hT
        have HRd : Hid (Rq wr w.heap.size r 0) := hR
        obtain ⟨p2, c2, h20, h21, f20, f21, hc2⟩ := hR.get
        clear hO hT hR rv
        cases m with
        | zero =>
          obtain rfl : i' = m0 := by omega
          have HT2 : Hid (res = .ok (acc, r)) := by show _ = _; rw [HT.out]; simp [rowG, uponW]
          clear HT
          by_cases hr : r = []
          · subst hr
            simp only [List.length_nil] at h20
            have HC : Hid (out = .ok acc) := by show _ = _; rw [Hcl.out, HT2.out]; rfl
            go_wp2
            go_returns
            refine ⟨HB.out, ?_⟩
            rw [HC.out]
            exact ⟨_, rfl, ownV_mono HO.out (by omega)⟩
          · have hpos : 0 < r.length := List.length_pos_iff.2 hr
            have F := qfail_new w.heap.size r 6 wr HRd.out
            have HC : Hid (out = .error 6) := by show _ = _; rw [Hcl.out, HT2.out]; simp only [closeW]; rw [if_neg hr]
            go_wp2_with (first
              | (go_at_call 30; with_reducible refine F.mono ?_; rintro e w3 ⟨rfl, R3, O3⟩; have HB3 := hid (HB.out.trans (O3.below (by omega))); obtain ⟨p3, c3, h30, h31, f30, f31, hc3⟩ := R3.get; clear R3 O3)
              | fail)
            go_quiet (fail)
            go_wp2
            go_returns
            refine ⟨HB3.out.trans ⟨rfl, rfl, rfl, Nat.le_refl _, fun _ _ => rfl⟩, ?_⟩
            rw [HC.out]
            rfl
        | succ m =>
          have V := qvalue_any w.heap.size r wr HRd.out (by omega)
          unfold qvalEnd at V
          cases hv : valW r with
          | error e =>
            have HE : Hid (res = .error e) := HT.out.trans (uponW_bad hv)
            have Hek : Hid (e ≠ 0) := valW_err hv
            rw [hv] at V
            simp only [] at V
            clear HT hv
            go_wp2_with (first
              | (go_at_call 29; with_reducible refine V.mono ?_; rintro e w3 ⟨O3, ⟨xk, xn, xt, rfl⟩, r3, R3⟩; have HO3 := hid O3; have HR3 := hid R3; clear O3 R3)
              | (at_builtin; refine appV w3 (w.heap.size + 1) _ _ _ _ acc xk xn xt rfl rfl rfl rfl rfl (HO.out.only HO3.out (by omega)) (by omega) (Nat.le_trans hsz HO3.out.size) ?_; intro v' w' O' B' S'; have HB4 := hid B'; clear O' B' S')
              | fail)
            go_roundw
            case rel => exact ⟨i' + 1, by go_num, by omega, (HB.out.trans (HO3.out.below (by omega))).trans (HB4.out.mono (by omega)), Nat.le_trans (Nat.le_trans hsz HO3.out.size) HB4.out.size, Or.inr ⟨e, r3, Hek.out, HR3.out.below HB4.out (by omega), HE.out⟩⟩
            case measure => simp [RowKit.intOf]; omega
          | ok x =>
            obtain ⟨⟨xk, xn, xt⟩, u⟩ := x
            have HE : Hid (res = uponW (acc ++ [⟨xk, xn, xt⟩]) (rowG m u)) := HT.out.trans (uponW_ok hv)
            have hul : u.length + 1 ≤ r.length := by
              obtain ⟨k, e1, e2, e3⟩ := valW_rest hv
              rw [e1, List.length_drop]
              omega
            rw [hv] at V
            simp only [] at V
            clear HT hv
            go_wp2_with (first
              | (go_at_call 29; with_reducible refine V.mono ?_; rintro e w3 ⟨O3, rfl, R3⟩; have HO3 := hid O3; have HR3 := hid R3; clear O3 R3)
              | (at_builtin; refine appV w3 (w.heap.size + 1) _ _ _ _ acc xk xn xt rfl rfl rfl rfl rfl (HO.out.only HO3.out (by omega)) (by omega) (Nat.le_trans hsz HO3.out.size) ?_; intro v' w' O' B' S'; have HO4 := hid O'; have HB4 := hid B'; clear O' B' S')
              | fail)
            go_roundw
            case rel => exact ⟨i' + 1, by go_num, by omega, (HB.out.trans (HO3.out.below (by omega))).trans (HB4.out.mono (by omega)), Nat.le_trans (Nat.le_trans hsz HO3.out.size) HB4.out.size, Or.inl ⟨acc ++ [⟨xk, xn, xt⟩], u, m, by omega, HO4.out, HR3.out.below HB4.out (by omega), HE.out, by simp; omega⟩⟩
            case measure => simp [RowKit.intOf]; omega
      · have hkb : (k == 0) = false := beq_eq_false_iff_ne.2 hk
        have hkn : (k != 0) = true := bne_iff_ne.2 hk
        have F := qfail_old w.heap.size r 6 k wr hR hk
        have HC : Hid (out = .error k) := by show _ = _; rw [Hcl.out, hT]; rfl
        obtain ⟨p2, c2, h20, h21, f20, f21, hc2⟩ := hR.get
        clear hR hk hT
        by_cases hr : r = []
        · subst hr
          simp only [List.length_nil] at h20
          clear F
          go_wp2
          all_goals
            go_quiet (fail)
            go_wp2
            go_returns
            refine ⟨HB.out.trans ⟨rfl, rfl, rfl, Nat.le_refl _, fun _ _ => rfl⟩, ?_⟩
            rw [HC.out]
            rfl
        · have hpos : 0 < r.length := List.length_pos_iff.2 hr
          go_wp2_with (first
            | (go_at_call 30; with_reducible refine F.mono ?_; rintro e w3 ⟨rfl, hw⟩; subst hw)
            | fail)
          all_goals
            go_quiet (fail)
            go_wp2
            go_returns
            refine ⟨HB.out.trans ⟨rfl, rfl, rfl, Nat.le_refl _, fun _ _ => rfl⟩, ?_⟩
            rw [HC.out]
            rfl
end Go.Proofs.Ytaoeonbhlpnjiaa
