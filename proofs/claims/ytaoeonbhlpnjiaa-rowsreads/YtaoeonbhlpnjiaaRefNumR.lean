/- What the document's own (*reader).number does. Condition: the bytes lie within the reach. -/
import Derived.Test.YtaoeonbhlpnjiaaRefTake
namespace Go.Proofs.Ytaoeonbhlpnjiaa
open Go.RowKit Go.Lib Go.Sort
set_option linter.unusedVariables false

theorem sum_group'' (N c i : Nat) : (N : Int) + (c : Int) % 128 * ((128 ^ i : Nat) : Int) = ((N + 128 ^ i * (c % 128) : Nat) : Int) := by
  rw [Int.natCast_add, Int.natCast_mul, Int.mul_comm, Int.natCast_emod]
  rfl
theorem sum_group' (N c i : Nat) (hc : c < 128) : (N : Int) + (c : Int) % 128 * ((128 ^ i : Nat) : Int) = ((N + 128 ^ i * c : Nat) : Int) := by
  have h := sum_group'' N c i
  rw [Nat.mod_eq_of_lt hc] at h
  exact h

/-- The ending of a number that the document's reader reads. -/
def qnumEnd (rb : Nat) (x : Except Int (Nat × List UInt8)) (w : World) (e : Ending) (w' : World) : Prop :=
  Only rb w w' ∧ match x with
    | .ok (n, r) => e = .returned (.int .u64 (n : Int)) ∧ Rq w' rb r 0
    | .error k => e = .returned (.int .u64 0) ∧ ∃ r, Rq w' rb r k

set_option maxRecDepth 20000 in
set_option maxHeartbeats 8000000 in
theorem qnum_any (rb : Nat) (u : List UInt8) (w : World) (hR : Rq w rb u 0) (hl : u.length ≤ 140737488351232) :
    Calls Try.prog 28 #[.pointer (some ⟨rb, 0, none⟩)] w (qnumEnd rb (numG 0 u) w) := by
  have HR := hid hR
  clear hR
  generalize hres : numG 0 u = res
  have HRes : Hid (res = aheadN 0 0 (numG 0 u)) := by show _ = _; rw [aheadN_zero]; exact hres.symm
  clear hres
  go_enter Try.func28, Try.ntmps28
  go_wp2
  go_loopw [3, 4] (fun b i wr => ∃ (k N : Nat) (r : List UInt8), k ≤ 9 ∧ i = .int .i64 k ∧ b = .int .u64 (N : Int) ∧ N < 128 ^ k ∧ res = aheadN N k (numG k r) ∧ r.length ≤ u.length ∧ Rq wr rb r 0 ∧ Only rb w wr) (fun _ i _ => 10 - (RowKit.intOf i).toNat)
  case atStart => exact ⟨0, 0, u, by omega, rfl, rfl, by simp, HRes.out, Nat.le_refl _, HR.out, Only.refl _ _⟩
  case round =>
    clear HR HRes
    obtain ⟨k, N, r, hk, rfl, rfl, hN, hres, hru, hR, hO⟩ := hrel
    have HO : Hid (Only rb w wr) := hO
    have HE : Hid (res = aheadN N k (numG k r)) := hres
    clear hO hres
    cases r with
    | nil =>
      have T := qone_none rb wr hR
      have HE2 : Hid (res = .error 1) := HE.out
      clear hR HE hN hru
      by_cases hk0 : k = 0
      · subst hk0
        go_wp2_with (first
          | (go_at_call 40; with_reducible refine T.mono ?_; rintro e w2 ⟨rfl, R2, O2⟩; have HR2 := hid R2; have HO2 := hid O2; obtain ⟨p2, c2, h20, h21, f20, f21, _⟩ := R2.get; clear O2 R2)
          | fail)
        go_ret
        refine ⟨HO.out.trans HO2.out, ?_⟩
        rw [HE2.out]
        exact ⟨rfl, _, HR2.out⟩
      · have F := fun w2 (R2 : Rq w2 rb [] 1) => qfail_old rb [] 3 1 w2 R2 (by decide)
        go_wp2_with (first
          | (go_at_call 40; with_reducible refine T.mono ?_; rintro e w2 ⟨rfl, R2, O2⟩; have HR2 := hid R2; have HO2 := hid O2; obtain ⟨p2, c2, h20, h21, f20, f21, _⟩ := R2.get; clear O2 R2; have F2 := F w2 HR2.out)
          | (go_at_call 30; with_reducible refine F2.mono ?_; rintro e w3 ⟨rfl, hw⟩; subst hw)
          | fail)
        all_goals
          go_ret
          refine ⟨HO.out.trans HO2.out, ?_⟩
          rw [HE2.out]
          exact ⟨rfl, _, HR2.out⟩
    | cons c r =>
      have hru' : r.length + 1 ≤ u.length := by simpa using hru
      have T := qone_some rb c r wr hR (by unfold maxLen; omega)
      have F := fun w2 (R2 : Rq w2 rb r 0) => qfail_new rb r 3 w2 R2
      have hc := UInt8.toNat_lt c
      clear hR hru
      by_cases hA : k = 9 ∧ 1 < c.toNat
      · obtain ⟨rfl, hy⟩ := hA
        have HE2 : Hid (res = .error 3) := by show _ = _; rw [HE.out, numG_great ⟨rfl, hy⟩]; rfl
        clear HE hN
        generalize c.toNat = y at *
        go_wp2_with (first
          | (go_at_call 40; with_reducible refine T.mono ?_; rintro e w2 ⟨rfl, R2, O2⟩; have HR2 := hid R2; have HO2 := hid O2; obtain ⟨p2, c2, h20, h21, f20, f21, _⟩ := R2.get; clear O2 R2; have F2 := F w2 HR2.out)
          | (go_at_call 30; with_reducible refine F2.mono ?_; rintro e w3 ⟨rfl, R3, O3⟩; have HR3 := hid R3; have HO3 := hid O3; obtain ⟨p3, c3, h30, h31, f30, f31, _⟩ := R3.get; clear O3 R3)
          | fail)
        go_ret
        refine ⟨(HO.out.trans HO2.out).trans HO3.out, ?_⟩
        rw [HE2.out]
        exact ⟨rfl, _, HR3.out⟩
      · by_cases hB : c.toNat < 128
        · by_cases h0 : c.toNat = 0
          · have T := T.mono (R' := fun e w' => e = .returned (.int .u8 0) ∧ Rq w' rb r 0 ∧ Only rb wr w') (by rintro e w' ⟨h, r1, o1⟩; exact ⟨by rw [h, h0]; rfl, r1, o1⟩)
            by_cases hk0 : k = 0
            · subst hk0
              obtain rfl : N = 0 := by simpa using hN
              have HE2 : Hid (res = .ok (0, r)) := by
                show _ = _
                rw [HE.out, ahead_last hA hB (by omega), h0]
              clear HE hN
              go_wp2_with (first
                | (go_at_call 40; with_reducible refine T.mono ?_; rintro e w2 ⟨rfl, R2, O2⟩; have HR2 := hid R2; have HO2 := hid O2; obtain ⟨p2, c2, h20, h21, f20, f21, _⟩ := R2.get; clear O2 R2)
                | fail)
              go_ret
              refine ⟨HO.out.trans HO2.out, ?_⟩
              rw [HE2.out]
              exact ⟨rfl, HR2.out⟩
            · have HE2 : Hid (res = .error 3) := by show _ = _; rw [HE.out, numG_nought h0 (by omega)]; rfl
              clear HE hN
              go_wp2_with (first
                | (go_at_call 40; with_reducible refine T.mono ?_; rintro e w2 ⟨rfl, R2, O2⟩; have HR2 := hid R2; have HO2 := hid O2; obtain ⟨p2, c2, h20, h21, f20, f21, _⟩ := R2.get; clear O2 R2; have F2 := F w2 HR2.out)
                | (go_at_call 30; with_reducible refine F2.mono ?_; rintro e w3 ⟨rfl, R3, O3⟩; have HR3 := hid R3; have HO3 := hid O3; obtain ⟨p3, c3, h30, h31, f30, f31, _⟩ := R3.get; clear O3 R3)
                | fail)
              all_goals
                go_ret
                refine ⟨(HO.out.trans HO2.out).trans HO3.out, ?_⟩
                rw [HE2.out]
                exact ⟨rfl, _, HR3.out⟩
          · have HE2 : Hid (res = .ok (N + 128 ^ k * c.toNat, r)) := by
              show _ = _
              rw [HE.out, ahead_last hA hB (by omega)]
            have h64 : N + 128 ^ k * c.toNat < 18446744073709551616 := num_fits hk hN hB (by omega)
            have hsum := sum_group' N c.toNat k hB
            generalize N + 128 ^ k * c.toNat = M at *
            generalize c.toNat = y at *
            have e0 : ((y : Int) == 0) = false := beq_eq_false_iff_ne.2 (by omega)
            clear HE hN
            have hkk : k = 0 ∨ k = 1 ∨ k = 2 ∨ k = 3 ∨ k = 4 ∨ k = 5 ∨ k = 6 ∨ k = 7 ∨ k = 8 ∨ k = 9 := by omega
            rcases hkk with rfl | rfl | rfl | rfl | rfl | rfl | rfl | rfl | rfl | rfl
            · replace hsum : (N : Int) + (y : Int) % 128 = (M : Int) := by simpa using hsum
              go_wp2_with (first
                | (go_at_call 40; with_reducible refine T.mono ?_; rintro e w2 ⟨rfl, R2, O2⟩; have HR2 := hid R2; have HO2 := hid O2; obtain ⟨p2, c2, h20, h21, f20, f21, _⟩ := R2.get; clear O2 R2)
                | fail)
              go_ret
              refine ⟨HO.out.trans HO2.out, ?_⟩
              rw [HE2.out]
              exact ⟨rfl, HR2.out⟩
            · replace hsum : (N : Int) + (y : Int) % 128 * 128 = (M : Int) := hsum
              go_wp2_with (first
                | (go_at_call 40; with_reducible refine T.mono ?_; rintro e w2 ⟨rfl, R2, O2⟩; have HR2 := hid R2; have HO2 := hid O2; obtain ⟨p2, c2, h20, h21, f20, f21, _⟩ := R2.get; clear O2 R2)
                | fail)
              go_ret
              refine ⟨HO.out.trans HO2.out, ?_⟩
              rw [HE2.out]
              exact ⟨rfl, HR2.out⟩
            · replace hsum : (N : Int) + (y : Int) % 128 * 16384 = (M : Int) := hsum
              go_wp2_with (first
                | (go_at_call 40; with_reducible refine T.mono ?_; rintro e w2 ⟨rfl, R2, O2⟩; have HR2 := hid R2; have HO2 := hid O2; obtain ⟨p2, c2, h20, h21, f20, f21, _⟩ := R2.get; clear O2 R2)
                | fail)
              go_ret
              refine ⟨HO.out.trans HO2.out, ?_⟩
              rw [HE2.out]
              exact ⟨rfl, HR2.out⟩
            · replace hsum : (N : Int) + (y : Int) % 128 * 2097152 = (M : Int) := hsum
              go_wp2_with (first
                | (go_at_call 40; with_reducible refine T.mono ?_; rintro e w2 ⟨rfl, R2, O2⟩; have HR2 := hid R2; have HO2 := hid O2; obtain ⟨p2, c2, h20, h21, f20, f21, _⟩ := R2.get; clear O2 R2)
                | fail)
              go_ret
              refine ⟨HO.out.trans HO2.out, ?_⟩
              rw [HE2.out]
              exact ⟨rfl, HR2.out⟩
            · replace hsum : (N : Int) + (y : Int) % 128 * 268435456 = (M : Int) := hsum
              go_wp2_with (first
                | (go_at_call 40; with_reducible refine T.mono ?_; rintro e w2 ⟨rfl, R2, O2⟩; have HR2 := hid R2; have HO2 := hid O2; obtain ⟨p2, c2, h20, h21, f20, f21, _⟩ := R2.get; clear O2 R2)
                | fail)
              go_ret
              refine ⟨HO.out.trans HO2.out, ?_⟩
              rw [HE2.out]
              exact ⟨rfl, HR2.out⟩
            · replace hsum : (N : Int) + (y : Int) % 128 * 34359738368 = (M : Int) := hsum
              go_wp2_with (first
                | (go_at_call 40; with_reducible refine T.mono ?_; rintro e w2 ⟨rfl, R2, O2⟩; have HR2 := hid R2; have HO2 := hid O2; obtain ⟨p2, c2, h20, h21, f20, f21, _⟩ := R2.get; clear O2 R2)
                | fail)
              go_ret
              refine ⟨HO.out.trans HO2.out, ?_⟩
              rw [HE2.out]
              exact ⟨rfl, HR2.out⟩
            · replace hsum : (N : Int) + (y : Int) % 128 * 4398046511104 = (M : Int) := hsum
              go_wp2_with (first
                | (go_at_call 40; with_reducible refine T.mono ?_; rintro e w2 ⟨rfl, R2, O2⟩; have HR2 := hid R2; have HO2 := hid O2; obtain ⟨p2, c2, h20, h21, f20, f21, _⟩ := R2.get; clear O2 R2)
                | fail)
              go_ret
              refine ⟨HO.out.trans HO2.out, ?_⟩
              rw [HE2.out]
              exact ⟨rfl, HR2.out⟩
            · replace hsum : (N : Int) + (y : Int) % 128 * 562949953421312 = (M : Int) := hsum
              go_wp2_with (first
                | (go_at_call 40; with_reducible refine T.mono ?_; rintro e w2 ⟨rfl, R2, O2⟩; have HR2 := hid R2; have HO2 := hid O2; obtain ⟨p2, c2, h20, h21, f20, f21, _⟩ := R2.get; clear O2 R2)
                | fail)
              go_ret
              refine ⟨HO.out.trans HO2.out, ?_⟩
              rw [HE2.out]
              exact ⟨rfl, HR2.out⟩
            · replace hsum : (N : Int) + (y : Int) % 128 * 72057594037927936 = (M : Int) := hsum
              go_wp2_with (first
                | (go_at_call 40; with_reducible refine T.mono ?_; rintro e w2 ⟨rfl, R2, O2⟩; have HR2 := hid R2; have HO2 := hid O2; obtain ⟨p2, c2, h20, h21, f20, f21, _⟩ := R2.get; clear O2 R2)
                | fail)
              go_ret
              refine ⟨HO.out.trans HO2.out, ?_⟩
              rw [HE2.out]
              exact ⟨rfl, HR2.out⟩
            · replace hsum : (N : Int) + (y : Int) % 128 * 9223372036854775808 = (M : Int) := hsum
              have hy1 : y ≤ 1 := by omega
              go_wp2_with (first
                | (go_at_call 40; with_reducible refine T.mono ?_; rintro e w2 ⟨rfl, R2, O2⟩; have HR2 := hid R2; have HO2 := hid O2; obtain ⟨p2, c2, h20, h21, f20, f21, _⟩ := R2.get; clear O2 R2)
                | fail)
              go_ret
              refine ⟨HO.out.trans HO2.out, ?_⟩
              rw [HE2.out]
              exact ⟨rfl, HR2.out⟩
        · have hk8 : k ≤ 8 := by omega
          have HE2 : Hid (res = aheadN (N + 128 ^ k * (c.toNat % 128)) (k + 1) (numG (k + 1) r)) := by
            show _ = _
            rw [HE.out, ahead_more hA hB]
          have HM : Hid (N + 128 ^ k * (c.toNat % 128) < 128 ^ (k + 1)) := by
            show _ < _
            rw [Nat.pow_succ]
            have h1 : 128 ^ k * (c.toNat % 128) ≤ 128 ^ k * 127 := Nat.mul_le_mul_left _ (by omega)
            omega
          have h64 : N + 128 ^ k * (c.toNat % 128) < 18446744073709551616 := num_fits8 hk8 HM.out
          have hsum := sum_group'' N c.toNat k
          generalize N + 128 ^ k * (c.toNat % 128) = M at *
          generalize c.toNat = y at *
          have e0 : ((y : Int) == 0) = false := beq_eq_false_iff_ne.2 (by omega)
          clear HE hN
          have hkk : k = 0 ∨ k = 1 ∨ k = 2 ∨ k = 3 ∨ k = 4 ∨ k = 5 ∨ k = 6 ∨ k = 7 ∨ k = 8 := by omega
          rcases hkk with rfl | rfl | rfl | rfl | rfl | rfl | rfl | rfl | rfl
          · replace hsum : (N : Int) + (y : Int) % 128 = (M : Int) := by simpa using hsum
            go_wp2_with (first
              | (go_at_call 40; with_reducible refine T.mono ?_; rintro e w2 ⟨rfl, R2, O2⟩; have HR2 := hid R2; have HO2 := hid O2; obtain ⟨p2, c2, h20, h21, f20, f21, _⟩ := R2.get; clear O2 R2)
              | fail)
            go_roundw
            case rel => exact ⟨1, M, r, by decide, rfl, rfl, HM.out, HE2.out, by omega, HR2.out, HO.out.trans HO2.out⟩
            case measure => simp [RowKit.intOf]
          · replace hsum : (N : Int) + (y : Int) % 128 * 128 = (M : Int) := hsum
            go_wp2_with (first
              | (go_at_call 40; with_reducible refine T.mono ?_; rintro e w2 ⟨rfl, R2, O2⟩; have HR2 := hid R2; have HO2 := hid O2; obtain ⟨p2, c2, h20, h21, f20, f21, _⟩ := R2.get; clear O2 R2)
              | fail)
            go_roundw
            case rel => exact ⟨2, M, r, by decide, rfl, rfl, HM.out, HE2.out, by omega, HR2.out, HO.out.trans HO2.out⟩
            case measure => simp [RowKit.intOf]
          · replace hsum : (N : Int) + (y : Int) % 128 * 16384 = (M : Int) := hsum
            go_wp2_with (first
              | (go_at_call 40; with_reducible refine T.mono ?_; rintro e w2 ⟨rfl, R2, O2⟩; have HR2 := hid R2; have HO2 := hid O2; obtain ⟨p2, c2, h20, h21, f20, f21, _⟩ := R2.get; clear O2 R2)
              | fail)
            go_roundw
            case rel => exact ⟨3, M, r, by decide, rfl, rfl, HM.out, HE2.out, by omega, HR2.out, HO.out.trans HO2.out⟩
            case measure => simp [RowKit.intOf]
          · replace hsum : (N : Int) + (y : Int) % 128 * 2097152 = (M : Int) := hsum
            go_wp2_with (first
              | (go_at_call 40; with_reducible refine T.mono ?_; rintro e w2 ⟨rfl, R2, O2⟩; have HR2 := hid R2; have HO2 := hid O2; obtain ⟨p2, c2, h20, h21, f20, f21, _⟩ := R2.get; clear O2 R2)
              | fail)
            go_roundw
            case rel => exact ⟨4, M, r, by decide, rfl, rfl, HM.out, HE2.out, by omega, HR2.out, HO.out.trans HO2.out⟩
            case measure => simp [RowKit.intOf]
          · replace hsum : (N : Int) + (y : Int) % 128 * 268435456 = (M : Int) := hsum
            go_wp2_with (first
              | (go_at_call 40; with_reducible refine T.mono ?_; rintro e w2 ⟨rfl, R2, O2⟩; have HR2 := hid R2; have HO2 := hid O2; obtain ⟨p2, c2, h20, h21, f20, f21, _⟩ := R2.get; clear O2 R2)
              | fail)
            go_roundw
            case rel => exact ⟨5, M, r, by decide, rfl, rfl, HM.out, HE2.out, by omega, HR2.out, HO.out.trans HO2.out⟩
            case measure => simp [RowKit.intOf]
          · replace hsum : (N : Int) + (y : Int) % 128 * 34359738368 = (M : Int) := hsum
            go_wp2_with (first
              | (go_at_call 40; with_reducible refine T.mono ?_; rintro e w2 ⟨rfl, R2, O2⟩; have HR2 := hid R2; have HO2 := hid O2; obtain ⟨p2, c2, h20, h21, f20, f21, _⟩ := R2.get; clear O2 R2)
              | fail)
            go_roundw
            case rel => exact ⟨6, M, r, by decide, rfl, rfl, HM.out, HE2.out, by omega, HR2.out, HO.out.trans HO2.out⟩
            case measure => simp [RowKit.intOf]
          · replace hsum : (N : Int) + (y : Int) % 128 * 4398046511104 = (M : Int) := hsum
            go_wp2_with (first
              | (go_at_call 40; with_reducible refine T.mono ?_; rintro e w2 ⟨rfl, R2, O2⟩; have HR2 := hid R2; have HO2 := hid O2; obtain ⟨p2, c2, h20, h21, f20, f21, _⟩ := R2.get; clear O2 R2)
              | fail)
            go_roundw
            case rel => exact ⟨7, M, r, by decide, rfl, rfl, HM.out, HE2.out, by omega, HR2.out, HO.out.trans HO2.out⟩
            case measure => simp [RowKit.intOf]
          · replace hsum : (N : Int) + (y : Int) % 128 * 562949953421312 = (M : Int) := hsum
            go_wp2_with (first
              | (go_at_call 40; with_reducible refine T.mono ?_; rintro e w2 ⟨rfl, R2, O2⟩; have HR2 := hid R2; have HO2 := hid O2; obtain ⟨p2, c2, h20, h21, f20, f21, _⟩ := R2.get; clear O2 R2)
              | fail)
            go_roundw
            case rel => exact ⟨8, M, r, by decide, rfl, rfl, HM.out, HE2.out, by omega, HR2.out, HO.out.trans HO2.out⟩
            case measure => simp [RowKit.intOf]
          · replace hsum : (N : Int) + (y : Int) % 128 * 72057594037927936 = (M : Int) := hsum
            go_wp2_with (first
              | (go_at_call 40; with_reducible refine T.mono ?_; rintro e w2 ⟨rfl, R2, O2⟩; have HR2 := hid R2; have HO2 := hid O2; obtain ⟨p2, c2, h20, h21, f20, f21, _⟩ := R2.get; clear O2 R2)
              | fail)
            go_roundw
            case rel => exact ⟨9, M, r, by decide, rfl, rfl, HM.out, HE2.out, by omega, HR2.out, HO.out.trans HO2.out⟩
            case measure => simp [RowKit.intOf]
end Go.Proofs.Ytaoeonbhlpnjiaa
