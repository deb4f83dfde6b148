/- What (*reader).take, truth, end and number of package rows do. Condition: the bytes lie within the reach. -/
import Derived.Test.YtaoeonbhlpnjiaaRowSign
import Derived.Test.YtaoeonbhlpnjiaaMemRows
namespace Go.Proofs.Ytaoeonbhlpnjiaa
open Go.RowKit Go.Lib Go.Sort
set_option linter.unusedVariables false

/-- A reader at a block: the bytes that are left. -/
def Rk (w : World) (rb : Nat) (u : List UInt8) : Prop :=
  ∃ p c, w.cell? ⟨rb, 0, none⟩ = some (.slice p u.length c) ∧ w.frozen? ⟨rb, 0, none⟩ = false ∧ u.length ≤ c ∧
    (u = [] ∨ ∃ b off, p = some ⟨b, off, none⟩ ∧ b < rb ∧ ∀ i (h : i < u.length), w.cell? ⟨b, off + i, none⟩ = some (.int .u8 (u[i].toNat : Int)))
theorem Rk.lt {w : World} {rb : Nat} {u : List UInt8} (h : Rk w rb u) : rb < w.heap.size := by
  obtain ⟨p, c, h0, _⟩ := h
  exact cell_lt h0
theorem Rk.below {w w' : World} {rb base : Nat} {u : List UInt8} (h : Rk w rb u) (B : Below base w w') (hb : rb < base) : Rk w' rb u := by
  obtain ⟨p, c, h0, f0, hc, hm⟩ := h
  refine ⟨p, c, (B.cell (p := ⟨rb, 0, none⟩) hb).trans h0, (B.frozen (p := ⟨rb, 0, none⟩) hb).trans f0, hc, ?_⟩
  rcases hm with hm | ⟨b, off, hp, hlt, hcells⟩
  · exact Or.inl hm
  · exact Or.inr ⟨b, off, hp, hlt, fun i hi => (B.cell (p := ⟨b, off + i, none⟩) (Nat.lt_trans hlt hb)).trans (hcells i hi)⟩
/-- What is thrown: an error's number. -/
def thr (n : Int) : List PanicEntry := [{ v := .iface 25 (.int .i64 n), recovered := false }]
theorem rk_set {w : World} {rb n c' : Nat} {u : List UInt8} {p' : Option Addr} {v0 : Value} (h0 : w.cell? ⟨rb, 0, none⟩ = some v0) (f0 : w.frozen? ⟨rb, 0, none⟩ = false) (hc : u.length ≤ c')
    (hm : u = [] ∨ ∃ b off, p' = some ⟨b, off, none⟩ ∧ b < rb ∧ ∀ i (h : i < u.length), w.cell? ⟨b, off + i, none⟩ = some (.int .u8 (u[i].toNat : Int))) : Rk ((w.drewN n).setCell ⟨rb, 0, none⟩ (.slice p' u.length c')) rb u := by
  have g0 : (w.drewN n).cell? ⟨rb, 0, none⟩ = some v0 := h0
  have e0 : (w.drewN n).frozen? ⟨rb, 0, none⟩ = false := f0
  refine ⟨p', c', ?_, ?_, hc, ?_⟩
  · simp [go_sem, g0]
  · simp [go_sem, e0]
  · rcases hm with hm | ⟨b, off, hp, hb, hcells⟩
    · exact Or.inl hm
    · refine Or.inr ⟨b, off, hp, hb, fun i hi => ?_⟩
      exact (World.cell?_of_block (w := w.drewN n) (a := ⟨b, off + i, none⟩) (Below.heap_setCell _ _ _ _ (show b ≠ rb by omega))).trans (hcells i hi)

set_option maxHeartbeats 1000000 in
theorem ktake_none (rb : Nat) (w : World) (hR : Rk w rb []) :
    Calls Try.prog 42 #[.pointer (some ⟨rb, 0, none⟩)] w fun e w' => e = .panicked (thr 1) ∧ w' = w := by
  obtain ⟨p, c, h0, f0, hc, hm⟩ := hR
  simp only [List.length_nil] at h0
  go_enter Try.func42, Try.ntmps42
  go_wp2
  exact ⟨rfl, rfl, rfl⟩

set_option maxHeartbeats 1000000 in
theorem ktake_some (rb : Nat) (x : UInt8) (u : List UInt8) (w : World) (hR : Rk w rb (x :: u)) (hl : u.length + 1 ≤ maxLen) :
    Calls Try.prog 42 #[.pointer (some ⟨rb, 0, none⟩)] w fun e w' => e = .returned (.int .u8 (x.toNat : Int)) ∧ Rk w' rb u ∧ Only rb w w' := by
  obtain ⟨p, c, h0, f0, hc, hm⟩ := hR
  rcases hm with hm | ⟨b, off, rfl, hb, hcells⟩
  · cases hm
  have c0 : w.cell? ⟨b, off, none⟩ = some (.int .u8 (x.toNat : Int)) := hcells 0 (by simp)
  simp only [List.length_cons] at h0 hc
  unfold maxLen at hl
  have HC : Hid (∀ i (h : i < (x :: u).length), w.cell? ⟨b, off + i, none⟩ = some (.int .u8 ((x :: u)[i].toNat : Int))) := hcells
  clear hcells
  generalize x.toNat = y at *
  go_enter Try.func42, Try.ntmps42
  go_wp2
  · rename_i hc1
    go_ret
    refine ⟨rfl, rk_set (n := 0) h0 f0 (by omega) (Or.inl (List.length_eq_zero_iff.1 (by omega))), only_set _ _ 0 _⟩
  · rename_i hc1
    go_ret
    refine ⟨rfl, rk_set (n := 0) h0 f0 (by omega) (Or.inr ⟨b, off + 1, rfl, hb, fun i hi => ?_⟩), only_set _ _ 0 _⟩
    have := HC.out (i + 1) (by simpa using hi)
    rw [Nat.add_assoc, Nat.add_comm 1 i]
    exact this

set_option maxHeartbeats 1000000 in
theorem ktruth_none (rb : Nat) (w : World) (hR : Rk w rb []) :
    Calls Try.prog 43 #[.pointer (some ⟨rb, 0, none⟩)] w fun e w' => e = .panicked (thr 1) ∧ w' = w := by
  have T := ktake_none rb w hR
  go_enter Try.func43, Try.ntmps43
  go_wp2_with (go_at_call 42; with_reducible refine T.mono ?_; rintro e w2 ⟨rfl, hw⟩; subst hw)
  exact ⟨rfl, rfl, rfl⟩
set_option maxHeartbeats 1000000 in
theorem ktruth_some (rb : Nat) (x : UInt8) (u : List UInt8) (w : World) (hR : Rk w rb (x :: u)) (hl : u.length + 1 ≤ maxLen) (hx : x.toNat ≤ 1) :
    Calls Try.prog 43 #[.pointer (some ⟨rb, 0, none⟩)] w fun e w' => e = .returned (.int .i64 (x.toNat : Int)) ∧ Rk w' rb u ∧ Only rb w w' := by
  have T := ktake_some rb x u w hR hl
  generalize x.toNat = y at *
  go_enter Try.func43, Try.ntmps43
  go_wp2_with (go_at_call 42; with_reducible refine T.mono ?_; rintro e w2 ⟨rfl, R2, O2⟩)
  go_ret
  exact ⟨rfl, R2, O2⟩
set_option maxHeartbeats 1000000 in
theorem ktruth_bad (rb : Nat) (x : UInt8) (u : List UInt8) (w : World) (hR : Rk w rb (x :: u)) (hl : u.length + 1 ≤ maxLen) (hx : 1 < x.toNat) :
    Calls Try.prog 43 #[.pointer (some ⟨rb, 0, none⟩)] w fun e w' => e = .panicked (thr 3) ∧ Only rb w w' := by
  have T := ktake_some rb x u w hR hl
  generalize x.toNat = y at *
  go_enter Try.func43, Try.ntmps43
  go_wp2_with (go_at_call 42; with_reducible refine T.mono ?_; rintro e w2 ⟨rfl, R2, O2⟩)
  exact ⟨rfl, rfl, O2⟩

set_option maxHeartbeats 1000000 in
theorem kend_none (rb : Nat) (w : World) (hR : Rk w rb []) :
    Calls Try.prog 27 #[.pointer (some ⟨rb, 0, none⟩)] w fun e w' => e = .returned (.tuple #[]) ∧ w' = w := by
  obtain ⟨p, c, h0, f0, hc, hm⟩ := hR
  simp only [List.length_nil] at h0
  go_enter Try.func27, Try.ntmps27
  go_wp2
  refine end0 Try.results27 rfl ?_
  exact ⟨rfl, rfl⟩
set_option maxHeartbeats 1000000 in
theorem kend_some (rb : Nat) (u : List UInt8) (w : World) (hR : Rk w rb u) (hu : u ≠ []) :
    Calls Try.prog 27 #[.pointer (some ⟨rb, 0, none⟩)] w fun e w' => e = .panicked (thr 6) ∧ w' = w := by
  obtain ⟨p, c, h0, f0, hc, hm⟩ := hR
  have hpos : 0 < u.length := List.length_pos_iff.2 hu
  clear hm
  go_enter Try.func27, Try.ntmps27
  go_wp2
  exact ⟨rfl, rfl, rfl⟩

/-- A group laid above what was read. -/
theorem or_group (N c i : Nat) (hN : N < 128 ^ i) (hc : c < 128) (h64 : N + 128 ^ i * c < 18446744073709551616) : bits .or .u64 (N : Int) ((128 ^ i * c : Nat) : Int) = ((N + 128 ^ i * c : Nat) : Int) := by
  have h := u64_or_nat N (128 ^ i * c) (by omega) (by omega)
  rw [h]
  congr 1
  rw [Nat.or_comm]
  have e := Nat.two_pow_add_eq_or_of_lt (i := 7 * i) (b := N) (by rw [← pow128]; exact hN) c
  rw [← pow128] at e
  rw [← e, Nat.add_comm]

theorem or_group'' (N c i : Nat) (hN : N < 128 ^ i) (h64 : N + 128 ^ i * (c % 128) < 18446744073709551616) : bits .or .u64 (N : Int) ((c : Int) % 128 * ((128 ^ i : Nat) : Int)) = ((N + 128 ^ i * (c % 128) : Nat) : Int) := by
  have h := or_group N (c % 128) i hN (Nat.mod_lt _ (by decide)) h64
  rw [← h, Int.natCast_mul, Int.mul_comm, Int.natCast_emod]
  rfl
theorem or_group' (N c i : Nat) (hN : N < 128 ^ i) (h64 : N + 128 ^ i * c < 18446744073709551616) (hc : c < 128) : bits .or .u64 (N : Int) ((c : Int) % 128 * ((128 ^ i : Nat) : Int)) = ((N + 128 ^ i * c : Nat) : Int) := by
  have e : c % 128 = c := Nat.mod_eq_of_lt hc
  have h := or_group'' N c i hN (by rw [e]; exact h64)
  rw [e] at h
  exact h
theorem num_fits {k N c : Nat} (hk : k ≤ 9) (hN : N < 128 ^ k) (hc : c < 128) (h9 : k = 9 → c ≤ 1) : N + 128 ^ k * c < 18446744073709551616 := by
  by_cases h : k = 9
  · subst h
    have := h9 rfl
    have e : (128 : Nat) ^ 9 = 9223372036854775808 := by decide
    rw [e] at hN ⊢
    have : 9223372036854775808 * c ≤ 9223372036854775808 * 1 := Nat.mul_le_mul_left _ this
    omega
  · have h1 : 128 ^ k * c ≤ 128 ^ k * 127 := Nat.mul_le_mul_left _ (by omega)
    have h2 : 128 ^ (k + 1) ≤ 128 ^ 9 := Nat.pow_le_pow_right (by decide) (by omega)
    have e : (128 : Nat) ^ 9 = 9223372036854775808 := by decide
    rw [Nat.pow_succ, e] at h2
    omega
theorem num_fits8 {k M : Nat} (hk : k ≤ 8) (hM : M < 128 ^ (k + 1)) : M < 18446744073709551616 := by
  have h2 : 128 ^ (k + 1) ≤ 128 ^ 9 := Nat.pow_le_pow_right (by decide) (by omega)
  have e : (128 : Nat) ^ 9 = 9223372036854775808 := by decide
  rw [e] at h2
  omega

/-- The ending of a number that is read. -/
def numEndW (rb : Nat) (x : Except Int (Nat × List UInt8)) (w : World) (e : Ending) (w' : World) : Prop :=
  Only rb w w' ∧ match x with
    | .ok (n, r) => e = .returned (.int .u64 (n : Int)) ∧ Rk w' rb r
    | .error n => e = .panicked (thr n)

set_option maxRecDepth 20000 in
set_option maxHeartbeats 4000000 in
theorem knum_any (rb : Nat) (u : List UInt8) (w : World) (hR : Rk w rb u) (hl : u.length ≤ 140737488351232) :
    Calls Try.prog 38 #[.pointer (some ⟨rb, 0, none⟩)] w (numEndW rb (numG 0 u) w) := by
  have HR : Hid (Rk w rb u) := hR
  clear hR
  generalize hres : numG 0 u = res
  have HRes : Hid (res = aheadN 0 0 (numG 0 u)) := by show _ = _; rw [aheadN_zero]; exact hres.symm
  clear hres
  go_enter Try.func38, Try.ntmps38
  go_wp2
  go_loopw [3, 4] (fun b i wr => ∃ (k N : Nat) (r : List UInt8), k ≤ 9 ∧ i = .int .i64 k ∧ b = .int .u64 (N : Int) ∧ N < 128 ^ k ∧ res = aheadN N k (numG k r) ∧ r.length ≤ u.length ∧ Rk wr rb r ∧ Only rb w wr) (fun _ i _ => 10 - (RowKit.intOf i).toNat)
  case atStart => exact ⟨0, 0, u, by omega, rfl, rfl, by simp, HRes.out, Nat.le_refl _, HR.out, Only.refl _ _⟩
  case round =>
    clear HR HRes
    obtain ⟨k, N, r, hk, rfl, rfl, hN, hres, hru, hR, hO⟩ := hrel
    have HO : Hid (Only rb w wr) := hO
    have HE : Hid (res = aheadN N k (numG k r)) := hres
    clear hO hres
    cases r with
    | nil =>
      have T := ktake_none rb wr hR
      have HE2 : Hid (res = .error 1) := HE.out
      clear hR HE hN
      go_wp2_with (go_at_call 42; with_reducible refine T.mono ?_; rintro e w2 ⟨rfl, hw⟩; subst hw)
      refine ⟨rfl, HO.out, ?_⟩
      rw [HE2.out]
    | cons c r =>
      have hru' : r.length + 1 ≤ u.length := by simpa using hru
      have T := ktake_some rb c r wr hR (by unfold maxLen; omega)
      have hc := UInt8.toNat_lt c
      clear hR hru
      by_cases hA : k = 9 ∧ 1 < c.toNat
      · obtain ⟨rfl, hy⟩ := hA
        have HE2 : Hid (res = .error 3) := by show _ = _; rw [HE.out, numG_great ⟨rfl, hy⟩]; rfl
        clear HE hN
        generalize c.toNat = y at *
        go_wp2_with (go_at_call 42; with_reducible refine T.mono ?_; rintro e w2 ⟨rfl, R2, O2⟩; have HR2 := hid R2; have HO2 := hid O2; clear R2 O2)
        refine ⟨rfl, HO.out.trans HO2.out, ?_⟩
        have h2 := HE2.out
        subst h2
        rfl
      · by_cases hB : c.toNat < 128
        · by_cases h0 : c.toNat = 0
          · have T := T.mono (R' := fun e w' => e = .returned (.int .u8 0) ∧ Rk w' rb r ∧ Only rb wr w') (by rintro e w' ⟨h, r1, o1⟩; exact ⟨by rw [h, h0]; rfl, r1, o1⟩)
            by_cases hk0 : k = 0
            · subst hk0
              obtain rfl : N = 0 := by simpa using hN
              have HE2 : Hid (res = .ok (0, r)) := by
                show _ = _
                rw [HE.out, ahead_last hA hB (by omega), h0]
              clear HE hN
              have hor : bits .or .u64 0 0 = 0 := by decide
              go_wp2_with (go_at_call 42; with_reducible refine T.mono ?_; rintro e w2 ⟨rfl, R2, O2⟩; have HR2 := hid R2; have HO2 := hid O2; clear R2 O2)
              go_ret
              refine ⟨HO.out.trans HO2.out, ?_⟩
              rw [HE2.out]
              exact ⟨rfl, HR2.out⟩
            · have HE2 : Hid (res = .error 3) := by show _ = _; rw [HE.out, numG_nought h0 (by omega)]; rfl
              clear HE hN
              go_wp2_with (go_at_call 42; with_reducible refine T.mono ?_; rintro e w2 ⟨rfl, R2, O2⟩; have HR2 := hid R2; have HO2 := hid O2; clear R2 O2)
              all_goals
                refine ⟨rfl, HO.out.trans HO2.out, ?_⟩
                have h2 := HE2.out
                subst h2
                rfl
          · have HE2 : Hid (res = .ok (N + 128 ^ k * c.toNat, r)) := by
              show _ = _
              rw [HE.out, ahead_last hA hB (by omega)]
            have h64 : N + 128 ^ k * c.toNat < 18446744073709551616 := num_fits hk hN hB (by omega)
            have hor := or_group' N c.toNat k hN h64 hB
            generalize N + 128 ^ k * c.toNat = M at *
            generalize c.toNat = y at *
            have e0 : ((y : Int) == 0) = false := beq_eq_false_iff_ne.2 (by omega)
            clear HE h64 hN
            have hkk : k = 0 ∨ k = 1 ∨ k = 2 ∨ k = 3 ∨ k = 4 ∨ k = 5 ∨ k = 6 ∨ k = 7 ∨ k = 8 ∨ k = 9 := by omega
            rcases hkk with rfl | rfl | rfl | rfl | rfl | rfl | rfl | rfl | rfl | rfl
            · replace hor : bits .or .u64 (N : Int) ((y : Int) % 128) = (M : Int) := by simpa using hor
              go_wp2_with (go_at_call 42; with_reducible refine T.mono ?_; rintro e w2 ⟨rfl, R2, O2⟩; have HR2 := hid R2; have HO2 := hid O2; clear R2 O2)
              go_ret
              refine ⟨HO.out.trans HO2.out, ?_⟩
              rw [HE2.out]
              exact ⟨rfl, HR2.out⟩
            · replace hor : bits .or .u64 (N : Int) ((y : Int) % 128 * 128) = (M : Int) := hor
              go_wp2_with (go_at_call 42; with_reducible refine T.mono ?_; rintro e w2 ⟨rfl, R2, O2⟩; have HR2 := hid R2; have HO2 := hid O2; clear R2 O2)
              go_ret
              refine ⟨HO.out.trans HO2.out, ?_⟩
              rw [HE2.out]
              exact ⟨rfl, HR2.out⟩
            · replace hor : bits .or .u64 (N : Int) ((y : Int) % 128 * 16384) = (M : Int) := hor
              go_wp2_with (go_at_call 42; with_reducible refine T.mono ?_; rintro e w2 ⟨rfl, R2, O2⟩; have HR2 := hid R2; have HO2 := hid O2; clear R2 O2)
              go_ret
              refine ⟨HO.out.trans HO2.out, ?_⟩
              rw [HE2.out]
              exact ⟨rfl, HR2.out⟩
            · replace hor : bits .or .u64 (N : Int) ((y : Int) % 128 * 2097152) = (M : Int) := hor
              go_wp2_with (go_at_call 42; with_reducible refine T.mono ?_; rintro e w2 ⟨rfl, R2, O2⟩; have HR2 := hid R2; have HO2 := hid O2; clear R2 O2)
              go_ret
              refine ⟨HO.out.trans HO2.out, ?_⟩
              rw [HE2.out]
              exact ⟨rfl, HR2.out⟩
            · replace hor : bits .or .u64 (N : Int) ((y : Int) % 128 * 268435456) = (M : Int) := hor
              go_wp2_with (go_at_call 42; with_reducible refine T.mono ?_; rintro e w2 ⟨rfl, R2, O2⟩; have HR2 := hid R2; have HO2 := hid O2; clear R2 O2)
              go_ret
              refine ⟨HO.out.trans HO2.out, ?_⟩
              rw [HE2.out]
              exact ⟨rfl, HR2.out⟩
            · replace hor : bits .or .u64 (N : Int) ((y : Int) % 128 * 34359738368) = (M : Int) := hor
              go_wp2_with (go_at_call 42; with_reducible refine T.mono ?_; rintro e w2 ⟨rfl, R2, O2⟩; have HR2 := hid R2; have HO2 := hid O2; clear R2 O2)
              go_ret
              refine ⟨HO.out.trans HO2.out, ?_⟩
              rw [HE2.out]
              exact ⟨rfl, HR2.out⟩
            · replace hor : bits .or .u64 (N : Int) ((y : Int) % 128 * 4398046511104) = (M : Int) := hor
              go_wp2_with (go_at_call 42; with_reducible refine T.mono ?_; rintro e w2 ⟨rfl, R2, O2⟩; have HR2 := hid R2; have HO2 := hid O2; clear R2 O2)
              go_ret
              refine ⟨HO.out.trans HO2.out, ?_⟩
              rw [HE2.out]
              exact ⟨rfl, HR2.out⟩
            · replace hor : bits .or .u64 (N : Int) ((y : Int) % 128 * 562949953421312) = (M : Int) := hor
              go_wp2_with (go_at_call 42; with_reducible refine T.mono ?_; rintro e w2 ⟨rfl, R2, O2⟩; have HR2 := hid R2; have HO2 := hid O2; clear R2 O2)
              go_ret
              refine ⟨HO.out.trans HO2.out, ?_⟩
              rw [HE2.out]
              exact ⟨rfl, HR2.out⟩
            · replace hor : bits .or .u64 (N : Int) ((y : Int) % 128 * 72057594037927936) = (M : Int) := hor
              go_wp2_with (go_at_call 42; with_reducible refine T.mono ?_; rintro e w2 ⟨rfl, R2, O2⟩; have HR2 := hid R2; have HO2 := hid O2; clear R2 O2)
              go_ret
              refine ⟨HO.out.trans HO2.out, ?_⟩
              rw [HE2.out]
              exact ⟨rfl, HR2.out⟩
            · replace hor : bits .or .u64 (N : Int) ((y : Int) % 128 * 9223372036854775808) = (M : Int) := hor
              have hy1 : y ≤ 1 := by omega
              go_wp2_with (go_at_call 42; with_reducible refine T.mono ?_; rintro e w2 ⟨rfl, R2, O2⟩; have HR2 := hid R2; have HO2 := hid O2; clear R2 O2)
              go_ret
              refine ⟨HO.out.trans HO2.out, ?_⟩
              rw [HE2.out]
              exact ⟨rfl, HR2.out⟩
        · have hk8 : k ≤ 8 := by omega
          have HE2 : Hid (res = aheadN (N + 128 ^ k * (c.toNat % 128)) (k + 1) (numG (k + 1) r)) := by
            show _ = _
            rw [HE.out, ahead_more hA hB]
          have HM : Hid (N + 128 ^ k * (c.toNat % 128) < 128 ^ (k + 1)) := by
            show _ < _
            rw [Nat.pow_succ]
            have h1 : 128 ^ k * (c.toNat % 128) ≤ 128 ^ k * 127 := Nat.mul_le_mul_left _ (by omega)
            omega
          have h64 : N + 128 ^ k * (c.toNat % 128) < 18446744073709551616 := num_fits8 hk8 HM.out
          have hor := or_group'' N c.toNat k hN h64
          generalize N + 128 ^ k * (c.toNat % 128) = M at *
          generalize c.toNat = y at *
          have e0 : ((y : Int) == 0) = false := beq_eq_false_iff_ne.2 (by omega)
          clear HE h64 hN
          have hkk : k = 0 ∨ k = 1 ∨ k = 2 ∨ k = 3 ∨ k = 4 ∨ k = 5 ∨ k = 6 ∨ k = 7 ∨ k = 8 := by omega
          rcases hkk with rfl | rfl | rfl | rfl | rfl | rfl | rfl | rfl | rfl
          · replace hor : bits .or .u64 (N : Int) ((y : Int) % 128) = (M : Int) := by simpa using hor
            go_wp2_with (go_at_call 42; with_reducible refine T.mono ?_; rintro e w2 ⟨rfl, R2, O2⟩; have HR2 := hid R2; have HO2 := hid O2; clear R2 O2)
            go_roundw
            case rel => exact ⟨1, M, r, by decide, rfl, rfl, HM.out, HE2.out, by omega, HR2.out, HO.out.trans HO2.out⟩
            case measure => simp [RowKit.intOf]
          · replace hor : bits .or .u64 (N : Int) ((y : Int) % 128 * 128) = (M : Int) := hor
            go_wp2_with (go_at_call 42; with_reducible refine T.mono ?_; rintro e w2 ⟨rfl, R2, O2⟩; have HR2 := hid R2; have HO2 := hid O2; clear R2 O2)
            go_roundw
            case rel => exact ⟨2, M, r, by decide, rfl, rfl, HM.out, HE2.out, by omega, HR2.out, HO.out.trans HO2.out⟩
            case measure => simp [RowKit.intOf]
          · replace hor : bits .or .u64 (N : Int) ((y : Int) % 128 * 16384) = (M : Int) := hor
            go_wp2_with (go_at_call 42; with_reducible refine T.mono ?_; rintro e w2 ⟨rfl, R2, O2⟩; have HR2 := hid R2; have HO2 := hid O2; clear R2 O2)
            go_roundw
            case rel => exact ⟨3, M, r, by decide, rfl, rfl, HM.out, HE2.out, by omega, HR2.out, HO.out.trans HO2.out⟩
            case measure => simp [RowKit.intOf]
          · replace hor : bits .or .u64 (N : Int) ((y : Int) % 128 * 2097152) = (M : Int) := hor
            go_wp2_with (go_at_call 42; with_reducible refine T.mono ?_; rintro e w2 ⟨rfl, R2, O2⟩; have HR2 := hid R2; have HO2 := hid O2; clear R2 O2)
            go_roundw
            case rel => exact ⟨4, M, r, by decide, rfl, rfl, HM.out, HE2.out, by omega, HR2.out, HO.out.trans HO2.out⟩
            case measure => simp [RowKit.intOf]
          · replace hor : bits .or .u64 (N : Int) ((y : Int) % 128 * 268435456) = (M : Int) := hor
            go_wp2_with (go_at_call 42; with_reducible refine T.mono ?_; rintro e w2 ⟨rfl, R2, O2⟩; have HR2 := hid R2; have HO2 := hid O2; clear R2 O2)
            go_roundw
            case rel => exact ⟨5, M, r, by decide, rfl, rfl, HM.out, HE2.out, by omega, HR2.out, HO.out.trans HO2.out⟩
            case measure => simp [RowKit.intOf]
          · replace hor : bits .or .u64 (N : Int) ((y : Int) % 128 * 34359738368) = (M : Int) := hor
            go_wp2_with (go_at_call 42; with_reducible refine T.mono ?_; rintro e w2 ⟨rfl, R2, O2⟩; have HR2 := hid R2; have HO2 := hid O2; clear R2 O2)
            go_roundw
            case rel => exact ⟨6, M, r, by decide, rfl, rfl, HM.out, HE2.out, by omega, HR2.out, HO.out.trans HO2.out⟩
            case measure => simp [RowKit.intOf]
          · replace hor : bits .or .u64 (N : Int) ((y : Int) % 128 * 4398046511104) = (M : Int) := hor
            go_wp2_with (go_at_call 42; with_reducible refine T.mono ?_; rintro e w2 ⟨rfl, R2, O2⟩; have HR2 := hid R2; have HO2 := hid O2; clear R2 O2)
            go_roundw
            case rel => exact ⟨7, M, r, by decide, rfl, rfl, HM.out, HE2.out, by omega, HR2.out, HO.out.trans HO2.out⟩
            case measure => simp [RowKit.intOf]
          · replace hor : bits .or .u64 (N : Int) ((y : Int) % 128 * 562949953421312) = (M : Int) := hor
            go_wp2_with (go_at_call 42; with_reducible refine T.mono ?_; rintro e w2 ⟨rfl, R2, O2⟩; have HR2 := hid R2; have HO2 := hid O2; clear R2 O2)
            go_roundw
            case rel => exact ⟨8, M, r, by decide, rfl, rfl, HM.out, HE2.out, by omega, HR2.out, HO.out.trans HO2.out⟩
            case measure => simp [RowKit.intOf]
          · replace hor : bits .or .u64 (N : Int) ((y : Int) % 128 * 72057594037927936) = (M : Int) := hor
            go_wp2_with (go_at_call 42; with_reducible refine T.mono ?_; rintro e w2 ⟨rfl, R2, O2⟩; have HR2 := hid R2; have HO2 := hid O2; clear R2 O2)
            go_roundw
            case rel => exact ⟨9, M, r, by decide, rfl, rfl, HM.out, HE2.out, by omega, HR2.out, HO.out.trans HO2.out⟩
            case measure => simp [RowKit.intOf]
end Go.Proofs.Ytaoeonbhlpnjiaa
