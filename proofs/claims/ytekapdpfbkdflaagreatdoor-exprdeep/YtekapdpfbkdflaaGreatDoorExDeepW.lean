/- The law ExprDeep returns true and writes nothing that was there. Conditions: the library's variables hold what their text lays. -/
import Derived.Test.YtekapdpfbkdflaaGreatDoorExTk
import Derived.Test.YtekapdpfbkdflaaGreatDoorExDeepP
import Derived.Test.YtekapdpfbkdflaaGreatDoorExSmal
namespace Go.Proofs.YtekapdpfbkdflaaGreatDoor
open Go.RowKit Go.Lib Go.Sort
set_option linter.unusedVariables false
set_option maxRecDepth 20000

/-- A slice of numbers in memory. -/
def NR (w : World) (p : Option Addr) (zs : List Int) : Prop :=
  zs = [] ∨ ∃ b off, p = some ⟨b, off, none⟩ ∧ ∀ i (h : i < zs.length), w.cell? ⟨b, off + i, none⟩ = some (.int .i64 zs[i])
theorem NR.below {w w' : World} {p : Option Addr} {zs : List Int} (h : NR w p zs) (hb : Below w.heap.size w w') : NR w' p zs := by
  rcases h with h | ⟨b, off, hp, hc⟩
  · exact Or.inl h
  · exact Or.inr ⟨b, off, hp, fun i hi => lxbelow_cell hb (hc i hi)⟩
theorem NR.at {w : World} {p : Option Addr} {zs : List Int} (h : NR w p zs) {i : Nat} (hi : i < zs.length) : ∃ b off, p = some ⟨b, off, none⟩ ∧ w.cell? ⟨b, off + i, none⟩ = some (.int .i64 zs[i]) := by
  rcases h with h | ⟨b, off, hp, hc⟩
  · subst h; simp at hi
  · exact ⟨b, off, hp, hc i hi⟩
theorem ddata_app (S T : ByteArray) : (S ++ T).data.toList = S.data.toList ++ T.data.toList := by simp
theorem dsz_app (S T : ByteArray) : (S ++ T : ByteArray).size = S.size + T.size := by simp [ByteArray.size_append]
theorem tmod3 (z : Int) : (IntKind.u64.wrap z).tmod 3 = 0 ∨ (IntKind.u64.wrap z).tmod 3 = 1 ∨ (IntKind.u64.wrap z).tmod 3 = 2 := by
  rw [IntKind.wrap_u64, Int.tmod_eq_emod_of_nonneg (by omega)]
  omega
theorem tmodN (z : Int) (n : Nat) (hn : 0 < n) : ∃ k : Nat, (IntKind.u64.wrap z).tmod (n : Int) = (k : Int) ∧ k < n := by
  rw [IntKind.wrap_u64, Int.tmod_eq_emod_of_nonneg (by omega)]
  have h1 := Int.emod_nonneg (z % 18446744073709551616) (b := (n : Int)) (by omega)
  have h2 := Int.emod_lt_of_pos (z % 18446744073709551616) (b := (n : Int)) (by omega)
  exact ⟨((z % 18446744073709551616) % (n : Int)).toNat, by omega, by omega⟩
/-- The kind of the i-th. -/
def kd (zs : List Int) (i : Nat) : Nat := match zs[i]? with
  | some z => ((IntKind.u64.wrap z).tmod 3).toNat
  | none => 0
def ksN (zs : List Int) (n : Nat) : List Nat := (List.range n).map (kd zs)
theorem ksN_succ (zs : List Int) (n : Nat) : ksN zs (n + 1) = ksN zs n ++ [kd zs n] := by simp [ksN, List.range_succ]
theorem ksN_len (zs : List Int) (n : Nat) : (ksN zs n).length = n := by simp [ksN]
theorem kd_at {zs : List Int} {k : Nat} (h : k < zs.length) {c : Nat} (hc : (IntKind.u64.wrap zs[k]).tmod 3 = (c : Int)) : kd zs k = c := by
  unfold kd
  rw [List.getElem?_eq_getElem h]
  simp only []
  rw [hc]
  rfl
theorem kd_no {zs : List Int} {k : Nat} (h : ¬ k < zs.length) : kd zs k = 0 := by
  unfold kd
  rw [List.getElem?_eq_none (by omega)]
theorem kd_ahead {A c : ByteArray} {zs : List Int} {k : Nat} (h : A.data.toList = (ksN zs k).flatMap opT) (hc : opT (kd zs k) = c.data.toList) : (A ++ c).data.toList = (ksN zs (k + 1)).flatMap opT := by
  rw [ddata_app, h, ksN_succ, List.flatMap_append, ← hc]
  simp
theorem kd_behind {B : ByteArray} {k : Nat} (h : B.data.toList = List.replicate k 41) : (B ++ ⟨#[41]⟩ : ByteArray).data.toList = List.replicate (k + 1) 41 := by
  rw [ddata_app, h, List.replicate_succ']
theorem kd_deep (zs : List Int) (k : Nat) : deepN (ksN zs (k + 1)) = deepN (ksN zs k) + (if kd zs k = 0 then 1 else if kd zs k = 1 then 1 else 2) := by
  rw [ksN_succ]
  simp [deepN]
theorem chT_snoc : ∀ m : Nat, chT m ++ [32, 43, 32, 49] = chT (m + 1)
  | 0 => rfl
  | m + 1 => by
    show 32 :: 43 :: 32 :: 49 :: (chT m ++ [32, 43, 32, 49]) = 32 :: 43 :: 32 :: 49 :: chT (m + 1)
    rw [chT_snoc m]
theorem chT_more {S : ByteArray} {m : Nat} (h : S.data.toList = 97 :: chT m) : (S ++ ⟨#[32, 43, 32, 49]⟩ : ByteArray).data.toList = 97 :: chT (m + 1) := by
  rw [ddata_app, h, ← chT_snoc]
  rfl
theorem fld_err (a b : Int) (w : World) : (Instr.field 43 (.agg #[.int .i64 a, .int .i64 b]) 1).run Tryz.prog w = .ok (.int .i64 b) w := by kernel_rfl
/-- What is read of it. -/
theorem deep_read {A S B : ByteArray} {zs : List Int} {n m : Nat} (hA : A.data.toList = (ksN zs n).flatMap opT) (hB : B.data.toList = List.replicate n 41) (hS : S.data.toList = 97 :: chT m) (hl : A.size + S.size + B.size ≤ 16384) :
    ∃ T, lexR (A ++ S ++ B).data.toList = .ok T ∧ ((deepN (ksN zs n) : Int) ≤ 32 ∧ (∃ e, (lns 32).orr T = .ok (e, [])) ∨ ¬ (deepN (ksN zs n) : Int) ≤ 32 ∧ ∃ z, (lns 32).orr T = .error (z, 21)) := by
  have hd : (A ++ S ++ B).data.toList = dpT (ksN zs n) m := by
    rw [ddata_app, ddata_app, hA, hB, hS]
    unfold dpT
    rw [ksN_len]
    simp
  obtain ⟨T, h1, h2⟩ := toks_dp (ksN zs n) m
  rw [← hd] at h1
  have h3 := deep_all m (ksN zs n) 32 T [] h2 (Or.inl rfl)
  rw [List.append_nil] at h3
  have hsz : (A ++ S ++ B).data.toList.length ≤ 16384 := by
    have : (A ++ S ++ B).data.toList.length = (A ++ S ++ B).size := rfl
    rw [this, dsz_app (A ++ S) B, dsz_app A S]
    exact hl
  refine ⟨T, lexR_of hsz h1, ?_⟩
  by_cases hk : deepN (ksN zs n) ≤ 32
  · obtain ⟨e, _, he⟩ := h3.1 hk
    exact Or.inl ⟨by omega, e, he⟩
  · obtain ⟨z, _, hz⟩ := h3.2 (by omega)
    exact Or.inr ⟨by omega, z, hz⟩
set_option maxHeartbeats 16000000 in
theorem deep_any (pa : Option Addr) (ca : Nat) (zs : List Int) (n chain : Int) (w : World) (hE : Env w) (hN : NR w pa zs) (hm : zs.length ≤ maxLen) (hn : -9223372036854775808 ≤ n ∧ n ≤ 9223372036854775807) (hc : -9223372036854775808 ≤ chain ∧ chain ≤ 9223372036854775807) :
    Calls Tryz.prog 4 #[.slice pa zs.length ca, .int .i64 n, .int .i64 chain] w fun e w' => e = .returned (.bool true) ∧ Below w.heap.size w w' := by
  have HE := hid hE
  have HN := hid hN
  have CW := hid (works_any w hE)
  unfold maxLen at hm
  obtain ⟨q, hq, hq40⟩ := tmodN n 40 (by decide)
  obtain ⟨m, hmm, hm300⟩ := tmodN chain 300 (by decide)
  have hq' : (IntKind.u64.wrap n).tmod 40 = (q : Int) := hq
  have hm' : (IntKind.u64.wrap chain).tmod 300 = (m : Int) := hmm
  have hqw : IntKind.i64.wrap (q : Int) = (q : Int) := by rw [IntKind.wrap_i64]; omega
  have hmw : IntKind.i64.wrap (m : Int) = (m : Int) := by rw [IntKind.wrap_i64]; omega
  clear hE hN hn hc hq hmm
  go_enter Tryz.func4, Tryz.ntmps4
  go_wp2_with (go_at_call 7; with_reducible refine CW.out.mono ?_; rintro e w1 ⟨rfl, b1⟩; have B1 := hid b1; clear b1)
  go_loopw [7, 8, 9] (fun a b i wr => ∃ (k : Nat) (A B : ByteArray), a = .string A ∧ b = .string B ∧ i = .int .i64 k ∧ k ≤ q ∧ A.size ≤ 5 * k ∧ B.size = k ∧ Hid (A.data.toList = (ksN zs k).flatMap opT) ∧ Hid (B.data.toList = List.replicate k 41) ∧ wr = w1) (fun _ _ i _ => q - (RowKit.intOf i).toNat)
  case atStart => exact ⟨0, ⟨#[]⟩, ⟨#[]⟩, rfl, rfl, rfl, Nat.zero_le _, Nat.le_refl _, rfl, hid (by simp [ksN]), hid rfl, rfl⟩
  case round =>
    obtain ⟨k, A, B, rfl, rfl, rfl, hk, hA, hB, HA, HB, hww⟩ := hrel
    by_cases hlt : k < q
    · have hki : (k : Int) < (q : Int) := by omega
      have HB1 := hid (kd_behind HB.out)
      have z1 : (⟨#[41]⟩ : ByteArray).size = 1 := rfl
      have hBn : (B ++ ⟨#[41]⟩ : ByteArray).size = k + 1 := by rw [dsz_app, z1]; omega
      by_cases hkl : k < zs.length
      · have hkz : (k : Int) < (zs.length : Int) := by omega
        obtain ⟨bz, oz, rfl, z0⟩ := (HN.out.below B1.out).at hkl
        rcases tmod3 zs[k] with h3 | h3 | h3
        · have HA1 := hid (kd_ahead (c := ⟨#[40]⟩) HA.out (by rw [kd_at hkl (c := 0) h3]; rfl))
          have hAn : (A ++ ⟨#[40]⟩ : ByteArray).size ≤ 5 * (k + 1) := by rw [dsz_app]; show A.size + 1 ≤ _; omega
          generalize zs[k] = z at *
          go_wp2_with fail
          go_roundw
          case rel => exact ⟨k + 1, _, _, rfl, rfl, by go_num, by omega, hAn, hBn, HA1, HB1, trivial⟩
          case measure => simp [RowKit.intOf]; omega
        · have HA1 := hid (kd_ahead (c := ⟨#[97, 98, 115, 40]⟩) HA.out (by rw [kd_at hkl (c := 1) h3]; rfl))
          have hAn : (A ++ ⟨#[97, 98, 115, 40]⟩ : ByteArray).size ≤ 5 * (k + 1) := by rw [dsz_app]; show A.size + 4 ≤ _; omega
          generalize zs[k] = z at *
          go_wp2_with fail
          go_roundw
          case rel => exact ⟨k + 1, _, _, rfl, rfl, by go_num, by omega, hAn, hBn, HA1, HB1, trivial⟩
          case measure => simp [RowKit.intOf]; omega
        · have HA1 := hid (kd_ahead (c := ⟨#[40, 110, 111, 116, 32]⟩) HA.out (by rw [kd_at hkl (c := 2) h3]; rfl))
          have hAn : (A ++ ⟨#[40, 110, 111, 116, 32]⟩ : ByteArray).size ≤ 5 * (k + 1) := by rw [dsz_app]; show A.size + 5 ≤ _; omega
          generalize zs[k] = z at *
          go_wp2_with fail
          go_roundw
          case rel => exact ⟨k + 1, _, _, rfl, rfl, by go_num, by omega, hAn, hBn, HA1, HB1, trivial⟩
          case measure => simp [RowKit.intOf]; omega
      · have hkz : ¬ (k : Int) < (zs.length : Int) := by omega
        have HA1 := hid (kd_ahead (c := ⟨#[40]⟩) HA.out (by rw [kd_no hkl]; rfl))
        have hAn : (A ++ ⟨#[40]⟩ : ByteArray).size ≤ 5 * (k + 1) := by rw [dsz_app]; show A.size + 1 ≤ _; omega
        go_wp2_with fail
        go_roundw
        case rel => exact ⟨k + 1, _, _, rfl, rfl, by go_num, by omega, hAn, hBn, HA1, HB1, trivial⟩
        case measure => simp [RowKit.intOf]; omega
    · obtain rfl : k = q := by omega
      have hki : ¬ (k : Int) < (k : Int) := by omega
      go_wp2_with fail
      go_loopw [11, 12] (fun d i wx => ∃ (j D : Nat), d = .int .i64 (D : Int) ∧ i = .int .i64 j ∧ j ≤ k ∧ D ≤ 2 * j ∧ Hid (D = deepN (ksN zs j)) ∧ wx = w1) (fun _ i _ => k - (RowKit.intOf i).toNat)
      case atStart => exact ⟨0, 0, rfl, rfl, Nat.zero_le _, Nat.le_refl _, hid rfl, rfl⟩
      case round =>
        obtain ⟨j, D, rfl, rfl, hj, hD, HD, hwx⟩ := hrel
        by_cases hjl : j < k
        · have hji : (j : Int) < (k : Int) := by omega
          have hkd := kd_deep zs j
          by_cases hjz : j < zs.length
          · have hjzi : (j : Int) < (zs.length : Int) := by omega
            obtain ⟨bz, oz, rfl, z0⟩ := (HN.out.below B1.out).at hjz
            rcases tmod3 zs[j] with h3 | h3 | h3
            · have HD1 : Hid (D + 1 = deepN (ksN zs (j + 1))) := by show _ = _; rw [hkd, kd_at hjz (c := 0) h3, ← HD.out]; rfl
              clear hkd
              generalize zs[j] = z at *
              go_wp2_with fail
              go_roundw
              case rel => exact ⟨j + 1, D + 1, by go_num, by go_num, by omega, by omega, HD1, trivial⟩
              case measure => simp [RowKit.intOf]; omega
            · have HD1 : Hid (D + 1 = deepN (ksN zs (j + 1))) := by show _ = _; rw [hkd, kd_at hjz (c := 1) h3, ← HD.out]; rfl
              clear hkd
              generalize zs[j] = z at *
              go_wp2_with fail
              go_roundw
              case rel => exact ⟨j + 1, D + 1, by go_num, by go_num, by omega, by omega, HD1, trivial⟩
              case measure => simp [RowKit.intOf]; omega
            · have HD1 : Hid (D + 2 = deepN (ksN zs (j + 1))) := by show _ = _; rw [hkd, kd_at hjz (c := 2) h3, ← HD.out]; rfl
              clear hkd
              generalize zs[j] = z at *
              go_wp2_with fail
              go_roundw
              case rel => exact ⟨j + 1, D + 2, by go_num, by go_num, by omega, by omega, HD1, trivial⟩
              case measure => simp [RowKit.intOf]; omega
          · have hjzi : ¬ (j : Int) < (zs.length : Int) := by omega
            have HD1 : Hid (D + 1 = deepN (ksN zs (j + 1))) := by show _ = _; rw [hkd, kd_no hjz, ← HD.out]; rfl
            clear hkd
            go_wp2_with fail
            go_roundw
            case rel => exact ⟨j + 1, D + 1, by go_num, by go_num, by omega, by omega, HD1, trivial⟩
            case measure => simp [RowKit.intOf]; omega
        · obtain rfl : j = k := by omega
          have hji : ¬ (j : Int) < (j : Int) := by omega
          go_wp2_with fail
          go_loopw [13, 14] (fun v i wy => ∃ (t : Nat) (S : ByteArray), v = .string S ∧ i = .int .i64 t ∧ t ≤ m ∧ S.size = 1 + 4 * t ∧ Hid (S.data.toList = 97 :: chT t) ∧ wy = w1) (fun _ i _ => m - (RowKit.intOf i).toNat)
          case atStart => exact ⟨0, ⟨#[97]⟩, rfl, rfl, Nat.zero_le _, rfl, hid rfl, rfl⟩
          case round =>
            obtain ⟨t, S, rfl, rfl, ht, hS, HS, hwy⟩ := hrel
            by_cases htl : t < m
            · have hti : (t : Int) < (m : Int) := by omega
              have HS1 := hid (chT_more HS.out)
              have hSn : (S ++ ⟨#[32, 43, 32, 49]⟩ : ByteArray).size = 1 + 4 * (t + 1) := by rw [dsz_app]; show S.size + 4 = _; omega
              go_wp2_with fail
              go_roundw
              case rel => exact ⟨t + 1, _, rfl, by go_num, by omega, hSn, HS1, trivial⟩
              case measure => simp [RowKit.intOf]; omega
            · obtain rfl : t = m := by omega
              have hti : ¬ (t : Int) < (t : Int) := by omega
              obtain ⟨T, hl, hT⟩ := deep_read HA.out HB.out HS.out (by omega)
              rw [← HD.out] at hT
              have K1 := hid (fun w (h : Env w) => tok_ok (A ++ S ++ B) T w (by rw [dsz_app, dsz_app]; omega) h.ry hl)
              rcases hT with ⟨hd, e, hr⟩ | ⟨hd, z, hr⟩
              · have R1 := hid (fun w p c (h : Env w) (t : TR w p T) => read0_ok (c := c) w t h.gl (lxd_of hl) hr _ rfl)
                clear hl hr HA HB HS HD
                generalize T.length = nT at *
                go_wp2_with (first
                  | (go_at_call 11; with_reducible refine (K1.out w1 (HE.out.below B1.out)).mono ?_; rintro e w2 ⟨p2, c2, rfl, t2, b2⟩; have B2 := hid (B1.out.trans (b2.mono B1.out.size)); have G2 := hid (R1.out w2 p2 c2 (HE.out.below B2.out) t2); clear b2 t2)
                  | (go_at_call 9; with_reducible refine G2.out.mono ?_; rintro e w3 ⟨pe, ce, rfl, q3, b3⟩; have B3 := hid (B2.out.trans (b3.mono B2.out.size)); clear q3 b3)
                  | fail)
                go_ret
                exact ⟨rfl, B3.out.trans ((albl w3 _).mono B3.out.size)⟩
              · have R1 := hid (fun w p c (h : Env w) (t : TR w p T) => read0_err (c := c) w t h.gl (lxd_of hl) hr)
                clear hl hr HA HB HS HD
                generalize T.length = nT at *
                generalize plc T z = np at *
                have hfe := fld_err
                go_wp2_with (first
                  | (go_at_call 11; with_reducible refine (K1.out w1 (HE.out.below B1.out)).mono ?_; rintro e w2 ⟨p2, c2, rfl, t2, b2⟩; have B2 := hid (B1.out.trans (b2.mono B1.out.size)); have G2 := hid (R1.out w2 p2 c2 (HE.out.below B2.out) t2); clear b2 t2)
                  | (go_at_call 9; with_reducible refine G2.out.mono ?_; rintro e w3 ⟨fb, rfl, f3, b3⟩; have B3 := hid (B2.out.trans (b3.mono B2.out.size)); have D6 := hid (fun w (h : Below w3.heap.size w3 w) => seen_fault fb np 21 w (HE.out.er.below (B3.out.trans (h.mono B3.out.size))) (lxbelow_cell h f3.1) (lxbelow_cell h f3.2)); clear f3 b3)
                  | (go_at_call 13; with_reducible refine (D6.out _ (albl w3 _)).mono ?_; rintro e w4 ⟨rfl, b4⟩; have B4 := hid ((B3.out.trans ((albl w3 _).mono B3.out.size)).trans (b4.mono (B3.out.trans ((albl w3 _).mono B3.out.size)).size)); clear b4)
                  | fail)
                go_ret
                refine ⟨?_, B4.out⟩
                show Ending.returned (.bool (!decide ((D : Int) ≤ 32))) = _
                rw [decide_eq_false (by omega)]
                rfl
end Go.Proofs.YtekapdpfbkdflaaGreatDoor
