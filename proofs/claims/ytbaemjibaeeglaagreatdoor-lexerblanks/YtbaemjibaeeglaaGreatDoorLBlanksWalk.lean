/- The law LexerBlanks returns true and writes nothing that was there. Conditions: the texts lie within the reach; the library's variables hold what their text lays. -/
import Derived.Test.YtbaemjibaeeglaaGreatDoorLCatWalk
import Derived.Test.YtbaemjibaeeglaaGreatDoorLxBlankP
namespace Go.Proofs.YtbaemjibaeeglaaGreatDoor
open Go.RowKit Go.Lib Go.Sort
set_option linter.unusedVariables false
set_option maxRecDepth 20000

theorem toks_errplace : ∀ (f : Nat) (l : List UInt8) (i j : Nat), toks f l i = .error j → j < i + l.length
  | 0, _, _, j, h => by simp [toks] at h
  | f + 1, [], i, j, h => by simp [toks] at h
  | f + 1, c :: r, i, j, h => by
    rw [toks] at h
    by_cases hb : blk (bi c) = true
    · rw [if_pos hb] at h
      have := toks_errplace f r _ j h
      simp
      omega
    · rw [if_neg hb] at h
      by_cases hR : isR (c :: r) = true
      · rw [if_pos hR] at h
        have := toks_errplace f _ _ j h
        have hle := cntW_le notLF (c :: r)
        rw [List.length_drop] at this
        omega
      · rw [if_neg hR] at h
        cases h1 : first1 (c :: r) with
        | none =>
          rw [h1] at h
          simp only [Except.error.injEq] at h
          simp
          omega
        | some y =>
          obtain ⟨t, k⟩ := y
          have hk := first1_ge h1
          rw [h1] at h
          simp only [] at h
          cases h2 : toks f ((c :: r).drop k) (i + k) with
          | ok ys => rw [h2] at h; simp [Except.map] at h
          | error j' =>
            rw [h2] at h
            simp only [Except.map, Except.error.injEq] at h
            subst h
            have := toks_errplace f _ _ _ h2
            have hk2 := hk.2
            rw [List.length_drop] at this
            omega
/-- A slice of numbers in memory. -/
def NR (w : World) (p : Option Addr) (zs : List Int) : Prop :=
  zs = [] ∨ ∃ b off, p = some ⟨b, off, none⟩ ∧ ∀ i (h : i < zs.length), w.cell? ⟨b, off + i, none⟩ = some (.int .i64 zs[i])
theorem NR.below {w w' : World} {p : Option Addr} {zs : List Int} (h : NR w p zs) (hb : Below w.heap.size w w') : NR w' p zs := by
  rcases h with h | ⟨b, off, hp, hc⟩
  · exact Or.inl h
  · exact Or.inr ⟨b, off, hp, fun i hi => lxbelow_cell hb (hc i hi)⟩
theorem NR.at {w : World} {p : Option Addr} {zs : List Int} (h : NR w p zs) {i : Nat} (hi : i < zs.length) : ∃ b off, p = some ⟨b, off, none⟩ ∧ w.cell? ⟨b, off + i, none⟩ = some (.int .i64 zs[i]) := by
  rcases h with h | ⟨b, off, hp, hc⟩
  · subst h; simp at hi
  · exact ⟨b, off, hp, hc i hi⟩

theorem dlen (s : ByteArray) : s.data.toList.length = s.size := by simp
theorem sz_app1 (S : ByteArray) (c : UInt8) : (S ++ ⟨#[c]⟩ : ByteArray).size = S.size + 1 := by simp [ByteArray.size_append]; rfl
theorem data_app (S T : ByteArray) : (S ++ T).data.toList = S.data.toList ++ T.data.toList := by simp
theorem blk_app {S : ByteArray} {c : UInt8} (h : ∀ x ∈ S.data.toList, blk (bi x) = true) (hc : blk (bi c) = true) : ∀ x ∈ (S ++ ⟨#[c]⟩ : ByteArray).data.toList, blk (bi x) = true := fun x hx => by
  rw [data_app] at hx
  rcases List.mem_append.1 hx with hx | hx
  · exact h x hx
  · obtain rfl : x = c := by simpa using hx
    exact hc
theorem tmod4 (z : Int) : (IntKind.u64.wrap z).tmod 4 = 0 ∨ (IntKind.u64.wrap z).tmod 4 = 1 ∨ (IntKind.u64.wrap z).tmod 4 = 2 ∨ (IntKind.u64.wrap z).tmod 4 = 3 := by
  rw [IntKind.wrap_u64, Int.tmod_eq_emod_of_nonneg (by omega)]
  omega
theorem idx0 (w : World) : (Instr.index 40 (.agg #[.string ⟨#[32]⟩, .string ⟨#[9]⟩, .string ⟨#[10]⟩, .string ⟨#[13]⟩]) (.int .i64 0)).run Tryz.prog w = .ok (.string ⟨#[32]⟩) w := by kernel_rfl
theorem idx1 (w : World) : (Instr.index 40 (.agg #[.string ⟨#[32]⟩, .string ⟨#[9]⟩, .string ⟨#[10]⟩, .string ⟨#[13]⟩]) (.int .i64 1)).run Tryz.prog w = .ok (.string ⟨#[9]⟩) w := by kernel_rfl
theorem idx2 (w : World) : (Instr.index 40 (.agg #[.string ⟨#[32]⟩, .string ⟨#[9]⟩, .string ⟨#[10]⟩, .string ⟨#[13]⟩]) (.int .i64 2)).run Tryz.prog w = .ok (.string ⟨#[10]⟩) w := by kernel_rfl
theorem idx3 (w : World) : (Instr.index 40 (.agg #[.string ⟨#[32]⟩, .string ⟨#[9]⟩, .string ⟨#[10]⟩, .string ⟨#[13]⟩]) (.int .i64 3)).run Tryz.prog w = .ok (.string ⟨#[13]⟩) w := by kernel_rfl
/-- Blanks, and then what a remark begins with. -/
def Ahd (S : ByteArray) (A R : List UInt8) : Prop := S.data.toList = A ++ 45 :: 45 :: R ∧ (∀ c ∈ A, blk (bi c) = true) ∧ (∀ c ∈ R, notLF c = true)

set_option maxHeartbeats 8000000 in
theorem lblanks_core (zs : List Int) (pa : Option Addr) (ca : Nat) (r t : ByteArray) (nA nR : Nat) (w : World) (hN : NR w pa zs) (hm : zs.length ≤ maxLen) (hr : r.size ≤ 140737488351232) (ht : t.size ≤ 140737488351232) (hw : Rdy w) (hE : ErrT w)
    (hA : (nA = zs.length ∧ zs.length ≤ 50) ∨ (nA = 50 ∧ 50 < zs.length)) (hR : (nR = r.size ∧ r.size ≤ 100) ∨ (nR = 100 ∧ 100 < r.size)) :
    Calls Tryz.prog 5 #[.slice pa zs.length ca, .string r, .string t] w fun e w' => e = .returned (.bool true) ∧ Below w.heap.size w w' := by
  have C0 := hid (works_any w hw hE)
  have HW := hid hw
  have HE := hid hE
  have HN := hid hN
  unfold maxLen at hm
  have nA50 : nA ≤ 50 := by omega
  have nAl : nA ≤ zs.length := by omega
  have nRl : nR ≤ r.size := by omega
  have nR100 : nR ≤ 100 := by omega
  clear hw hE hN
  rcases hA with ⟨eA, lA⟩ | ⟨eA, lA⟩ <;> rcases hR with ⟨eR, lR⟩ | ⟨eR, lR⟩
  all_goals (
    go_enter Tryz.func5, Tryz.ntmps5
    go_wp2_with (go_at_call 11; with_reducible refine C0.out.mono ?_; rintro e w1 ⟨rfl, b1⟩; have B1 := hid b1; clear b1)
    go_loopw [7, 8] (fun v i wr => ∃ (k : Nat) (S : ByteArray), v = .string S ∧ i = .int .i64 k ∧ k ≤ nA ∧ S.size = k ∧ Hid (∀ c ∈ S.data.toList, blk (bi c) = true) ∧ wr = w1) (fun _ i _ => nA - (RowKit.intOf i).toNat)
    case atStart => exact ⟨0, ⟨#[]⟩, rfl, rfl, Nat.zero_le _, rfl, fun c hc => by simp at hc, rfl⟩
    case round =>
      obtain ⟨k, S, rfl, rfl, hk, hS, hB, hww⟩ := hrel
      by_cases hlt : k < nA
      · have hkl : k < zs.length := by omega
        have hk50 : (k : Int) < 50 := by omega
        have hkz : (k : Int) < (zs.length : Int) := by omega
        obtain ⟨bz, oz, rfl, z0⟩ := (HN.out.below B1.out).at hkl
        generalize zs[k] = z at *
        have h4 := tmod4 z
        have i0 := idx0
        have i1 := idx1
        have i2 := idx2
        have i3 := idx3
        rcases h4 with h4 | h4 | h4 | h4
        all_goals (
          go_wp2_with fail
          go_roundw
          case rel => exact ⟨k + 1, _, rfl, by go_num, by omega, by rw [sz_app1, hS], blk_app hB.out (by decide), trivial⟩
          case measure => simp [RowKit.intOf]; omega)
      · have hkA : k = nA := by omega
        have hSA : S.size ≤ 50 := by omega
        obtain ⟨A, HA⟩ : ∃ A, Hid (S.data.toList = A) := ⟨_, rfl⟩
        have HS0 : Hid (Ahd (S ++ ⟨#[45, 45]⟩) A []) := ⟨by rw [data_app, HA.out], by rw [← HA.out]; exact hB.out, fun c hc => by simp at hc⟩
        have hS2 : (S ++ ⟨#[45, 45]⟩ : ByteArray).size = S.size + 2 := by simp [ByteArray.size_append]; rfl
        have hgz : ¬ ((k : Int) < (zs.length : Int)) ∨ ¬ ((k : Int) < 50) := by omega
        clear hB hS hlt
        go_wp2_with fail
        have hSl : (S ++ ⟨#[45, 45]⟩ : ByteArray).size ≤ 52 := by omega
        clear hS2 hSA
        generalize (S ++ ⟨#[45, 45]⟩ : ByteArray) = S0 at *
        go_loopw [7, 9] (fun v i wy => ∃ (j : Nat) (S : ByteArray) (R : List UInt8), v = .string S ∧ i = .int .i64 j ∧ j ≤ nR ∧ S.size ≤ 52 + j ∧ Hid (Ahd S A R) ∧ wy = w1) (fun _ i _ => nR - (RowKit.intOf i).toNat)
        case atStart => exact ⟨0, S0, [], rfl, rfl, Nat.zero_le _, hSl, HS0, rfl⟩
        case round =>
          obtain ⟨j, S1, R, rfl, rfl, hj, hSj, hAh, hwy⟩ := hrel
          by_cases hjl : j < nR
          · have hjr : j < r.size := by omega
            have hj100 : (j : Int) < 100 := by omega
            have hjz : (j : Int) < (r.size : Int) := by omega
            cases hc : (((r[j].toNat : Nat) : Int) == 10) with
            | true =>
              go_wp2_with fail
              go_roundw
              case rel => exact ⟨j + 1, S1, R, rfl, by go_num, by omega, by omega, hAh, trivial⟩
              case measure => simp [RowKit.intOf]; omega
            | false =>
              have hex : (r.extract j (j + 1)).data.toList = [r[j]] := by
                rw [ext_data, drop_at r hjr, show j + 1 - j = 1 by omega]
                rfl
              have hexs : (r.extract j (j + 1)).size = 1 := by
                rw [← dlen, hex]
                rfl
              have HN : Hid (Ahd (S1 ++ r.extract j (j + 1)) A (R ++ [r[j]])) := ⟨by rw [data_app, hAh.out.1, hex]; simp, hAh.out.2.1, fun c hc' => by
                rcases List.mem_append.1 hc' with hc' | hc'
                · exact hAh.out.2.2 c hc'
                · obtain rfl : c = r[j] := by simpa using hc'
                  unfold notLF bi
                  rw [hc]
                  rfl⟩
              have hsz : (S1 ++ r.extract j (j + 1)).size ≤ 52 + (j + 1) := by
                rw [ByteArray.size_append, hexs]
                omega
              clear hex hexs
              go_wp2_with fail
              go_roundw
              case rel => exact ⟨j + 1, _, R ++ [r[j]], rfl, by go_num, by omega, hsz, HN, trivial⟩
              case measure => simp [RowKit.intOf]; omega
          · have hjR : j = nR := by omega
            have hgr : ¬ ((j : Int) < (r.size : Int)) ∨ ¬ ((j : Int) < 100) := by omega
            have hSf : (S1 ++ ⟨#[10]⟩ : ByteArray).size ≤ 153 := by rw [sz_app1]; omega
            have HSd : Hid ((S1 ++ ⟨#[10]⟩ : ByteArray).data.toList = A ++ (45 :: 45 :: R ++ [10])) := by
              show _ = _
              rw [data_app, hAh.out.1]
              simp
            have HAB := hid hAh.out.2
            have hS1 : S1.size ≤ 152 := by omega
            clear hAh hSj hjl
            by_cases hbig : 16184 < t.size
            · have hbz : (16184 : Int) < (t.size : Int) := by omega
              go_wp2_with fail
              go_ret
              exact ⟨rfl, B1.out⟩
            · have hbz : ¬ ((16184 : Int) < (t.size : Int)) := by omega
              have hdl : ((S1 ++ ⟨#[10]⟩ : ByteArray).data.toList).length = A.length + R.length + 3 := by rw [HSd.out]; simp; omega
              obtain ⟨D, hD⟩ : ∃ D, D = (S1 ++ ⟨#[10]⟩ : ByteArray).size := ⟨_, rfl⟩
              have hDD : A.length + R.length + 3 = D := by rw [hD, ← hdl, dlen]
              have hcat : (S1 ++ ⟨#[10]⟩ ++ t ++ ⟨#[10, 32, 45, 45, 32, 101, 110, 100]⟩ : ByteArray).data.toList = A ++ (45 :: 45 :: R ++ 10 :: (t.data.toList ++ 10 :: tailE)) := by
                rw [data_app, data_app, HSd.out]
                simp [tailE]
              have hcs : (S1 ++ ⟨#[10]⟩ ++ t ++ ⟨#[10, 32, 45, 45, 32, 101, 110, 100]⟩ : ByteArray).size ≤ 16384 := by
                have e8 : (⟨#[10, 32, 45, 45, 32, 101, 110, 100]⟩ : ByteArray).size = 8 := rfl
                rw [ByteArray.size_append, ByteArray.size_append, e8]
                omega
              have htl : t.data.toList.length = t.size := dlen t
              have hclen : (S1 ++ ⟨#[10]⟩ ++ t ++ ⟨#[10, 32, 45, 45, 32, 101, 110, 100]⟩ : ByteArray).data.toList.length ≤ 16384 := by
                rw [dlen]
                exact hcs
              have hab := toksOf_about A R t.data.toList HAB.out.1 HAB.out.2
              rw [← hcat, hDD] at hab
              have hDi : ((S1 ++ ⟨#[10]⟩ : ByteArray).size : Int) = (D : Int) := by rw [hD]
              have hDb : D ≤ 153 := by omega
              clear hD hdl hDD hcat HSd HAB
              have hDi2 : (S1.size : Int) + 1 = (D : Int) := by have := sz_app1 S1 10; omega
              cases hT : toksOf t.data.toList with
              | error q =>
                have h1 : lexR t.data.toList = .error (q, 20) := by
                  unfold lexR
                  rw [if_neg (by omega), hT]
                  rfl
                rw [hT] at hab
                have h2 : lexR (S1 ++ ⟨#[10]⟩ ++ t ++ ⟨#[10, 32, 45, 45, 32, 101, 110, 100]⟩ : ByteArray).data.toList = .error (q + D, 20) := by
                  unfold lexR
                  rw [if_neg (by omega), hab]
                  rfl
                have hqb : q ≤ 16184 := by
                  have := toks_errplace _ _ _ _ hT
                  omega
                have C1 := hid (fun w hw => xtok_err t q 20 w ht hw h1)
                have C2 := hid (fun w hw => xtok_err (S1 ++ ⟨#[10]⟩ ++ t ++ ⟨#[10, 32, 45, 45, 32, 101, 110, 100]⟩) (q + D) 20 w (by omega) hw h2)
                obtain ⟨Q, hQ⟩ : ∃ Q, Q = q + D := ⟨_, rfl⟩
                rw [← hQ] at C2
                have hQi : (q : Int) + (D : Int) = (Q : Int) := by omega
                clear hT hab h1 h2 hQ hcs hclen htl
                go_wp2_with (first
                  | (go_at_call 7; with_reducible refine (C1.out _ (HW.out.below B1.out)).mono ?_; rintro e w2 ⟨p2, rfl, x0, x1, b2⟩; have B2 := hid (B1.out.trans (b2.mono B1.out.size)); have X0 := hid x0; have X1 := hid x1; clear b2 x0 x1 C1)
                  | (go_at_call 7; with_reducible refine (C2.out _ (HW.out.below B2.out)).mono ?_; rintro e w3 ⟨p3, rfl, y0, y1, b3⟩; have B3 := hid (B2.out.trans (b3.mono B2.out.size)); have C3 := hid (seen_fault p2 q 20 w3 (HE.out.below B3.out) (lxbelow_cell b3 X0.out) (lxbelow_cell b3 X1.out)); have Y0 := hid y0; have Y1 := hid y1; clear b3 y0 y1 C2)
                  | (go_at_call 9; with_reducible refine C3.out.mono ?_; rintro e w4 ⟨rfl, b4⟩; have B4 := hid (B3.out.trans (b4.mono B3.out.size)); have C4 := hid (seen_fault p3 Q 20 w4 (HE.out.below B4.out) (lxbelow_cell b4 Y0.out) (lxbelow_cell b4 Y1.out)); clear b4 C3)
                  | (go_at_call 9; with_reducible refine C4.out.mono ?_; rintro e w5 ⟨rfl, b5⟩; have B5 := hid (B4.out.trans (b5.mono B4.out.size)); clear b5 C4))
                go_ret
                exact ⟨rfl, (B5.out.alloc B5.out.size _).alloc (by have := B5.out.size; simp; omega) _⟩
              | ok xs =>
                have h1 : lexR t.data.toList = .ok xs := lexR_of (by omega) hT
                rw [hT] at hab
                have h2 : lexR (S1 ++ ⟨#[10]⟩ ++ t ++ ⟨#[10, 32, 45, 45, 32, 101, 110, 100]⟩ : ByteArray).data.toList = .ok (xs.map fun z => (z.1, z.2 + D)) := lexR_of hclen hab
                have C1 := hid (fun w hw => xtok_ok t xs w ht hw h1)
                have C2 := hid (fun w hw => xtok_ok (S1 ++ ⟨#[10]⟩ ++ t ++ ⟨#[10, 32, 45, 45, 32, 101, 110, 100]⟩) _ w (by omega) hw h2)
                have hxl : xs.length ≤ 16184 := by have := toks_len _ _ _ _ hT; omega
                have hpl := toks_place _ _ _ _ hT
                have hml : (xs.map fun z => (z.1, z.2 + D)).length = xs.length := by simp
                rw [hml] at C2
                have HZ : Hid (∀ k (h : k < xs.length) (h' : k < (xs.map fun z => (z.1, z.2 + D)).length), (xs.map fun z => (z.1, z.2 + D))[k] = (xs[k].1, xs[k].2 + D)) := fun k h h' => by simp
                have HML := hid hml
                have HPL : Hid (∀ k (h : k < xs.length), xs[k].2 < t.size) := fun k h => by
                  have := hpl _ (List.getElem_mem h)
                  omega
                have C3 := hid (fun w => seen_nil w)
                clear hT hab h1 h2 hcs hclen htl hpl hml
                generalize (xs.map fun z => (z.1, z.2 + D)) = ms at *
                go_wp2_with (first
                  | (go_at_call 7; with_reducible refine (C1.out _ (HW.out.below B1.out)).mono ?_; rintro e w2 ⟨p2, c2, rfl, x0, x1, b2⟩; have B2 := hid (B1.out.trans (b2.mono B1.out.size)); have T2 := hid x0; clear b2 x0 x1 C1)
                  | (go_at_call 7; with_reducible refine (C2.out _ (HW.out.below B2.out)).mono ?_; rintro e w3 ⟨p3, c3, rfl, y0, y1, b3⟩; have B3 := hid (B2.out.trans (b3.mono B2.out.size)); have T3 := hid y0; have T23 := hid (T2.out.below b3); clear b3 y0 y1 C2)
                  | (go_at_call 9; with_reducible refine (C3.out w3).mono ?_; rintro e w4 ⟨rfl, b4⟩; have B4 := hid (B3.out.trans (b4.mono B3.out.size)); have T24 := hid (T23.out.below b4); have T34 := hid (T3.out.below b4); clear b4 T23 T3)
                  | (go_at_call 9; with_reducible refine (C3.out w4).mono ?_; rintro e w5 ⟨rfl, b5⟩; have B5 := hid (B4.out.trans (b5.mono B4.out.size)); have T25 := hid (T24.out.below b5); have T35 := hid (T34.out.below b5); clear b5 T24 T34 C3))
                have B6 : Below w.heap.size w ((w5.alloc (.cells #[.int .i64 0, .int .i64 0] 29)).alloc (.cells #[.int .i64 0, .int .i64 0] 29)) := (B5.out.alloc B5.out.size _).alloc (by have := B5.out.size; simp; omega) _
                have b56 : Below w5.heap.size w5 ((w5.alloc (.cells #[.int .i64 0, .int .i64 0] 29)).alloc (.cells #[.int .i64 0, .int .i64 0] 29)) := ((Below.refl _ _).alloc (Nat.le_refl _) _).alloc (by simp) _
                have T26 := hid (T25.out.below b56)
                have T36 := hid (T35.out.below b56)
                have HB6 := hid B6
                clear B6 b56 T25 T35
                generalize ((w5.alloc (.cells #[.int .i64 0, .int .i64 0] 29)).alloc (.cells #[.int .i64 0, .int .i64 0] 29)) = w6 at *
                go_loopw [16] (fun i wz => ∃ k : Nat, i = .int .i64 k ∧ k ≤ xs.length ∧ Hid (Below w6.heap.size w6 wz)) (fun i _ => xs.length - (RowKit.intOf i).toNat)
                case atStart => exact ⟨0, rfl, Nat.zero_le _, Below.refl _ _⟩
                case round =>
                  obtain ⟨k, rfl, hk, belz⟩ := hrel
                  by_cases hlt3 : k < xs.length
                  · have hkz3 : (k : Int) < (xs.length : Int) := by omega
                    have hkm : k < ms.length := by rw [HML.out]; exact hlt3
                    obtain ⟨bz, oz, rfl, z0, z1, z2, z3⟩ := (T36.out.below belz.out).at hkm
                    obtain ⟨bx, ox, rfl, x0, x1, x2, x3⟩ := (T26.out.below belz.out).at hlt3
                    rw [HZ.out k hlt3 hkm] at z0 z1 z2 z3
                    have hpb := HPL.out k hlt3
                    generalize xs[k] = u at *
                    obtain ⟨⟨uk, us, un⟩, ui⟩ := u
                    simp only [] at z0 z1 z2 z3 x0 x1 x2 x3 hpb
                    obtain ⟨q, hq⟩ : ∃ q, q = ui + D := ⟨_, rfl⟩
                    rw [← hq] at z2
                    have hqi : (q : Int) - (D : Int) = (ui : Int) := by omega
                    have hqb : q ≤ 281474976710656 := by omega
                    clear hq
                    go_wp2_with fail
                    have bA : Below wr.heap.size wr (wr.alloc (.cells #[.int .i64 uk, .string ⟨us.toArray⟩, .int .i64 (ui : Int), .int .i64 un] 38)) := (Below.refl _ _).alloc (Nat.le_refl _) _
                    have t0 : (wr.alloc (.cells #[.int .i64 uk, .string ⟨us.toArray⟩, .int .i64 (ui : Int), .int .i64 un] 38)).cell? ⟨wr.heap.size, 0, none⟩ = some (.int .i64 uk) := by go_simp
                    have t1 : (wr.alloc (.cells #[.int .i64 uk, .string ⟨us.toArray⟩, .int .i64 (ui : Int), .int .i64 un] 38)).cell? ⟨wr.heap.size, 1, none⟩ = some (.string ⟨us.toArray⟩) := by go_simp
                    have t2 : (wr.alloc (.cells #[.int .i64 uk, .string ⟨us.toArray⟩, .int .i64 (ui : Int), .int .i64 un] 38)).cell? ⟨wr.heap.size, 2, none⟩ = some (.int .i64 (ui : Int)) := by go_simp
                    have t3 : (wr.alloc (.cells #[.int .i64 uk, .string ⟨us.toArray⟩, .int .i64 (ui : Int), .int .i64 un] 38)).cell? ⟨wr.heap.size, 3, none⟩ = some (.int .i64 un) := by go_simp
                    have y0 := lxbelow_cell bA x0
                    have y1 := lxbelow_cell bA x1
                    have y2 := lxbelow_cell bA x2
                    have y3 := lxbelow_cell bA x3
                    have BW := hid (belz.out.trans (bA.mono belz.out.size))
                    clear x0 x1 x2 x3 z0 z1 z2 z3 bA belz
                    generalize wr.alloc (.cells #[.int .i64 uk, .string ⟨us.toArray⟩, .int .i64 (ui : Int), .int .i64 un] 38) = W at *
                    go_quiet (fail)
                    go_wp2_with fail
                    go_roundw
                    case rel => exact ⟨k + 1, by go_num, by omega, below_drewN _ BW.out⟩
                    case measure => simp [RowKit.intOf]; omega
                  · have hkz3 : ¬ (k : Int) < (xs.length : Int) := by omega
                    go_wp2_with fail
                    go_ret
                    exact ⟨rfl, HB6.out.trans (belz.out.mono HB6.out.size)⟩)
theorem lblanks_any (zs : List Int) (pa : Option Addr) (ca : Nat) (r t : ByteArray) (w : World) (hN : NR w pa zs) (hm : zs.length ≤ maxLen) (hr : r.size ≤ 140737488351232) (ht : t.size ≤ 140737488351232) (hw : Rdy w) (hE : ErrT w) :
    Calls Tryz.prog 5 #[.slice pa zs.length ca, .string r, .string t] w fun e w' => e = .returned (.bool true) ∧ Below w.heap.size w w' :=
  lblanks_core zs pa ca r t (min zs.length 50) (min r.size 100) w hN hm hr ht hw hE (by omega) (by omega)
end Go.Proofs.YtbaemjibaeeglaaGreatDoor
