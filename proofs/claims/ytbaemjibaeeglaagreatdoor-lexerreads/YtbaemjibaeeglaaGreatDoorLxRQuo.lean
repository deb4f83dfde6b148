/- What the document's quoted and symbol answer. Condition: the text lies within the reach. -/
import Derived.Test.YtbaemjibaeeglaaGreatDoorLxRNum
namespace Go.Proofs.YtbaemjibaeeglaaGreatDoor
open Go.RowKit Go.Lib Go.Sort
set_option linter.unusedVariables false
set_option maxRecDepth 20000

/-- The parts of what is read between quotes. -/
def qs : Option (List UInt8 × Nat) → List UInt8
  | none => []
  | some x => x.1
def qe : Option (List UInt8 × Nat) → Nat
  | none => 0
  | some x => x.2
def qb : Option (List UInt8 × Nat) → Bool
  | none => false
  | some _ => true

set_option maxHeartbeats 4000000 in
theorem rquoted_any (s : ByteArray) (p : Nat) (w : World) (hp : p < s.size) (hs : s.size ≤ 140737488351232) :
    Calls Tryz.prog 36 #[.string s, .int .i64 p] w fun e w' => e = .returned (.tuple #[.string ⟨(qs (quo (s.data.toList.drop (p + 1)) [] (p + 1))).toArray⟩, .int .i64 (qe (quo (s.data.toList.drop (p + 1)) [] (p + 1)) : Int), .bool (qb (quo (s.data.toList.drop (p + 1)) [] (p + 1)))]) ∧ Below w.heap.size w w' := by
  obtain ⟨R, HR⟩ : ∃ R, Hid (quo (s.data.toList.drop (p + 1)) [] (p + 1) = R) := ⟨_, rfl⟩
  rw [HR.out]
  go_enter Tryz.func36, Tryz.ntmps36
  go_wp2_with fail
  go_loopw [7, 8] (fun v i wr => ∃ (k : Nat) (acc : List UInt8), i = .int .i64 k ∧ p + 1 ≤ k ∧ k ≤ s.size ∧ acc.length ≤ k ∧ Hid (quo (s.data.toList.drop k) acc k = R) ∧ Hid (LB wr w.heap.size v acc) ∧ Hid (Below w.heap.size w wr)) (fun _ i _ => s.size - (RowKit.intOf i).toNat)
  case atStart => exact ⟨p + 1, [], by go_num, Nat.le_refl _, by omega, Nat.zero_le _, HR, lb_nil _ _, Below.refl _ _⟩
  case round =>
    obtain ⟨k, acc, rfl, hk1, hk, hacc, hQ, hB, bel⟩ := hrel
    by_cases hlt : k < s.size
    · have HD := hid (drop_at s hlt)
      have hkz : (k : Int) < s.size := by omega
      cases hc : (((s[k].toNat : Nat) : Int) == 39) with
      | true =>
        have h39 := byte_is39 hc
        by_cases hlt2 : k + 1 < s.size
        · have HD2 := hid (drop_at s hlt2)
          have hkz2 : ((k : Int) + 1) < s.size := by omega
          cases hd : (((s[k + 1].toNat : Nat) : Int) == 39) with
          | true =>
            have h39' := byte_is39 hd
            have HN : Hid (quo (s.data.toList.drop (k + 2)) (acc ++ [39]) (k + 2) = R) := by
              show _ = _
              rw [← hQ.out, HD.out, HD2.out, h39, h39', quo_q2]
            clear hQ HD HD2 h39 h39'
            go_wp2_with (at_builtin; refine lbApp _ w.heap.size _ _ _ _ acc 39 _ rfl rfl rfl rfl rfl rfl hB.out (by omega) bel.out.size ?_; intro v' w' O' b'; have HO' := hid O'; have B' := hid (bel.out.trans b'); clear O' b')
            go_roundw
            case rel => exact ⟨k + 2, acc ++ [39], by go_num, by omega, by omega, by simp; omega, HN, HO', B'⟩
            case measure => simp [RowKit.intOf]; omega
          | false =>
            have h39' := byte_ne39 hd
            have HN : Hid (R = some (acc, k + 1)) := by
              show _ = _
              rw [← hQ.out, HD.out, HD2.out, h39, quo_q3 h39']
            have hcv := lb_conv hB.out
            clear hQ HD HD2 h39 h39' hB
            go_wp2_with fail
            refine bodyPost_ret (by simp [results, Tryz.results36, go_sem]; try rfl) rfl ?_
            exact ⟨by rw [HN.out]; rfl, bel.out⟩
        · have hkz2 : ¬ ((k : Int) + 1) < s.size := by omega
          have HN : Hid (R = some (acc, k + 1)) := by
            show _ = _
            rw [← hQ.out, HD.out, drop_end s (by omega), h39, quo_q1]
          have hcv := lb_conv hB.out
          clear hQ HD h39 hB
          go_wp2_with fail
          refine bodyPost_ret (by simp [results, Tryz.results36, go_sem]; try rfl) rfl ?_
          exact ⟨by rw [HN.out]; rfl, bel.out⟩
      | false =>
        have h39 := byte_ne39 hc
        have HN : Hid (quo (s.data.toList.drop (k + 1)) (acc ++ [s[k]]) (k + 1) = R) := by
          show _ = _
          rw [← hQ.out, HD.out, quo_ne h39]
        clear hQ HD h39
        go_wp2_with (at_builtin; refine lbApp _ w.heap.size _ _ _ _ acc s[k] _ rfl rfl rfl rfl rfl rfl hB.out (by omega) bel.out.size ?_; intro v' w' O' b'; have HO' := hid O'; have B' := hid (bel.out.trans b'); clear O' b')
        go_roundw
        case rel => exact ⟨k + 1, acc ++ [s[k]], by go_num, by omega, by omega, by simp; omega, HN, HO', B'⟩
        case measure => simp [RowKit.intOf]; omega
    · have HN : Hid (R = none) := by
        show _ = _
        rw [← hQ.out, drop_end s (by omega)]
        rfl
      have hkz : ¬ (k : Int) < s.size := by omega
      clear hQ
      go_wp2_with fail
      refine bodyPost_ret (by simp [results, Tryz.results36, go_sem]; try rfl) rfl ?_
      exact ⟨by rw [HN.out]; rfl, bel.out⟩

theorem sym_ext (s : ByteArray) (m : Nat) : s.extract 0 m = ⟨(s.data.toList.take m).toArray⟩ := by
  have := ext0 s m
  rw [← this]

set_option maxHeartbeats 4000000 in
theorem rsymbol_any (s : ByteArray) (w : World) (h : 0 < s.size) (hs : s.size ≤ 140737488351232) :
    Calls Tryz.prog 37 #[.string s] w fun e w' => e = .returned (.string ⟨(s.data.toList.take (sym s.data.toList)).toArray⟩) ∧ w' = w := by
  obtain ⟨m, hm⟩ : ∃ m, m = min 2 s.size := ⟨_, rfl⟩
  have HS := hid (sym_text h m hm)
  have HX := hid (sym_ext s)
  have h12 : s.size = 1 ∨ 2 ≤ s.size := by omega
  have H0 : Hid (∀ k, sym s.data.toList = k → (⟨(s.data.toList.take (sym s.data.toList)).toArray⟩ : ByteArray) = s.extract 0 k) := fun k hk => by rw [hk, HX.out k]
  have HZ : Hid (sym s.data.toList = 0 → (⟨(s.data.toList.take (sym s.data.toList)).toArray⟩ : ByteArray) = ⟨#[]⟩) := fun hk => by rw [hk]; rfl
  generalize (⟨(s.data.toList.take (sym s.data.toList)).toArray⟩ : ByteArray) = RB at *
  generalize sym s.data.toList = R at *
  rcases h12 with h1 | h2
  · obtain rfl : m = 1 := by omega
    have hz : (0 : Int) < (s.size : Int) := by omega
    have hz2 : ¬ ((2 : Int) ≤ (s.size : Int)) := by omega
    have HL1 : Hid (is2 (s.extract 0 1).toList = false) := by
      show _ = _
      rw [ext_toList, List.drop_zero, show 1 - 0 = 1 from rfl, data_cons h]
      exact is2_one _
    clear hm HX
    go_enter Tryz.func37, Tryz.ntmps37
    go_wp2
    all_goals go_ret
    all_goals refine ⟨?_, rfl⟩
    all_goals first
      | (rw [HZ.out (by rw [HS.out, HL1.out, is1_none (by assumption) (by assumption) (by assumption) (by assumption) (by assumption) (by assumption) (by assumption) (by assumption) (by assumption) (by assumption) (by assumption) (by assumption) (by assumption)]; rfl)]; rfl)
      | (rw [H0.out 1 (by rw [HS.out, HL1.out, is1_mem (by assumption) (by decide +kernel)]; rfl)]; rfl)
  · obtain rfl : m = 2 := by omega
    have hz : (2 : Int) ≤ (s.size : Int) := by omega
    clear hm HX
    go_enter Tryz.func37, Tryz.ntmps37
    go_wp2
    all_goals go_ret
    all_goals refine ⟨?_, rfl⟩
    all_goals first
      | (exfalso; exact Bool.noConfusion ((show ((s.extract 0 2).toList == [60, 62]) = true by assumption).symm.trans (show ((s.extract 0 2).toList == [60, 62]) = false by assumption)))
      | (exfalso; exact Bool.noConfusion ((show ((s.extract 0 2).toList == [60, 61]) = true by assumption).symm.trans (show ((s.extract 0 2).toList == [60, 61]) = false by assumption)))
      | (exfalso; exact Bool.noConfusion ((show ((s.extract 0 2).toList == [62, 61]) = true by assumption).symm.trans (show ((s.extract 0 2).toList == [62, 61]) = false by assumption)))
      | (exfalso; exact Bool.noConfusion ((show ((s.extract 0 2).toList == [124, 124]) = true by assumption).symm.trans (show ((s.extract 0 2).toList == [124, 124]) = false by assumption)))
      | (rw [HZ.out (by rw [HS.out, is2_none (by assumption) (by assumption) (by assumption) (by assumption), is1_none (by assumption) (by assumption) (by assumption) (by assumption) (by assumption) (by assumption) (by assumption) (by assumption) (by assumption) (by assumption) (by assumption) (by assumption) (by assumption)]; rfl)]; rfl)
      | (rw [H0.out 1 (by rw [HS.out, is2_none (by assumption) (by assumption) (by assumption) (by assumption), is1_mem (by assumption) (by decide +kernel)]; rfl)]; rfl)
      | (rw [H0.out 2 (by rw [HS.out, is2_mem (by assumption) (by decide +kernel)]; rfl)]; rfl)
end Go.Proofs.YtbaemjibaeeglaaGreatDoor
