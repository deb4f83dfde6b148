/- What the document's small, number, quoted and hex answer. Condition: the text lies within the reach. -/
import Derived.Test.YtbaemjibaeeglaaGreatDoorLxFirst
namespace Go.Proofs.YtbaemjibaeeglaaGreatDoor
open Go.RowKit Go.Lib Go.Sort
set_option linter.unusedVariables false
set_option maxRecDepth 20000

set_option maxHeartbeats 1000000 in
theorem rhex_any (c : UInt8) (w : World) :
    Calls Tryz.prog 56 #[.int .u8 (c.toNat : Int)] w fun e w' => e = .returned (.int .i64 (hx (bi c))) ∧ w' = w := by
  have hc := c.toNat_lt
  unfold bi
  generalize c.toNat = n at *
  have D := fun w => rdigit_any (n : Int) w
  have hd := dig_iff (n : Int)
  have HH : Hid (hx (n : Int) = if dig (n : Int) then (n : Int) - 48 else if 97 ≤ (n : Int) ∧ (n : Int) ≤ 102 then (n : Int) - 87 else if 65 ≤ (n : Int) ∧ (n : Int) ≤ 70 then (n : Int) - 55 else -1) := rfl
  rw [HH.out]
  clear HH
  generalize dig (n : Int) = d at *
  cases d with
  | true =>
    have hd' := hd.1 rfl
    rw [if_pos rfl]
    clear hd
    go_enter Tryz.func56, Tryz.ntmps56
    go_wp2_with (go_at_call 33; with_reducible refine (D _).mono ?_; rintro e w2 ⟨rfl, hw⟩; subst hw)
    go_ret
    exact ⟨rfl, rfl⟩
  | false =>
    rw [if_neg (by simp)]
    by_cases h1 : 97 ≤ n ∧ n ≤ 102
    · rw [if_pos (by omega)]
      obtain ⟨h1a, h1b⟩ := h1
      have h1a' : (97 : Int) ≤ n := by omega
      have h1b' : (n : Int) ≤ 102 := by omega
      clear hd
      go_enter Tryz.func56, Tryz.ntmps56
      go_wp2_with (go_at_call 33; with_reducible refine (D _).mono ?_; rintro e w2 ⟨rfl, hw⟩; subst hw)
      go_ret
      exact ⟨xint (by omega), rfl⟩
    · rw [if_neg (by omega)]
      by_cases h2 : 65 ≤ n ∧ n ≤ 70
      · rw [if_pos (by omega)]
        obtain ⟨h2a, h2b⟩ := h2
        have h2a' : (65 : Int) ≤ n := by omega
        have h2b' : (n : Int) ≤ 70 := by omega
        have h3 : ¬ (97 : Int) ≤ n := by omega
        clear hd h1
        go_enter Tryz.func56, Tryz.ntmps56
        go_wp2_with (go_at_call 33; with_reducible refine (D _).mono ?_; rintro e w2 ⟨rfl, hw⟩; subst hw)
        go_ret
        exact ⟨xint (by omega), rfl⟩
      · rw [if_neg (by omega)]
        clear hd
        go_enter Tryz.func56, Tryz.ntmps56
        go_wp2_with (go_at_call 33; with_reducible refine (D _).mono ?_; rintro e w2 ⟨rfl, hw⟩; subst hw)
        all_goals first
          | (go_ret; exact ⟨rfl, rfl⟩)
          | (exfalso; omega)

theorem low_hi {c : UInt8} (h1 : 65 ≤ c.toNat) (h2 : c.toNat ≤ 90) : ((lowerB c).toNat : Int) = (c.toNat : Int) + 32 := by
  have hc := c.toNat_lt
  unfold lowerB
  have : isUpperB c = true := by unfold isUpperB; simp [UInt8.le_iff_toNat_le]; omega
  rw [if_pos this]
  simp [UInt8.toNat_add]
  omega
theorem low_no {c : UInt8} (h : ¬ (65 ≤ c.toNat ∧ c.toNat ≤ 90)) : lowerB c = c := by
  unfold lowerB
  have : isUpperB c = false := by unfold isUpperB; simp [UInt8.le_iff_toNat_le]; omega
  rw [this]
  rfl
theorem take_at (s : ByteArray) {k : Nat} (h : k < s.size) : s.data.toList.take (k + 1) = s.data.toList.take k ++ [s[k]] := by
  rw [List.take_succ_eq_append_getElem (by simpa using h)]; rfl

set_option maxHeartbeats 4000000 in
theorem rsmall_any (s : ByteArray) (w : World) (hs : s.size ≤ 140737488351232) :
    Calls Tryz.prog 34 #[.string s] w fun e w' => e = .returned (.string ⟨(toLowerA s.data.toList).toArray⟩) ∧ Below w.heap.size w w' := by
  obtain ⟨R, HR⟩ : ∃ R, Hid (toLowerA s.data.toList = R) := ⟨_, rfl⟩
  rw [HR.out]
  go_enter Tryz.func34, Tryz.ntmps34
  go_wp2_with fail
  go_loopw [3, 4] (fun v i wr => ∃ k : Nat, i = .int .i64 k ∧ k ≤ s.size ∧ Hid (LB wr w.heap.size v (toLowerA (s.data.toList.take k))) ∧ Hid (Below w.heap.size w wr)) (fun _ i _ => s.size - (RowKit.intOf i).toNat)
  case atStart => exact ⟨0, rfl, Nat.zero_le _, lb_nil _ _, Below.refl _ _⟩
  case round =>
    obtain ⟨k, rfl, hk, hO, bel⟩ := hrel
    have hlen : (toLowerA (s.data.toList.take k)).length = k := by simp [toLowerA]; omega
    by_cases hlt : k < s.size
    · have hkz : (k : Int) < s.size := by omega
      have HN : Hid (toLowerA (s.data.toList.take (k + 1)) = toLowerA (s.data.toList.take k) ++ [lowerB s[k]]) := by
        show _ = _
        rw [take_at s hlt]
        simp [toLowerA]
      have hc := s[k].toNat_lt
      by_cases hup : 65 ≤ s[k].toNat ∧ s[k].toNat ≤ 90
      · have HL := hid (low_hi hup.1 hup.2)
        have h1 : (65 : Int) ≤ (s[k].toNat : Int) := by omega
        have h2 : (s[k].toNat : Int) ≤ 90 := by omega
        have HLN := hid hlen
        clear hup hlen
        generalize toLowerA (s.data.toList.take k) = l at *
        go_wp2_with (at_builtin; refine lbApp _ w.heap.size _ _ _ _ l (lowerB s[k]) _ rfl rfl rfl rfl rfl HL.out hO.out (by rw [HLN.out]; omega) bel.out.size ?_; intro v' w' O' b'; have HO' := hid O'; have B' := hid (bel.out.trans b'); clear O' b')
        go_roundw
        case rel => exact ⟨k + 1, by go_num, by omega, by rw [HN.out]; exact HO', B'⟩
        case measure => simp [RowKit.intOf]; omega
      · have HL : Hid (((lowerB s[k]).toNat : Int) = (s[k].toNat : Int)) := by rw [low_no hup]; rfl
        have HLN := hid hlen
        clear hlen
        generalize toLowerA (s.data.toList.take k) = l at *
        go_wp2_with (at_builtin; refine lbApp _ w.heap.size _ _ _ _ l (lowerB s[k]) _ rfl rfl rfl rfl rfl HL.out hO.out (by rw [HLN.out]; omega) bel.out.size ?_; intro v' w' O' b'; have HO' := hid O'; have B' := hid (bel.out.trans b'); clear O' b')
        all_goals first
          | (go_roundw
             case rel => exact ⟨k + 1, by go_num, by omega, by rw [HN.out]; exact HO', B'⟩
             case measure => simp [RowKit.intOf]; omega)
          | (exfalso; omega)
    · have hkz : ¬ (k : Int) < s.size := by omega
      have hcv := lb_conv hO.out
      have HE : Hid (toLowerA (s.data.toList.take k) = R) := by
        show _ = _
        rw [← HR.out, List.take_of_length_le (by simp; omega)]
      rw [HE.out] at hcv
      clear hlen hO
      go_wp2_with fail
      go_ret
      exact ⟨rfl, bel.out⟩
end Go.Proofs.YtbaemjibaeeglaaGreatDoor
