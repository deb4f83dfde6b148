/- What the lexer's sizeOf answers: how many bytes at a text's beginning are such ones. Condition: the text lies within the reach; the function that is handed in tells of each byte. -/
import Derived.Test.YtbaemjibaeeglaaGreatDoorLxSym
namespace Go.Proofs.YtbaemjibaeeglaaGreatDoor
open Go.RowKit Go.Lib Go.Sort
set_option linter.unusedVariables false
set_option maxRecDepth 20000

theorem data_at (s : ByteArray) {k : Nat} (h : k < s.size) : s.data.toList[k]? = some s[k] := by
  simp [h]; rfl
theorem drop_at (s : ByteArray) {k : Nat} (h : k < s.size) : s.data.toList.drop k = s[k] :: s.data.toList.drop (k + 1) := by
  have h' : k < s.data.toList.length := by simpa using h
  rw [List.drop_eq_getElem_cons h']
  rfl
theorem drop_end (s : ByteArray) {k : Nat} (h : s.size ≤ k) : s.data.toList.drop k = [] := List.drop_eq_nil_of_le (by simpa using h)
theorem cntW_hit {p : UInt8 → Bool} {c : UInt8} {r : List UInt8} (h : p c = true) : cntW p (c :: r) = cntW p r + 1 := by rw [cntW, if_pos h]
theorem cntW_miss {p : UInt8 → Bool} {c : UInt8} {r : List UInt8} (h : p c = false) : cntW p (c :: r) = 0 := by rw [cntW, if_neg (by simp [h])]

set_option maxHeartbeats 1000000 in
theorem sizeOf_digit (s : ByteArray) (w : World) (hs : s.size ≤ 140737488351232) :
    Calls Tryz.prog 50 #[.string s, .func (.func 24) #[] #[]] w fun e w' => e = .returned (.int .i64 (cntW isD s.data.toList)) ∧ w' = w := by
  have HE : Hid (cntW isD s.data.toList = 0 + cntW isD (s.data.toList.drop 0)) := by simp [Hid]
  obtain ⟨R, HR⟩ : ∃ R, Hid (cntW isD s.data.toList = R) := ⟨_, rfl⟩
  rw [HR.out] at HE ⊢
  go_enter Tryz.func50, Tryz.ntmps50
  go_wp2
  go_loopw [5] (fun i wr => ∃ k : Nat, k ≤ s.size ∧ i = .int .i64 k ∧ Hid (R = k + cntW isD (s.data.toList.drop k)) ∧ wr = w) (fun i _ => s.size - (intOf i).toNat)
  case atStart => exact ⟨0, Nat.zero_le _, rfl, HE, rfl⟩
  case round =>
    obtain ⟨k, hk, rfl, hT, rfl⟩ := hrel
    by_cases hlt : k < s.size
    · have HD := hid (drop_at s hlt)
      have C := hid (fun w => xdigit_any (s[k].toNat : Int) w)
      have HC : Hid (isD s[k] = dig (s[k].toNat : Int)) := rfl
      have hkz : (k : Int) < s.size := by omega
      cases hb : dig (s[k].toNat : Int) with
      | true =>
        rw [hb] at C HC
        have HN : Hid (R = (k + 1) + cntW isD (s.data.toList.drop (k + 1))) := by
          show _ = _
          rw [hT.out, HD.out, cntW_hit HC.out]
          omega
        clear hT hb HC HD HE
        go_wp2_with (go_at_call 24; with_reducible refine (C.out _).mono ?_; rintro e w2 ⟨rfl, hw⟩; subst hw)
        go_roundw
        case rel => exact ⟨k + 1, by omega, by go_num, HN, trivial⟩
        case measure => simp [intOf]; omega
      | false =>
        rw [hb] at C HC
        have HN : Hid (R = k) := by
          show _ = _
          rw [hT.out, HD.out, cntW_miss HC.out]
          omega
        clear hT hb HC HD HE
        go_wp2_with (go_at_call 24; with_reducible refine (C.out _).mono ?_; rintro e w2 ⟨rfl, hw⟩; subst hw)
        go_ret
        exact ⟨by rw [HN.out]; rfl, rfl⟩
    · have HN : Hid (R = k) := by
        show _ = _
        rw [hT.out, drop_end s (by omega)]
        rfl
      have hkz : ¬ (k : Int) < s.size := by omega
      clear hT HE
      go_wp2_with fail
      go_ret
      exact ⟨by rw [HN.out]; rfl, rfl⟩

set_option maxHeartbeats 1000000 in
theorem sizeOf_word (s : ByteArray) (w : World) (hs : s.size ≤ 140737488351232) :
    Calls Tryz.prog 50 #[.string s, .func (.func 53) #[] #[]] w fun e w' => e = .returned (.int .i64 (cntW isW s.data.toList)) ∧ w' = w := by
  have HE : Hid (cntW isW s.data.toList = 0 + cntW isW (s.data.toList.drop 0)) := by simp [Hid]
  obtain ⟨R, HR⟩ : ∃ R, Hid (cntW isW s.data.toList = R) := ⟨_, rfl⟩
  rw [HR.out] at HE ⊢
  go_enter Tryz.func50, Tryz.ntmps50
  go_wp2
  go_loopw [5] (fun i wr => ∃ k : Nat, k ≤ s.size ∧ i = .int .i64 k ∧ Hid (R = k + cntW isW (s.data.toList.drop k)) ∧ wr = w) (fun i _ => s.size - (intOf i).toNat)
  case atStart => exact ⟨0, Nat.zero_le _, rfl, HE, rfl⟩
  case round =>
    obtain ⟨k, hk, rfl, hT, rfl⟩ := hrel
    by_cases hlt : k < s.size
    · have HD := hid (drop_at s hlt)
      have C := hid (fun w => xword_any (s[k].toNat : Int) w)
      have HC : Hid (isW s[k] = wrd (s[k].toNat : Int)) := rfl
      have hkz : (k : Int) < s.size := by omega
      cases hb : wrd (s[k].toNat : Int) with
      | true =>
        rw [hb] at C HC
        have HN : Hid (R = (k + 1) + cntW isW (s.data.toList.drop (k + 1))) := by
          show _ = _
          rw [hT.out, HD.out, cntW_hit HC.out]
          omega
        clear hT hb HC HD HE
        go_wp2_with (go_at_call 53; with_reducible refine (C.out _).mono ?_; rintro e w2 ⟨rfl, hw⟩; subst hw)
        go_roundw
        case rel => exact ⟨k + 1, by omega, by go_num, HN, trivial⟩
        case measure => simp [intOf]; omega
      | false =>
        rw [hb] at C HC
        have HN : Hid (R = k) := by
          show _ = _
          rw [hT.out, HD.out, cntW_miss HC.out]
          omega
        clear hT hb HC HD HE
        go_wp2_with (go_at_call 53; with_reducible refine (C.out _).mono ?_; rintro e w2 ⟨rfl, hw⟩; subst hw)
        go_ret
        exact ⟨by rw [HN.out]; rfl, rfl⟩
    · have HN : Hid (R = k) := by
        show _ = _
        rw [hT.out, drop_end s (by omega)]
        rfl
      have hkz : ¬ (k : Int) < s.size := by omega
      clear hT HE
      go_wp2_with fail
      go_ret
      exact ⟨by rw [HN.out]; rfl, rfl⟩

end Go.Proofs.YtbaemjibaeeglaaGreatDoor
