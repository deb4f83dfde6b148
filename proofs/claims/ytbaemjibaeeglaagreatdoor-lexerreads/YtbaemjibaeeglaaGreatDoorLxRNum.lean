/- What the document's number and quoted answer. Condition: the text lies within the reach. -/
import Derived.Test.YtbaemjibaeeglaaGreatDoorLxRef
namespace Go.Proofs.YtbaemjibaeeglaaGreatDoor
open Go.RowKit Go.Lib Go.Sort
set_option linter.unusedVariables false
set_option maxRecDepth 20000

theorem valD_snoc : ∀ (l : List UInt8) (n : Nat) (c : UInt8), valD n (l ++ [c]) = 10 * valD n l + (c.toNat - 48)
  | [], n, c => rfl
  | d :: l, n, c => valD_snoc l _ c
theorem valD_pre : ∀ (l r : List UInt8) (n : Nat), valD n l ≤ valD n (l ++ r)
  | [], r, n => valD_ge r n
  | d :: l, r, n => valD_pre l r _

/-- A number that was read, or none. -/
def nvI : Option Int → Int
  | some v => v
  | none => 0
def nvB : Option Int → Bool
  | some _ => true
  | none => false

set_option maxHeartbeats 4000000 in
theorem rnumber_any (s : ByteArray) (w : World) (hs : s.size ≤ 140737488351232) (hd : ∀ c ∈ s.data.toList, isD c = true) :
    Calls Tryz.prog 35 #[.string s] w fun e w' => e = .returned (.tuple #[.int .i64 (nvI (numD s.data.toList)), .bool (nvB (numD s.data.toList))]) ∧ w' = w := by
  obtain ⟨R, HR⟩ : ∃ R, Hid (numD s.data.toList = R) := ⟨_, rfl⟩
  rw [HR.out]
  go_enter Tryz.func35, Tryz.ntmps35
  go_wp2_with fail
  go_loopw [4, 5] (fun v i wr => ∃ (k m : Nat), v = .int .u64 m ∧ i = .int .i64 k ∧ k ≤ s.size ∧ m ≤ 9223372036854775807 ∧ Hid (valD 0 (s.data.toList.take k) = m) ∧ wr = w) (fun _ i _ => s.size - (RowKit.intOf i).toNat)
  case atStart => exact ⟨0, 0, rfl, rfl, Nat.zero_le _, Nat.zero_le _, rfl, rfl⟩
  case round =>
    obtain ⟨k, m, rfl, rfl, hk, hm, hV, hww⟩ := hrel
    by_cases hlt : k < s.size
    · have hkz : (k : Int) < s.size := by omega
      have hc := (isD_iff s[k]).1 (hd _ (by rw [show s[k] = s.data.toList[k]'(by simpa using hlt) from rfl]; exact List.getElem_mem _))
      have HN : Hid (valD 0 (s.data.toList.take (k + 1)) = 10 * m + (s[k].toNat - 48)) := by
        show _ = _
        rw [take_at s hlt, valD_snoc, hV.out]
      have HP : Hid (valD 0 (s.data.toList.take (k + 1)) ≤ valD 0 s.data.toList) := by
        have := valD_pre (s.data.toList.take (k + 1)) (s.data.toList.drop (k + 1)) 0
        rw [List.take_append_drop] at this
        exact this
      obtain ⟨d, hdv⟩ : ∃ d, s[k].toNat = 48 + d := ⟨s[k].toNat - 48, by omega⟩
      have hd9 : d ≤ 9 := by omega
      have hdi : (s[k].toNat : Int) - 48 = (d : Int) := by omega
      have h48 : (48 : Int) ≤ (s[k].toNat : Int) := by omega
      have h57 : (s[k].toNat : Int) ≤ 57 := by omega
      rw [show s[k].toNat - 48 = d by omega] at HN
      clear hc hdv hV
      by_cases hov : 10 * m + d ≤ 9223372036854775807
      · have hq : ¬ (((9223372036854775807 - (d : Int)) / 10) < (m : Int)) := by omega
        have HN2 : Hid (valD 0 (s.data.toList.take (k + 1)) = 10 * m + d) := HN
        clear HN HP
        go_wp2_with fail
        go_roundw
        case rel => exact ⟨k + 1, 10 * m + d, by go_num, by go_num, by omega, by omega, HN2, trivial⟩
        case measure => simp [RowKit.intOf]; omega
      · have hq : ((9223372036854775807 - (d : Int)) / 10) < (m : Int) := by omega
        have HE : Hid (R = none) := by
          show _ = _
          rw [← HR.out]
          unfold numD
          rw [if_neg (by have := HP.out; rw [HN.out] at this; omega)]
        clear HN HP
        go_wp2_with fail
        go_ret2
        rw [HE.out]
        exact ⟨rfl, rfl⟩
    · have hkz : ¬ (k : Int) < s.size := by omega
      have HE : Hid (R = some (m : Int)) := by
        show _ = _
        rw [← HR.out]
        have := hV.out
        rw [List.take_of_length_le (by simp; omega)] at this
        unfold numD
        rw [this, if_pos hm]
      clear hV
      go_wp2_with fail
      go_ret2
      rw [HE.out]
      exact ⟨rfl, rfl⟩
end Go.Proofs.YtbaemjibaeeglaaGreatDoor
