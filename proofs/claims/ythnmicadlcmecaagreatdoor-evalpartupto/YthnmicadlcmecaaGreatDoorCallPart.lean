/- What calc.part answers. Conditions: the numbers are within the numbers, the text is at most 2^62 bytes. -/
import Derived.Test.YthnmicadlcmecaaGreatDoorCA
import Derived.Laws.DeepStrings4
namespace Go.Proofs.YthnmicadlcmecaaGreatDoor
open Go.RowKit Go.Lib
set_option linter.unusedVariables false
set_option maxRecDepth 20000

/-- The places from lo on, below hi (from 0 on). -/
def loP (p : Int) : Nat := (max p 1 - 1).toNat
def hiP (s : ByteArray) (p n : Int) : Nat := (min ((s.size : Int) + 1) (p + n) - 1).toNat
def partV (s : ByteArray) (p n : Int) : ByteArray := if n ≤ 0 ∨ min ((s.size : Int) + 1) (p + n) ≤ max p 1 then ⟨#[]⟩ else s.extract (loP p) (hiP s p n)

theorem ext_eq {s : ByteArray} {a b c d : Nat} (h : a = c) (k : b = d) : Ending.returned (.string (s.extract a b)) = .returned (.string (s.extract c d)) := by rw [h, k]
theorem ext_all {s : ByteArray} {c d : Nat} (h : c = 0) (k : d = s.size) : Ending.returned (.string s) = .returned (.string (s.extract c d)) := by
  rw [h, k, ByteArray.extract_zero_size]

set_option maxHeartbeats 1000000 in
theorem part_any (s : ByteArray) (p n : Int) (w : World) (hs : s.size ≤ 4611686018427387904) (hp : inR p) (hn : inR n) :
    Calls Tryz.prog 169 #[.string s, .int .i64 p, .int .i64 n] w fun e w' => e = .returned (.string (partV s p n)) ∧ w' = w := by
  obtain ⟨p1, p2⟩ := hp
  obtain ⟨n1, n2⟩ := hn
  by_cases h0 : n ≤ 0
  · rw [show partV s p n = ⟨#[]⟩ from if_pos (Or.inl h0)]
    go_enter Tryz.func169, Tryz.ntmps169
    go_wp2
    go_ret
    exact ⟨rfl, rfl⟩
  · by_cases h1 : p ≤ 9223372036854775807 - n
    · by_cases h2 : (s.size : Int) + 1 ≤ p + n
      · by_cases h3 : p < 1
        · by_cases h4 : (s.size : Int) + 1 ≤ 1
          · rw [show partV s p n = ⟨#[]⟩ from if_pos (Or.inr (by omega))]
            go_enter Tryz.func169, Tryz.ntmps169
            go_wp2
            go_ret
            exact ⟨rfl, rfl⟩
          · rw [show partV s p n = s.extract (loP p) (hiP s p n) from if_neg (by omega)]
            go_enter Tryz.func169, Tryz.ntmps169
            go_wp2
            go_ret
            first | exact ⟨ext_eq (by unfold loP; omega) (by unfold hiP; omega), rfl⟩ | exact ⟨ext_all (by unfold loP; omega) (by unfold hiP; omega), rfl⟩
        · by_cases h4 : (s.size : Int) + 1 ≤ p
          · rw [show partV s p n = ⟨#[]⟩ from if_pos (Or.inr (by omega))]
            go_enter Tryz.func169, Tryz.ntmps169
            go_wp2
            go_ret
            exact ⟨rfl, rfl⟩
          · rw [show partV s p n = s.extract (loP p) (hiP s p n) from if_neg (by omega)]
            go_enter Tryz.func169, Tryz.ntmps169
            go_wp2
            go_ret
            first | exact ⟨ext_eq (by unfold loP; omega) (by unfold hiP; omega), rfl⟩ | exact ⟨ext_all (by unfold loP; omega) (by unfold hiP; omega), rfl⟩
      · by_cases h3 : p < 1
        · by_cases h4 : p + n ≤ 1
          · rw [show partV s p n = ⟨#[]⟩ from if_pos (Or.inr (by omega))]
            go_enter Tryz.func169, Tryz.ntmps169
            go_wp2
            go_ret
            exact ⟨rfl, rfl⟩
          · rw [show partV s p n = s.extract (loP p) (hiP s p n) from if_neg (by omega)]
            go_enter Tryz.func169, Tryz.ntmps169
            go_wp2
            go_ret
            first | exact ⟨ext_eq (by unfold loP; omega) (by unfold hiP; omega), rfl⟩ | exact ⟨ext_all (by unfold loP; omega) (by unfold hiP; omega), rfl⟩
        · by_cases h4 : p + n ≤ p
          · omega
          · rw [show partV s p n = s.extract (loP p) (hiP s p n) from if_neg (by omega)]
            go_enter Tryz.func169, Tryz.ntmps169
            go_wp2
            go_ret
            first | exact ⟨ext_eq (by unfold loP; omega) (by unfold hiP; omega), rfl⟩ | exact ⟨ext_all (by unfold loP; omega) (by unfold hiP; omega), rfl⟩
    · have h2 : (s.size : Int) + 1 ≤ p + n := by omega
      by_cases h3 : p < 1
      · by_cases h4 : (s.size : Int) + 1 ≤ 1
        · rw [show partV s p n = ⟨#[]⟩ from if_pos (Or.inr (by omega))]
          go_enter Tryz.func169, Tryz.ntmps169
          go_wp2
          go_ret
          exact ⟨rfl, rfl⟩
        · rw [show partV s p n = s.extract (loP p) (hiP s p n) from if_neg (by omega)]
          go_enter Tryz.func169, Tryz.ntmps169
          go_wp2
          go_ret
          first | exact ⟨ext_eq (by unfold loP; omega) (by unfold hiP; omega), rfl⟩ | exact ⟨ext_all (by unfold loP; omega) (by unfold hiP; omega), rfl⟩
      · by_cases h4 : (s.size : Int) + 1 ≤ p
        · rw [show partV s p n = ⟨#[]⟩ from if_pos (Or.inr (by omega))]
          go_enter Tryz.func169, Tryz.ntmps169
          go_wp2
          go_ret
          exact ⟨rfl, rfl⟩
        · rw [show partV s p n = s.extract (loP p) (hiP s p n) from if_neg (by omega)]
          go_enter Tryz.func169, Tryz.ntmps169
          go_wp2
          go_ret
          first | exact ⟨ext_eq (by unfold loP; omega) (by unfold hiP; omega), rfl⟩ | exact ⟨ext_all (by unfold loP; omega) (by unfold hiP; omega), rfl⟩
end Go.Proofs.YthnmicadlcmecaaGreatDoor
