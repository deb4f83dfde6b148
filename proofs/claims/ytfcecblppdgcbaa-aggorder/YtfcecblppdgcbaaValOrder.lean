/- The order of values is one, as plain mathematics: turned about, its sign turns; what stands ahead of something stands ahead of all behind that; right values stand alike only if they are the same. No program is named here. No conditions. -/
import Derived.Test.YtfcecblppdgcbaaValPlain
namespace Go.Proofs.Ytfcecblppdgcbaa
open Go.Lib (compareBytes)

theorem compareBytes_turn : ∀ a b : List UInt8, compareBytes a b = -compareBytes b a
  | [], [] => by simp [compareBytes]
  | [], _ :: _ => by simp [compareBytes]
  | _ :: _, [] => by simp [compareBytes]
  | x :: a, y :: b => by
    have ih := compareBytes_turn a b
    simp only [compareBytes]
    by_cases h1 : x < y
    · rw [if_pos h1, if_neg (fun h => absurd (UInt8.lt_trans h1 h) (UInt8.lt_irrefl x)), if_pos h1]
    · by_cases h2 : y < x
      · rw [if_neg h1, if_pos h2, if_pos h2]; rfl
      · rw [if_neg h1, if_neg h2, if_neg h2, if_neg h1]; exact ih

theorem compareBytes_zero : ∀ a b : List UInt8, compareBytes a b = 0 → a = b
  | [], [], _ => rfl
  | [], _ :: _, h => by simp [compareBytes] at h
  | _ :: _, [], h => by simp [compareBytes] at h
  | x :: a, y :: b, h => by
    simp only [compareBytes] at h
    by_cases h1 : x < y
    · rw [if_pos h1] at h; omega
    · by_cases h2 : y < x
      · rw [if_neg h1, if_pos h2] at h; omega
      · rw [if_neg h1, if_neg h2] at h
        have : x = y := UInt8.le_antisymm (UInt8.not_lt.1 h2) (UInt8.not_lt.1 h1)
        rw [this, compareBytes_zero a b h]

theorem compareBytes_self (a : List UInt8) : compareBytes a a = 0 := by have := compareBytes_turn a a; omega

theorem compareBytes_trans : ∀ a b c : List UInt8, compareBytes a b ≤ 0 → compareBytes b c ≤ 0 → compareBytes a c ≤ 0 ∧ ((compareBytes a b = 0 ∧ compareBytes b c = 0) ∨ compareBytes a c < 0)
  | [], [], [], _, _ => by simp [compareBytes]
  | [], [], _ :: _, _, _ => by simp [compareBytes]
  | [], _ :: _, [], _, h => by simp [compareBytes] at h
  | [], _ :: _, _ :: _, _, _ => by simp [compareBytes]
  | _ :: _, [], _, h, _ => by simp [compareBytes] at h
  | _ :: _, _ :: _, [], _, h => by simp [compareBytes] at h
  | x :: a, y :: b, z :: c, h1, h2 => by
    have ih := compareBytes_trans a b c
    simp only [compareBytes] at *
    by_cases e1 : x < y
    · rw [if_pos e1] at *
      by_cases e2 : y < z
      · rw [if_pos (UInt8.lt_trans e1 e2)]; omega
      · by_cases e3 : z < y
        · rw [if_neg e2, if_pos e3] at h2; omega
        · have : y = z := UInt8.le_antisymm (UInt8.not_lt.1 e3) (UInt8.not_lt.1 e2)
          subst this
          rw [if_pos e1]; omega
    · by_cases e1' : y < x
      · rw [if_neg e1, if_pos e1'] at h1; omega
      · have : x = y := UInt8.le_antisymm (UInt8.not_lt.1 e1') (UInt8.not_lt.1 e1)
        subst this
        rw [if_neg (UInt8.lt_irrefl x), if_neg (UInt8.lt_irrefl x)] at *
        by_cases e2 : x < z
        · rw [if_pos e2] at *; omega
        · by_cases e3 : z < x
          · rw [if_neg e2, if_pos e3] at h2; omega
          · simp only [e2, e3, if_false] at *
            exact ih h1 h2

theorem cmpI_turn (a b : Int) : cmpI a b = -cmpI b a := by unfold cmpI; split <;> split <;> (try split) <;> omega
theorem cmpI_trans (a b c : Int) (h1 : cmpI a b ≤ 0) (h2 : cmpI b c ≤ 0) : cmpI a c ≤ 0 ∧ ((cmpI a b = 0 ∧ cmpI b c = 0) ∨ cmpI a c < 0) := by
  unfold cmpI at *
  split at h1 <;> split at h2 <;> (try split at h1) <;> (try split at h2) <;> (split <;> (try split)) <;> omega
theorem cmpI_zero {a b : Int} (h : cmpI a b = 0) : a = b := by unfold cmpI at h; split at h <;> (try split at h) <;> omega

/-- How values of one kind stand. -/
def sameKind (k : Int) (a b : Val) : Int := if k = 3 ∨ k = 4 then compareBytes a.s.data.toList b.s.data.toList else if k = 1 ∨ k = 2 then cmpI a.n b.n else 0
theorem cmpV_split (a b : Val) : cmpV a b = if a.k < b.k then -1 else if b.k < a.k then 1 else sameKind a.k a b := rfl

theorem sameKind_turn (k : Int) (a b : Val) : sameKind k a b = -sameKind k b a := by
  unfold sameKind
  split
  · exact compareBytes_turn _ _
  · split
    · exact cmpI_turn _ _
    · rfl
theorem sameKind_trans (k : Int) (a b c : Val) (h1 : sameKind k a b ≤ 0) (h2 : sameKind k b c ≤ 0) : sameKind k a c ≤ 0 ∧ ((sameKind k a b = 0 ∧ sameKind k b c = 0) ∨ sameKind k a c < 0) := by
  unfold sameKind at *
  split
  · simp_all only [if_true]
    exact compareBytes_trans _ _ _ h1 h2
  · split
    · simp_all only [if_true, if_false]
      exact cmpI_trans _ _ _ h1 h2
    · simp_all

theorem cmpV_turn (a b : Val) : cmpV a b = -cmpV b a := by
  rw [cmpV_split, cmpV_split]
  by_cases h1 : a.k < b.k
  · rw [if_pos h1, if_neg (by omega), if_pos h1]
  · by_cases h2 : b.k < a.k
    · rw [if_neg h1, if_pos h2, if_pos h2]; rfl
    · have : a.k = b.k := by omega
      rw [if_neg h1, if_neg h2, if_neg h2, if_neg h1, this]
      exact sameKind_turn _ _ _
theorem cmpV_self (a : Val) : cmpV a a = 0 := by have := cmpV_turn a a; omega
theorem cmpV_trans (a b c : Val) (h1 : cmpV a b ≤ 0) (h2 : cmpV b c ≤ 0) : cmpV a c ≤ 0 ∧ ((cmpV a b = 0 ∧ cmpV b c = 0) ∨ cmpV a c < 0) := by
  have s1 := cmpV_split a b
  have s2 := cmpV_split b c
  have s3 := cmpV_split a c
  by_cases e1 : a.k < b.k
  · rw [if_pos e1] at s1
    by_cases e3 : c.k < b.k
    · rw [if_neg (by omega), if_pos e3] at s2; omega
    · rw [if_pos (by omega)] at s3; omega
  · by_cases e1' : b.k < a.k
    · rw [if_neg e1, if_pos e1'] at s1; omega
    · have hk : a.k = b.k := by omega
      rw [if_neg e1, if_neg e1'] at s1
      by_cases e2 : b.k < c.k
      · rw [if_pos (by omega)] at s3; omega
      · by_cases e3 : c.k < b.k
        · rw [if_neg e2, if_pos e3] at s2; omega
        · rw [if_neg e2, if_neg e3] at s2
          rw [if_neg (by omega), if_neg (by omega)] at s3
          rw [hk] at s1 s3
          have := sameKind_trans b.k a b c (by omega) (by omega)
          omega
theorem cmpV_kinds {a b : Val} (h : cmpV a b = 0) : a.k = b.k ∧ sameKind a.k a b = 0 := by
  rw [cmpV_split] at h
  by_cases h1 : a.k < b.k
  · rw [if_pos h1] at h; omega
  · by_cases h2 : b.k < a.k
    · rw [if_neg h1, if_pos h2] at h; omega
    · rw [if_neg h1, if_neg h2] at h; exact ⟨by omega, h⟩
end Go.Proofs.Ytfcecblppdgcbaa
