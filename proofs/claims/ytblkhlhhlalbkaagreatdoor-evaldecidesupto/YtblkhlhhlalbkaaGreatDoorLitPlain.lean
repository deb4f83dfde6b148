/- Plain mathematics of literals: how a value is written. No program is named here. No conditions. -/
import Derived.Lib.Replace
import Derived.Lib.ItoaNum
namespace Go.Proofs.YtblkhlhhlalbkaaGreatDoor
open Go.Lib

/-- A text with each quote doubled. -/
def rep : List UInt8 → List UInt8
  | [] => []
  | c :: l => if c = 39 then 39 :: 39 :: rep l else c :: rep l

theorem index_hit (l : List UInt8) : index (39 :: l) [39] = 0 := by simp [index, List.isPrefixOf]
theorem index_miss (c : UInt8) (l : List UInt8) (h : c ≠ 39) : index (c :: l) [39] = if index l [39] == -1 then -1 else index l [39] + 1 := by
  have hp : ([39] : List UInt8).isPrefixOf (c :: l) = false := by simp [List.isPrefixOf, Ne.symm h]
  rw [index, hp]; simp

theorem replaceK_miss (new : List UInt8) (c : UInt8) (h : c ≠ 39) : ∀ (k : Nat) (l : List UInt8), replaceK [39] new k (c :: l) = c :: replaceK [39] new k l
  | 0, l => rfl
  | k + 1, l => by
    by_cases hm : index l [39] = -1
    · have e1 : (index (c :: l) [39] == -1) = true := by rw [index_miss c l h, hm]; rfl
      have e2 : (index l [39] == -1) = true := by rw [hm]; rfl
      rw [replaceK, if_pos e1, replaceK, if_pos e2]
    · have hge := index_ge l [39]
      obtain ⟨i, hi⟩ : ∃ i : Nat, index l [39] = i := ⟨(index l [39]).toNat, by omega⟩
      have e1 : index (c :: l) [39] = ((i + 1 : Nat) : Int) := by
        rw [index_miss c l h, hi, if_neg (by simp)]; rfl
      rw [replaceK_hit _ _ _ _ (i + 1) e1, replaceK_hit _ _ _ _ i hi]
      simp

theorem replaceK_rep : ∀ (l : List UInt8) (k : Nat), count l [39] ≤ k → replaceK [39] [39, 39] k l = rep l
  | [], k, _ => by cases k <;> simp [replaceK, rep, index]
  | c :: l, k, h => by
    by_cases hc : c = 39
    · subst hc
      have hcount := count_hit (s := 39 :: l) (sub := [39]) (i := 0) (by simp) (index_hit l)
      simp only [List.length_cons, List.length_nil, Nat.zero_add, List.drop_succ_cons, List.drop_zero] at hcount
      obtain ⟨k', rfl⟩ : ∃ k', k = k' + 1 := ⟨k - 1, by omega⟩
      rw [replaceK_hit _ _ _ _ 0 (index_hit l)]
      simp only [List.take_zero, List.length_cons, List.length_nil, Nat.zero_add, List.drop_succ_cons, List.drop_zero, List.nil_append]
      rw [replaceK_rep l k' (by omega)]
      simp [rep]
    · rw [replaceK_miss _ c hc, replaceK_rep l k (by rw [count_cons_ne c 39 l hc] at h; exact h)]
      simp [rep, hc]

theorem replaceAll_rep (l : List UInt8) : replaceAll l [39] [39, 39] = rep l := by
  unfold replaceAll replace
  rw [if_neg (by simp)]
  exact replaceK_rep l _ (by unfold replaceNum; rw [if_pos (Or.inl (by omega))]; omega)

theorem rep_length_le : ∀ l : List UInt8, l.length ≤ (rep l).length ∧ (rep l).length ≤ 2 * l.length
  | [] => by simp [rep]
  | c :: l => by
    have := rep_length_le l
    unfold rep
    split <;> simp <;> omega

theorem rep_inj : ∀ (a b : List UInt8), rep a = rep b → a = b
  | [], [], _ => rfl
  | [], c :: l, h => by unfold rep at h; split at h <;> simp at h
  | c :: l, [], h => by
    have h' := h
    simp only [rep] at h'
    split at h' <;> simp at h'
  | c :: l, d :: m, h => by
    unfold rep at h
    split at h
    · split at h
      · rename_i h1 h2
        simp only [List.cons.injEq, true_and] at h
        rw [h1, h2, rep_inj l m h]
      · rename_i h1 h2
        simp only [List.cons.injEq] at h
        exact absurd h.1.symm h2
    · split at h
      · rename_i h1 h2
        simp only [List.cons.injEq] at h
        exact absurd h.1 h1
      · simp only [List.cons.injEq] at h
        rw [h.1, rep_inj l m h.2]
end Go.Proofs.YtblkhlhhlalbkaaGreatDoor
