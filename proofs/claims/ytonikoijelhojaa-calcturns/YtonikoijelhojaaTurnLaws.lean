/- Which operators do not hang on the order of their values; not of and, or of nots. Conditions: values are right, where it says so. -/
import Derived.Test.YtonikoijelhojaaTwoVals
namespace Go.Proofs.Ytonikoijelhojaa
open Go.RowKit Go.Lib Go.Sort
set_option linter.unusedVariables false

theorem fit_turn (op : Int) (a b : Val) (h : op ≤ 10 ∨ op ≠ 16 ∨ op = 16) : fitV op a b = fitV op b a := by
  unfold fitV nullOrV
  split
  · exact Bool.and_comm _ _
  · split
    · cases h1 : (a.k == 0) <;> cases h2 : (b.k == 0) <;> simp_all <;> exact Bool.beq_comm
    · split
      · exact Bool.and_comm _ _
      · exact Bool.and_comm _ _

theorem fit_seven (op op' : Int) (a b : Val) (h1 : 5 ≤ op) (h2 : op ≤ 10) (h3 : 5 ≤ op') (h4 : op' ≤ 10) : fitV op a b = fitV op' a b := by
  unfold fitV
  rw [if_neg (by omega), if_pos h2, if_neg (by omega), if_pos h4]

theorem and_turn (a b : Val) : andV a b = andV b a := by
  unfold andV
  rw [Bool.or_comm]
  simp only [or_comm]
theorem or_turn (a b : Val) : orV a b = orV b a := by
  unfold orV
  rw [Bool.or_comm]
  simp only [or_comm]

def turnOp (k : Nat) : Int := if k = 0 then 4 else if k = 1 then 3 else if k = 2 then 5 else if k = 3 then 6 else if k = 4 then 11 else 13

theorem bin_turn (op : Int) (h : op = 4 ∨ op = 3 ∨ op = 5 ∨ op = 6 ∨ op = 11 ∨ op = 13) (a b : Val) : binV op a b = binV op b a := by
  unfold binV
  rw [fit_turn op a b (by omega), and_turn a b, or_turn a b]
  have hn : (a.k = 0 ∨ b.k = 0) = (b.k = 0 ∨ a.k = 0) := by rw [or_comm]
  have hc := cmpV_turn a b
  have h5 : op ≤ 10 → op ≠ 4 → op ≠ 3 → holdsV op (cmpV a b) = holdsV op (cmpV b a) := by
    intro h1 h2 h3
    rw [hc]
    have : op = 5 ∨ op = 6 := by omega
    have z : (-cmpV b a == 0) = (cmpV b a == 0) := by
      generalize cmpV b a = c
      by_cases hz : c = 0
      · subst hz; rfl
      · rw [beq_eq_false_iff_ne.2 hz, beq_eq_false_iff_ne.2 (by omega : -c ≠ 0)]
    rcases this with rfl | rfl <;> simp [holdsV, z, bne]
  have h11 : 10 < op → sumV op a.n b.n = sumV op b.n a.n := by
    intro h1
    have : op = 11 ∨ op = 13 := by omega
    rcases this with rfl | rfl
    · simp [sumV, Int.add_comm]
    · simp [sumV, Int.mul_comm]
  by_cases h4 : op = 4
  · simp only [h4, if_true]
  by_cases h3 : op = 3
  · simp only [h3, if_true]
  rw [if_neg h4, if_neg h4, if_neg h3, if_neg h3]
  simp only [hn]
  by_cases h10 : op ≤ 10
  · rw [h5 h10 h4 h3]
    simp only [h10, if_true]
  · rw [h11 (by omega)]
    have h16 : op ≠ 16 := by omega
    simp only [h10, h16, if_false]

theorem bin_less (a b : Val) : binV 7 a b = binV 9 b a := by
  unfold binV
  rw [fit_turn 7 a b (by omega), fit_seven 7 9 b a (by decide) (by decide) (by decide) (by decide)]
  have hn : (a.k = 0 ∨ b.k = 0) = (b.k = 0 ∨ a.k = 0) := by rw [or_comm]
  simp only [hn]
  have : holdsV 7 (cmpV a b) = holdsV 9 (cmpV b a) := by
    rw [cmpV_turn a b]; simp [holdsV]
  rw [this]
  rfl

theorem bool_three {a : Val} (hr : rightV a = true) (h : a.k = 0 ∨ a.k = 1) : a = nullV ∨ a = truthV true ∨ a = truthV false := by
  have := rightV_right hr
  obtain ⟨k, n, ⟨⟨s⟩⟩⟩ := a
  simp only [Val.right, Bool.or_eq_true, Bool.and_eq_true, beq_iff_eq, List.isEmpty_iff] at this
  simp only [] at h
  rcases h with rfl | rfl
  · left
    rcases this with ((h1 | h1) | h1) | h1
    · obtain ⟨⟨_, rfl⟩, rfl⟩ := h1; rfl
    all_goals omega
  · right
    rcases this with ((h1 | h1) | h1) | h1
    · omega
    · obtain ⟨⟨_, h2⟩, rfl⟩ := h1
      rcases h2 with rfl | rfl
      · right; rfl
      · left; rfl
    all_goals omega

theorem de_morgan (a b : Val) (ha : rightV a = true) (hb : rightV b = true) (h : (binV 4 a b).e = 0) :
    ∃ q na nb : Val, unV 2 (binV 4 a b).v = ⟨q, 0⟩ ∧ unV 2 a = ⟨na, 0⟩ ∧ unV 2 b = ⟨nb, 0⟩ ∧ binV 3 na nb = ⟨q, 0⟩ ∧ inR na.n ∧ inR nb.n ∧ na.s.size + nb.s.size ≤ maxLen := by
  have hk : (a.k = 0 ∨ a.k = 1) ∧ (b.k = 0 ∨ b.k = 1) := by
    by_cases hf : fitV 4 a b = true
    · unfold fitV nullOrV at hf
      rw [if_pos (by decide)] at hf
      simpa using hf
    · unfold binV at h
      rw [if_neg (by decide), if_pos (by simpa using hf)] at h
      exact absurd h (by decide)
  rcases bool_three ha hk.1 with rfl | rfl | rfl <;> rcases bool_three hb hk.2 with rfl | rfl | rfl <;>
    exact ⟨_, _, _, rfl, rfl, rfl, rfl, by decide, by decide, by decide⟩

theorem and_inR (a b : Val) : inR (binV 4 a b).v.n := by
  unfold binV
  rw [if_neg (by decide)]
  split
  · exact (by decide : inR 0)
  · rw [if_pos rfl]
    unfold andV
    split
    · exact (by decide : inR 0)
    · split
      · exact (by decide : inR 0)
      · exact (by decide : inR 1)
end Go.Proofs.Ytonikoijelhojaa
