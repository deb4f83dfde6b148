/- What the laws on two values share: a slice of two values; right values; equal values. No conditions. -/
import Derived.Test.YtonikoijelhojaaCalcWorks
import Derived.Test.YtonikoijelhojaaBoxMore
import Derived.Test.YtonikoijelhojaaCalcRight
import Derived.Test.YtonikoijelhojaaValOrder
namespace Go.Proofs.Ytonikoijelhojaa
open Go.RowKit Go.Lib Go.Sort
set_option linter.unusedVariables false

theorem right_same {a b : Val} (ra : a.right = true) (rb : b.right = true) (h : cmpV a b = 0) : a = b := by
  obtain ⟨hk, hs⟩ := cmpV_kinds h
  obtain ⟨k, n, ⟨⟨s⟩⟩⟩ := a
  obtain ⟨k2, n2, ⟨⟨s2⟩⟩⟩ := b
  simp only [] at hk
  subst hk
  simp only [Val.right, Bool.or_eq_true, Bool.and_eq_true, beq_iff_eq, List.isEmpty_iff] at ra rb
  simp only [sameKind] at hs
  by_cases h34 : k = 3 ∨ k = 4
  · rw [if_pos h34] at hs
    have := compareBytes_zero _ _ hs
    subst this
    obtain ⟨rfl, rfl⟩ : n = 0 ∧ n2 = 0 := by omega
    rfl
  · rw [if_neg h34] at hs
    obtain ⟨rfl, rfl⟩ : s = [] ∧ s2 = [] := by
      rcases ra with ((h1 | h1) | h1) | h1 <;> rcases rb with ((h2 | h2) | h2) | h2 <;> first | exact ⟨h1.2, h2.2⟩ | omega
    by_cases h12 : k = 1 ∨ k = 2
    · rw [if_pos h12] at hs
      have := cmpI_zero hs
      subst this
      rfl
    · obtain ⟨rfl, rfl⟩ : n = 0 ∧ n2 = 0 := by omega
      rfl


theorem rowOf2n (w : World) (k1 n1 k2 n2 : Int) (s1 s2 : ByteArray) (t : TypeId) :
    Row (w.alloc (.cells #[.int .i64 k1, .int .i64 n1, .string s1, .int .i64 k2, .int .i64 n2, .string s2] t)) (some ⟨w.heap.size, 0, none⟩) [⟨k1, n1, s1⟩, ⟨k2, n2, s2⟩] := by
  refine Or.inr ⟨_, _, rfl, fun i hi => ?_⟩
  have : i = 0 ∨ i = 1 := by simp at hi; omega
  rcases this with rfl | rfl <;> refine ⟨?_, ?_, ?_⟩ <;> go_simp

theorem right2 (k1 n1 k2 n2 : Int) (s1 s2 : ByteArray) (w : World) :
    Calls Try.prog 9 #[.slice (some ⟨w.heap.size, 0, none⟩) 2 2] (w.alloc (.cells #[.int .i64 k1, .int .i64 n1, .string s1, .int .i64 k2, .int .i64 n2, .string s2] 23)) fun e w' => e = .returned (.bool (rightV ⟨k1, n1, s1⟩ && rightV ⟨k2, n2, s2⟩)) ∧ Below (w.alloc (.cells #[.int .i64 k1, .int .i64 n1, .string s1, .int .i64 k2, .int .i64 n2, .string s2] 23)).heap.size (w.alloc (.cells #[.int .i64 k1, .int .i64 n1, .string s1, .int .i64 k2, .int .i64 n2, .string s2] 23)) w' := by
  have := right_any [⟨k1, n1, s1⟩, ⟨k2, n2, s2⟩] (some ⟨w.heap.size, 0, none⟩) 2 _ (by unfold maxLen; simp) (rowOf2n w k1 n1 k2 n2 s1 s2 23)
  simpa using this

theorem rightV_right {a : Val} (h : rightV a = true) : a.right = true := by
  unfold rightV checkV at h
  by_cases hk : a.k < 0 ∨ 4 < a.k
  · rw [if_pos hk] at h; exact absurd h (by decide)
  · rw [if_neg hk] at h
    by_cases hr : a.right = true
    · exact hr
    · rw [if_neg hr] at h; exact absurd h (by decide)

theorem eqv_iff {k n k' n' : Int} {s s' : ByteArray} (h : eqv k n s k' n' s' = true) : k = k' ∧ n = n' ∧ s = s' := by
  obtain ⟨⟨l⟩⟩ := s
  obtain ⟨⟨l'⟩⟩ := s'
  simp [eqv] at h
  obtain ⟨h1, h2, h3⟩ := h
  subst h3
  exact ⟨h1, h2, rfl⟩

/-- Of right values: equal just if the order says so. -/
theorem eqv_cmp {k n k' n' : Int} {s s' : ByteArray} (h1 : rightV ⟨k, n, s⟩ = true) (h2 : rightV ⟨k', n', s'⟩ = true) : eqv k n s k' n' s' = (cmpV ⟨k, n, s⟩ ⟨k', n', s'⟩ == 0) := by
  by_cases h : cmpV ⟨k, n, s⟩ ⟨k', n', s'⟩ = 0
  · have e := right_same (rightV_right h1) (rightV_right h2) h
    rw [h]
    obtain ⟨rfl, rfl, rfl⟩ : k = k' ∧ n = n' ∧ s = s' := by simpa using e
    simp [eqv]
  · rw [show (cmpV ⟨k, n, s⟩ ⟨k', n', s'⟩ == 0) = false from beq_eq_false_iff_ne.2 h]
    cases he : eqv k n s k' n' s'
    · rfl
    · obtain ⟨rfl, rfl, rfl⟩ := eqv_iff he
      exact absurd (cmpV_self _) h
end Go.Proofs.Ytonikoijelhojaa
