/- What calc.Call answers of any function and values. Conditions: the numbers are within the numbers, the texts lie within the reach. -/
import Derived.Test.YtonikoijelhojaaCallCoal
namespace Go.Proofs.Ytonikoijelhojaa
open Go.RowKit Go.Lib Go.Sort
set_option linter.unusedVariables false

/-- Is there a value, the first standing at place i, that does not go there? -/
def badFrom (f : Int) : Nat → List Val → Bool
  | _, [] => false
  | i, v :: l => badV f i v || badFrom f (i + 1) l
theorem badFrom_iff (f : Int) : ∀ (l : List Val) (i : Nat), badFrom f i l = true ↔ ∃ j, ∃ h : j < l.length, badV f (i + j) l[j] = true
  | [], i => by simp [badFrom]
  | v :: l, i => by
    have ih := badFrom_iff f l (i + 1)
    simp only [badFrom, Bool.or_eq_true, ih]
    constructor
    · rintro (h | ⟨j, h, hb⟩)
      · exact ⟨0, by simp, h⟩
      · exact ⟨j + 1, by simpa using h, by rw [show i + (j + 1) = i + 1 + j by omega]; exact hb⟩
    · rintro ⟨j, h, hb⟩
      match j, h, hb with
      | 0, _, hb => exact Or.inl hb
      | j + 1, h, hb => exact Or.inr ⟨j, by simpa using h, by rw [show i + 1 + j = i + (j + 1) by omega]; exact hb⟩

/-- What a function makes of values that it takes. -/
def worthV (f : Int) : List Val → Ans
  | [v] => if f = 1 then ⟨numV v.s.size, 0⟩ else if f = 2 then absV v.n else if f = 3 then ⟨textV (exV 97 65 v.s), 0⟩ else ⟨textV (exV 65 97 v.s), 0⟩
  | [v, a, b] => ⟨textV (partV v.s a.n b.n), 0⟩
  | _ => ⟨nullV, 0⟩
def callV (f : Int) (xs : List Val) : Ans :=
  if argsV f = 0 then ⟨nullV, 5⟩ else if (xs.length : Int) ≠ argsV f then ⟨nullV, 37⟩ else if f = 6 then coalV (xs.getD 0 nullV) (xs.getD 1 nullV) else
  if badFrom f 0 xs then ⟨nullV, 35⟩ else if xs.any isNull then ⟨nullV, 0⟩ else worthV f xs

theorem args_cases {f : Int} (h : argsV f ≠ 0) : (f = 1 ∧ argsV f = 1) ∨ (f = 2 ∧ argsV f = 1) ∨ (f = 3 ∧ argsV f = 1) ∨ (f = 4 ∧ argsV f = 1) ∨ (f = 6 ∧ argsV f = 2) ∨ (f = 5 ∧ argsV f = 3) := by
  unfold argsV at *
  by_cases h1 : f = 1 ∨ f = 2 ∨ f = 3 ∨ f = 4
  · rw [if_pos h1] at *; omega
  · rw [if_neg h1] at *
    by_cases h6 : f = 6
    · rw [if_pos h6] at *; omega
    · rw [if_neg h6] at *
      by_cases h5 : f = 5
      · rw [if_pos h5] at *; omega
      · rw [if_neg h5] at h; omega
theorem len_one {xs : List Val} (h : (xs.length : Int) = 1) : ∃ v, xs = [v] := by
  match xs, h with
  | [v], _ => exact ⟨v, rfl⟩
  | [], h => simp at h
  | _ :: _ :: _, h => simp at h; omega
theorem len_two {xs : List Val} (h : (xs.length : Int) = 2) : ∃ a b, xs = [a, b] := by
  match xs, h with
  | [a, b], _ => exact ⟨a, b, rfl⟩
  | [], h => simp at h
  | [_], h => simp at h
  | _ :: _ :: _ :: _, h => simp at h; omega
theorem len_three {xs : List Val} (h : (xs.length : Int) = 3) : ∃ a b c, xs = [a, b, c] := by
  match xs, h with
  | [a, b, c], _ => exact ⟨a, b, c, rfl⟩
  | [], h => simp at h
  | [_], h => simp at h
  | [_, _], h => simp at h
  | _ :: _ :: _ :: _ :: _, h => simp at h; omega

theorem call_any (f : Int) (p : Option Addr) (xs : List Val) (c : Nat) (w : World) (hL : xs.length ≤ maxLen) (rX : Row w p xs) (hn : ∀ v ∈ xs, inR v.n) (hs : ∀ v ∈ xs, v.s.size ≤ 140737488351232) :
    Calls Try.prog 16 #[.int .i64 f, .slice p xs.length c] w fun e w' => e = .returned (callV f xs).out ∧ Below w.heap.size w w' := by
  by_cases h0 : argsV f = 0
  · rw [show callV f xs = ⟨nullV, 5⟩ from if_pos h0]
    exact call_kind f p xs c w h0
  by_cases hl : (xs.length : Int) ≠ argsV f
  · rw [show callV f xs = ⟨nullV, 37⟩ by unfold callV; rw [if_neg h0, if_pos hl]]
    exact call_count f p xs c w h0 hl
  have hl' : (xs.length : Int) = argsV f := by omega
  by_cases h6 : f = 6
  · subst h6
    obtain ⟨⟨k1, n1, s1⟩, ⟨k2, n2, s2⟩, rfl⟩ := len_two (hl'.trans rfl)
    exact call_coal p c k1 n1 k2 n2 s1 s2 w rX
  have hc : callV f xs = if badFrom f 0 xs then ⟨nullV, 35⟩ else if xs.any isNull then ⟨nullV, 0⟩ else worthV f xs := by
    unfold callV
    rw [if_neg h0, if_neg hl, if_neg h6]
  have hgood : (∀ j (h : j < xs.length), badV f j xs[j] = false) → badFrom f 0 xs = false := fun hh => by
    cases hb : badFrom f 0 xs
    · rfl
    · obtain ⟨j, h, hb'⟩ := (badFrom_iff f xs 0).1 hb
      rw [Nat.zero_add, hh j h] at hb'
      exact absurd hb' (by decide)
  refine call_main f p xs c (callV f xs) w h0 h6 hl' hL rX ?_ ?_ ?_
  · rintro ⟨j, h, hb⟩
    rw [hc, if_pos ((badFrom_iff f xs 0).2 ⟨j, h, by rw [Nat.zero_add]; exact hb⟩)]
  · intro hh hnull
    rw [hc, hgood hh, if_neg (by decide), if_pos hnull]
  · intro hh hnull
    have hw : callV f xs = worthV f xs := by rw [hc, hgood hh, if_neg (by decide), hnull, if_neg (by decide)]
    rw [hw]
    refine caught_call w.heap.size f p xs c (worthV f xs) ?_
    intro w1 hR1
    rcases args_cases h0 with ⟨rfl, ha⟩ | ⟨rfl, ha⟩ | ⟨rfl, ha⟩ | ⟨rfl, ha⟩ | ⟨rfl, ha⟩ | ⟨rfl, ha⟩
    · obtain ⟨⟨k, n, s⟩, rfl⟩ := len_one (hl'.trans ha)
      exact (worth_length p c k n s w1 hR1).mono (by rintro e w' ⟨rfl, b⟩; exact ⟨Or.inl ⟨rfl, rfl⟩, b⟩)
    · obtain ⟨⟨k, n, s⟩, rfl⟩ := len_one (hl'.trans ha)
      exact worth_abs p c k n s w1 hR1 (hn ⟨k, n, s⟩ (by simp))
    · obtain ⟨⟨k, n, s⟩, rfl⟩ := len_one (hl'.trans ha)
      have := hs ⟨k, n, s⟩ (by simp)
      exact (worth_upper p c k n s w1 hR1 (by unfold maxLen; simp only [] at this; omega)).mono (by rintro e w' ⟨rfl, b⟩; exact ⟨Or.inl ⟨rfl, rfl⟩, b⟩)
    · obtain ⟨⟨k, n, s⟩, rfl⟩ := len_one (hl'.trans ha)
      have := hs ⟨k, n, s⟩ (by simp)
      exact (worth_lower p c k n s w1 hR1 (by unfold maxLen; simp only [] at this; omega)).mono (by rintro e w' ⟨rfl, b⟩; exact ⟨Or.inl ⟨rfl, rfl⟩, b⟩)
    · exact absurd rfl h6
    · obtain ⟨⟨k1, n1, s1⟩, ⟨k2, n2, s2⟩, ⟨k3, n3, s3⟩, rfl⟩ := len_three (hl'.trans ha)
      have := hs ⟨k1, n1, s1⟩ (by simp)
      exact (worth_substr p c k1 n1 k2 n2 k3 n3 s1 s2 s3 w1 hR1 (by simp only [] at this; omega) (hn ⟨k2, n2, s2⟩ (by simp)) (hn ⟨k3, n3, s3⟩ (by simp))).mono (by rintro e w' ⟨rfl, b⟩; exact ⟨Or.inl ⟨rfl, rfl⟩, b⟩)
end Go.Proofs.Ytonikoijelhojaa
