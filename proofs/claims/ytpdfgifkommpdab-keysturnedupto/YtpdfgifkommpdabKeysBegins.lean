/- Plain mathematics of keys: just what begins with some bytes lies between them and the next ones. No conditions. -/
import Derived.Test.YtpdfgifkommpdabKeysNext
import Derived.Test.YtpdfgifkommpdabKeysOrd
namespace Go.Proofs.Ytpdfgifkommpdab
open Go.Lib (compareBytes)
set_option linter.unusedVariables false

/-- The next bytes, from the front. -/
def nextF : List UInt8 → List UInt8
  | [] => []
  | c :: l => match nextF l with
    | [] => if c = 255 then [] else [c + 1]
    | d :: n => c :: d :: n
theorem nextR_snoc : ∀ (xs : List UInt8) (c : UInt8), nextR (xs ++ [c]) = if nextR xs = [] then nextR [c] else nextR xs ++ [c]
  | [], c => by simp [nextR]
  | x :: xs, c => by
    by_cases h : x = 255
    · simp only [List.cons_append, nextR, if_pos h]
      rw [nextR_snoc xs c]
      simp [nextR]
    · simp [nextR, h]
theorem nextB_eq : ∀ l : List UInt8, nextB l = nextF l
  | [] => rfl
  | c :: l => by
    have ih := nextB_eq l
    unfold nextB at ih ⊢
    rw [List.reverse_cons, nextR_snoc]
    unfold nextF
    rw [← ih]
    by_cases h : nextR l.reverse = []
    · rw [if_pos h, h]
      simp only [nextR, List.reverse_nil]
      split <;> rfl
    · rw [if_neg h, List.reverse_append]
      cases hr : (nextR l.reverse).reverse with
      | nil =>
        rw [List.reverse_eq_nil_iff] at hr
        exact absurd hr h
      | cons d n => rfl

/-- Do some bytes begin with some? -/
def begins : List UInt8 → List UInt8 → Bool
  | [], _ => true
  | _ :: _, [] => false
  | x :: l, y :: d => x == y && begins l d
theorem begins_eq : ∀ (b c : List UInt8), begins b c = (decide (b.length ≤ c.length) && c.take b.length == b)
  | [], c => by simp [begins]
  | x :: l, [] => by simp [begins]
  | x :: l, y :: d => by
    simp only [begins, begins_eq l d, List.length_cons, List.take_succ_cons]
    by_cases h : x = y
    · subst h
      by_cases h2 : l.length ≤ d.length <;> simp [h2]
    · have e1 : (x == y) = false := beq_eq_false_iff_ne.2 h
      have e2 : (y == x) = false := beq_eq_false_iff_ne.2 (fun e => h e.symm)
      simp [e1, e2]
theorem begins_append (a b : List UInt8) : begins a (a ++ b) = true := by
  rw [begins_eq]
  simp

theorem lt_succ {x y : UInt8} (h : x ≠ 255) : (y < x + 1) ↔ y ≤ x := by
  rw [UInt8.lt_iff_toNat_lt, UInt8.le_iff_toNat_le, UInt8.toNat_add]
  have h1 := UInt8.toNat_lt x
  have h2 : x.toNat ≠ 255 := fun e => h (UInt8.toNat_inj.1 e)
  have : (x.toNat + (1 : UInt8).toNat) % 2 ^ 8 = x.toNat + 1 := by
    show (x.toNat + 1) % 256 = _
    omega
  rw [this]
  omega
theorem tri (x y : UInt8) : (y < x ∧ (y == x) = false ∧ (x == y) = false) ∨ (y = x) ∨ (x < y ∧ decide (y < x) = false ∧ (y == x) = false ∧ (x == y) = false) := by
  rcases Nat.lt_trichotomy y.toNat x.toNat with h | h | h
  · left
    have e : y ≠ x := fun e => by rw [e] at h; omega
    exact ⟨UInt8.lt_iff_toNat_lt.2 h, beq_eq_false_iff_ne.2 e, beq_eq_false_iff_ne.2 e.symm⟩
  · exact Or.inr (Or.inl (UInt8.toNat_inj.1 h))
  · right; right
    have e : y ≠ x := fun e => by rw [e] at h; omega
    refine ⟨UInt8.lt_iff_toNat_lt.2 h, ?_, beq_eq_false_iff_ne.2 e, beq_eq_false_iff_ne.2 e.symm⟩
    rw [decide_eq_false_iff_not, UInt8.lt_iff_toNat_lt]
    omega

theorem next_begins : ∀ (b c : List UInt8), (nextF b = [] → begins b c = !(Op.bytesLess c b)) ∧ (nextF b ≠ [] → begins b c = (!(Op.bytesLess c b) && Op.bytesLess c (nextF b)))
  | [], c => by
    refine ⟨fun _ => ?_, fun h => absurd rfl h⟩
    cases c <;> rfl
  | x :: l, [] => by
    refine ⟨fun _ => rfl, fun _ => rfl⟩
  | x :: l, y :: d => by
    obtain ⟨i1, i2⟩ := next_begins l d
    cases hn : nextF l with
    | nil =>
      have ih := i1 hn
      have e : nextF (x :: l) = if x = 255 then [] else [x + 1] := by
        conv => lhs; unfold nextF
        rw [hn]
      rw [e]
      by_cases h255 : x = 255
      · rw [if_pos h255]
        refine ⟨fun _ => ?_, fun h => absurd rfl h⟩
        simp only [begins, Op.bytesLess, ih]
        rcases tri x y with ⟨h1, h2, h3⟩ | h | ⟨h0, h1, h2, h3⟩
        · simp [h1, h2, h3]
        · subst h; simp
        · exfalso
          subst h255
          rw [UInt8.lt_iff_toNat_lt] at h0
          have := UInt8.toNat_lt y
          have : (255 : UInt8).toNat = 255 := rfl
          omega
      · rw [if_neg h255]
        refine ⟨fun h => (by cases h), fun _ => ?_⟩
        have hb : Op.bytesLess (y :: d) [x + 1] = decide (y ≤ x) := by
          simp only [Op.bytesLess, Bool.and_false, Bool.or_false]
          simp [lt_succ h255]
        rw [hb]
        simp only [begins, Op.bytesLess, ih]
        rcases tri x y with ⟨h1, h2, h3⟩ | h | ⟨h0, h1, h2, h3⟩
        · simp [h1, h2, h3]
        · subst h; simp
        · have : decide (y ≤ x) = false := by
            rw [decide_eq_false_iff_not, UInt8.le_iff_toNat_le]
            rw [UInt8.lt_iff_toNat_lt] at h0
            omega
          simp [h1, h2, h3, this]
    | cons m ms =>
      have ih := i2 (by rw [hn]; simp)
      rw [hn] at ih
      have e : nextF (x :: l) = x :: m :: ms := by
        conv => lhs; unfold nextF
        rw [hn]
      rw [e]
      refine ⟨fun h => (by cases h), fun _ => ?_⟩
      have hb : ∀ z : List UInt8, Op.bytesLess (y :: d) (x :: z) = (decide (y < x) || (y == x && Op.bytesLess d z)) := fun z => rfl
      rw [hb, hb]
      simp only [begins, ih]
      rcases tri x y with ⟨h1, h2, h3⟩ | h | ⟨h0, h1, h2, h3⟩
      · simp [h1, h2, h3]
      · subst h; simp
      · simp [h1, h2, h3]
theorem nextF_nil : ∀ (b : List UInt8), nextF b = [] → ∀ x ∈ b, x = 255
  | [], _, x, hx => by simp at hx
  | c :: l, h, x, hx => by
    unfold nextF at h
    cases hn : nextF l with
    | nil =>
      rw [hn] at h
      simp only [] at h
      split at h
      · rename_i hc
        rcases List.mem_cons.1 hx with rfl | hx
        · exact hc
        · exact nextF_nil l hn x hx
      · cases h
    | cons m ms => rw [hn] at h; cases h

/-- Less, by the order of bytes. -/
theorem less_cmp : ∀ (a b : List UInt8), Op.bytesLess a b = decide (compareBytes a b = -1)
  | [], [] => rfl
  | [], _ :: _ => rfl
  | _ :: _, [] => rfl
  | x :: a, y :: b => by
    have ih := less_cmp a b
    simp only [Op.bytesLess, compareBytes, ih]
    rcases tri y x with ⟨h1, h2, h3⟩ | h | ⟨h0, h1, h2, h3⟩
    · simp [h1]
    · subst h
      simp [UInt8.lt_irrefl]
    · have h1' : ¬ x < y := of_decide_eq_false h1
      simp [h1', h2, h0]
theorem eq_cmp (a b : List UInt8) : (a == b) = decide (compareBytes a b = 0) := by
  by_cases h : a = b
  · subst h; simp [cmp_self]
  · have : ¬ compareBytes a b = 0 := fun e => h (cmp_eq _ _ e)
    simp [h, this]
end Go.Proofs.Ytpdfgifkommpdab
