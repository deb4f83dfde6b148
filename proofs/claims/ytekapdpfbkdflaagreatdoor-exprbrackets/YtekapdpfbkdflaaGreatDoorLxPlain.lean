/- Plain mathematics of the words of a text: how a text is taken apart. No program is named here. No conditions. -/
import Derived.Lib.Case
import Derived.Lib.ParseIntBTie
namespace Go.Proofs.YtekapdpfbkdflaaGreatDoor
open Go.Lib
set_option linter.unusedVariables false

def dig (c : Int) : Bool := decide (48 ≤ c) && decide (c ≤ 57)
def ltr (c : Int) : Bool := (decide (97 ≤ c) && decide (c ≤ 122)) || ((decide (65 ≤ c) && decide (c ≤ 90)) || (c == 95))
def wrd (c : Int) : Bool := ltr c || dig c
def blk (c : Int) : Bool := (c == 32) || ((c == 9) || ((c == 10) || (c == 13)))
def hx (c : Int) : Int := if dig c then c - 48 else if 97 ≤ c ∧ c ≤ 102 then c - 87 else if 65 ≤ c ∧ c ≤ 70 then c - 55 else -1
/-- A byte as a number. -/
def bi (c : UInt8) : Int := (c.toNat : Int)
def isD (c : UInt8) : Bool := dig (bi c)
def isW (c : UInt8) : Bool := wrd (bi c)

/-- How many bytes at the front are such ones. -/
def cntW (p : UInt8 → Bool) : List UInt8 → Nat
  | [] => 0
  | c :: r => if p c then cntW p r + 1 else 0

theorem cntW_le (p : UInt8 → Bool) : ∀ l, cntW p l ≤ l.length
  | [] => Nat.le_refl _
  | c :: r => by
    have := cntW_le p r
    unfold cntW
    split <;> simp <;> omega

/-- What stands between quotes, from behind the first on: what is meant, and where it ends. -/
def quo : List UInt8 → List UInt8 → Nat → Option (List UInt8 × Nat)
  | [], _, _ => none
  | [c], acc, i => if c = 39 then some (acc, i + 1) else none
  | c :: d :: r, acc, i => if c = 39 then (if d = 39 then quo r (acc ++ [39]) (i + 2) else some (acc, i + 1)) else quo (d :: r) (acc ++ [c]) (i + 1)

/-- The bytes of a blob, from behind the quote on, and where it ends. -/
def blo : List UInt8 → List UInt8 → Nat → Option (List UInt8 × Nat)
  | [], _, _ => none
  | [a], acc, i => if a = 39 then some (acc, i + 1) else none
  | a :: b :: r, acc, i => if a = 39 then some (acc, i + 1) else if hx (bi a) < 0 ∨ hx (bi b) < 0 then none else blo r (acc ++ [UInt8.ofNat (16 * hx (bi a) + hx (bi b)).toNat]) (i + 2)

/-- What digits say. -/
def valD : Nat → List UInt8 → Nat
  | n, [] => n
  | n, c :: r => valD (10 * n + (c.toNat - 48)) r
def numD (l : List UInt8) : Option Int := if valD 0 l ≤ 9223372036854775807 then some (valD 0 l : Int) else none

def ones1 : List Int := [40, 41, 44, 46, 42, 61, 60, 62, 43, 45, 47, 37, 59]
def is1 (c : Int) : Bool := ones1.any fun x => c == x
def twos2 : List (List UInt8) := [[60, 62], [60, 61], [62, 61], [124, 124]]
def is2 (l : List UInt8) : Bool := twos2.any fun x => l == x
/-- How many bytes the symbol at the front has. -/
def sym : List UInt8 → Nat
  | [] => 0
  | c :: r => if is2 (c :: r.take 1) then 2 else if is1 (bi c) then 1 else 0
theorem is1_mem {c x : Int} (h : (c == x) = true) (hx : x ∈ ones1) : is1 c = true := List.any_eq_true.2 ⟨x, hx, h⟩
theorem is2_mem {l x : List UInt8} (h : (l == x) = true) (hx : x ∈ twos2) : is2 l = true := List.any_eq_true.2 ⟨x, hx, h⟩
theorem is1_none {c : Int} (h0 : (c == 40) = false) (h1 : (c == 41) = false) (h2 : (c == 44) = false) (h3 : (c == 46) = false) (h4 : (c == 42) = false) (h5 : (c == 61) = false) (h6 : (c == 60) = false) (h7 : (c == 62) = false) (h8 : (c == 43) = false) (h9 : (c == 45) = false) (h10 : (c == 47) = false) (h11 : (c == 37) = false) (h12 : (c == 59) = false) : is1 c = false := by
  simp only [is1, ones1, List.any_cons, List.any_nil, h0, h1, h2, h3, h4, h5, h6, h7, h8, h9, h10, h11, h12, Bool.or_false]
theorem is2_none {l : List UInt8} (h0 : (l == [60, 62]) = false) (h1 : (l == [60, 61]) = false) (h2 : (l == [62, 61]) = false) (h3 : (l == [124, 124]) = false) : is2 l = false := by
  simp only [is2, twos2, List.any_cons, List.any_nil, h0, h1, h2, h3, Bool.or_false]
theorem is2_one (c : UInt8) : is2 [c] = false := by simp [is2, twos2]

/-- A word: its kind, its text, its number. -/
structure Tk where
  k : Int
  s : List UInt8
  n : Int

/-- Does a blob begin? -/
def isX : List UInt8 → Bool
  | c :: d :: _ => ((bi c == 120) || (bi c == 88)) && (bi d == 39)
  | _ => false

/-- The word with which a text begins, and its size. -/
def first1 (l : List UInt8) : Option (Tk × Nat) :=
  match l with
  | [] => none
  | c :: r =>
    if bi c == 39 then (quo r [] 1).map fun x => (⟨3, x.1, 0⟩, x.2)
    else if dig (bi c) then (numD (l.take (cntW isD l))).map fun v => (⟨2, [], v⟩, cntW isD l)
    else if isX l then (blo (l.drop 2) [] 2).map fun x => (⟨4, x.1, 0⟩, x.2)
    else if ltr (bi c) then some (⟨1, toLowerA (l.take (cntW isW l)), 0⟩, cntW isW l)
    else if sym l = 0 then none else some (⟨5, l.take (sym l), 0⟩, sym l)

def notLF (c : UInt8) : Bool := !(bi c == 10)
/-- Does a remark begin? -/
def isR : List UInt8 → Bool
  | c :: d :: _ => (bi c == 45) && (bi d == 45)
  | _ => false

/-- The words of a text, each with its place; or the place of the first that is none. -/
def toks : Nat → List UInt8 → Nat → Except Nat (List (Tk × Nat))
  | 0, _, _ => .ok []
  | _ + 1, [], _ => .ok []
  | f + 1, c :: r, i =>
    if blk (bi c) then toks f r (i + 1)
    else if isR (c :: r) then toks f ((c :: r).drop (cntW notLF (c :: r))) (i + cntW notLF (c :: r))
    else match first1 (c :: r) with
      | none => .error i
      | some (t, k) => (toks f ((c :: r).drop k) (i + k)).map ((t, i) :: ·)

theorem quo_ge : ∀ (l acc : List UInt8) (i : Nat) (x : List UInt8 × Nat), quo l acc i = some x → i < x.2 ∧ x.2 ≤ i + l.length ∧ x.1.length + i ≤ acc.length + x.2
  | [], _, _, _, h => by simp [quo] at h
  | [c], acc, i, x, h => by
    unfold quo at h
    split at h
    · cases h; simp
    · cases h
  | c :: d :: r, acc, i, x, h => by
    unfold quo at h
    split at h
    · split at h
      · have := quo_ge r _ _ _ h
        simp at this ⊢
        omega
      · cases h; simp
    · have := quo_ge (d :: r) _ _ _ h
      simp at this ⊢
      omega
theorem blo_ge : ∀ (l acc : List UInt8) (i : Nat) (x : List UInt8 × Nat), blo l acc i = some x → i < x.2 ∧ x.2 ≤ i + l.length ∧ x.1.length + i ≤ acc.length + x.2
  | [], _, _, _, h => by simp [blo] at h
  | [c], acc, i, x, h => by
    unfold blo at h
    split at h
    · cases h; simp
    · cases h
  | a :: b :: r, acc, i, x, h => by
    unfold blo at h
    split at h
    · cases h; simp
    · split at h
      · cases h
      · have := blo_ge r _ _ _ h
        simp at this ⊢
        omega
theorem sym_le : ∀ l, sym l ≤ l.length
  | [] => Nat.le_refl _
  | c :: r => by
    show (if is2 (c :: r.take 1) then 2 else if is1 (bi c) then 1 else 0) ≤ r.length + 1
    split
    · rename_i h
      cases r with
      | nil => simp [is2_one] at h
      | cons d r => simp
    · split <;> omega

theorem first1_ge {l : List UInt8} {t : Tk} {k : Nat} (h : first1 l = some (t, k)) : 0 < k ∧ k ≤ l.length := by
  unfold first1 at h
  split at h
  · cases h
  · rename_i c r
    split at h
    · rw [Option.map_eq_some_iff] at h
      obtain ⟨x, hx, e⟩ := h
      cases e
      have := quo_ge _ _ _ _ hx
      simp; omega
    split at h
    · rename_i hd
      rw [Option.map_eq_some_iff] at h
      obtain ⟨x, hx, e⟩ := h
      cases e
      refine ⟨?_, cntW_le _ _⟩
      unfold cntW
      rw [if_pos (show isD c = true from hd)]
      omega
    split at h
    · rw [Option.map_eq_some_iff] at h
      obtain ⟨x, hx, e⟩ := h
      cases e
      have := blo_ge _ _ _ _ hx
      rename_i hX
      cases r with
      | nil => simp [isX] at hX
      | cons d r => simp at this ⊢; omega
    split at h
    · rename_i hl
      cases h
      refine ⟨?_, cntW_le _ _⟩
      unfold cntW
      rw [if_pos (show isW c = true by unfold isW wrd; rw [hl]; rfl)]
      omega
    split at h
    · cases h
    · rename_i hs
      cases h
      exact ⟨by omega, sym_le _⟩

theorem isR_cnt {c : UInt8} {r : List UInt8} (h : isR (c :: r) = true) : 0 < cntW notLF (c :: r) := by
  cases r with
  | nil => simp [isR] at h
  | cons d r =>
    unfold isR at h
    simp only [Bool.and_eq_true, beq_iff_eq] at h
    unfold cntW
    rw [if_pos (by unfold notLF; rw [h.1]; rfl)]
    omega

/-- Enough is enough. -/
theorem toks_fuel : ∀ (f g : Nat) (l : List UInt8) (i : Nat), l.length < f → l.length < g → toks f l i = toks g l i
  | 0, _, _, _, h, _ => by omega
  | _ + 1, 0, _, _, _, h => by omega
  | f + 1, g + 1, [], i, _, _ => rfl
  | f + 1, g + 1, c :: r, i, hf, hg => by
    unfold toks
    simp only [List.length_cons] at hf hg
    split
    · exact toks_fuel f g r _ (by omega) (by omega)
    · split
      · rename_i hr
        have := isR_cnt hr
        exact toks_fuel f g _ _ (by simp; omega) (by simp; omega)
      · split
        · rfl
        · rename_i t k hk
          have := first1_ge hk
          rw [toks_fuel f g _ _ (by simp; omega) (by simp; omega)]

/-- The words of a whole text. -/
def toksOf (l : List UInt8) : Except Nat (List (Tk × Nat)) := toks (l.length + 1) l 0
/-- Words behind others. -/
def addT (acc : List (Tk × Nat)) : Except Nat (List (Tk × Nat)) → Except Nat (List (Tk × Nat))
  | .ok l => .ok (acc ++ l)
  | .error i => .error i
theorem addT_nil (R : Except Nat (List (Tk × Nat))) : addT [] R = R := by cases R <;> rfl
theorem addT_cons (acc : List (Tk × Nat)) (x : Tk × Nat) (R : Except Nat (List (Tk × Nat))) : addT acc (R.map (x :: ·)) = addT (acc ++ [x]) R := by
  cases R <;> simp [addT, Except.map]
end Go.Proofs.YtekapdpfbkdflaaGreatDoor
