/- Plain mathematics of the words of a text: how a text is taken apart. No program is named here. No conditions. Plain mathematics of the words of a text: of two texts with a line feed between; blanks and remarks ahead. No program is named here. No conditions. -/
import Derived.Lib.Case
import Derived.Lib.ParseIntBTie
namespace Go.Proofs.YtblkhlhhlalbkaaGreatDoor
open Go.Lib
set_option linter.unusedVariables false

def dig (c : Int) : Bool := decide (48 ≤ c) && decide (c ≤ 57)
def ltr (c : Int) : Bool := (decide (97 ≤ c) && decide (c ≤ 122)) || ((decide (65 ≤ c) && decide (c ≤ 90)) || (c == 95))
def wrd (c : Int) : Bool := ltr c || dig c
def blk (c : Int) : Bool := (c == 32) || ((c == 9) || ((c == 10) || (c == 13)))
def hx (c : Int) : Int := if dig c then c - 48 else if 97 ≤ c ∧ c ≤ 102 then c - 87 else if 65 ≤ c ∧ c ≤ 70 then c - 55 else -1
/-- A byte as a number. -/
def bi (c : UInt8) : Int := (c.toNat : Int)
def isD (c : UInt8) : Bool := dig (bi c)
def isW (c : UInt8) : Bool := wrd (bi c)

/-- How many bytes at the front are such ones. -/
def cntW (p : UInt8 → Bool) : List UInt8 → Nat
  | [] => 0
  | c :: r => if p c then cntW p r + 1 else 0

theorem cntW_le (p : UInt8 → Bool) : ∀ l, cntW p l ≤ l.length
  | [] => Nat.le_refl _
  | c :: r => by
    have := cntW_le p r
    unfold cntW
    split <;> simp <;> omega

/-- What stands between quotes, from behind the first on: what is meant, and where it ends. -/
def quo : List UInt8 → List UInt8 → Nat → Option (List UInt8 × Nat)
  | [], _, _ => none
  | [c], acc, i => if c = 39 then some (acc, i + 1) else none
  | c :: d :: r, acc, i => if c = 39 then (if d = 39 then quo r (acc ++ [39]) (i + 2) else some (acc, i + 1)) else quo (d :: r) (acc ++ [c]) (i + 1)

/-- The bytes of a blob, from behind the quote on, and where it ends. -/
def blo : List UInt8 → List UInt8 → Nat → Option (List UInt8 × Nat)
  | [], _, _ => none
  | [a], acc, i => if a = 39 then some (acc, i + 1) else none
  | a :: b :: r, acc, i => if a = 39 then some (acc, i + 1) else if hx (bi a) < 0 ∨ hx (bi b) < 0 then none else blo r (acc ++ [UInt8.ofNat (16 * hx (bi a) + hx (bi b)).toNat]) (i + 2)

/-- What digits say. -/
def valD : Nat → List UInt8 → Nat
  | n, [] => n
  | n, c :: r => valD (10 * n + (c.toNat - 48)) r
def numD (l : List UInt8) : Option Int := if valD 0 l ≤ 9223372036854775807 then some (valD 0 l : Int) else none

def ones1 : List Int := [40, 41, 44, 46, 42, 61, 60, 62, 43, 45, 47, 37, 59]
def is1 (c : Int) : Bool := ones1.any fun x => c == x
def twos2 : List (List UInt8) := [[60, 62], [60, 61], [62, 61], [124, 124]]
def is2 (l : List UInt8) : Bool := twos2.any fun x => l == x
/-- How many bytes the symbol at the front has. -/
def sym : List UInt8 → Nat
  | [] => 0
  | c :: r => if is2 (c :: r.take 1) then 2 else if is1 (bi c) then 1 else 0
theorem is1_mem {c x : Int} (h : (c == x) = true) (hx : x ∈ ones1) : is1 c = true := List.any_eq_true.2 ⟨x, hx, h⟩
theorem is2_mem {l x : List UInt8} (h : (l == x) = true) (hx : x ∈ twos2) : is2 l = true := List.any_eq_true.2 ⟨x, hx, h⟩
theorem is1_none {c : Int} (h0 : (c == 40) = false) (h1 : (c == 41) = false) (h2 : (c == 44) = false) (h3 : (c == 46) = false) (h4 : (c == 42) = false) (h5 : (c == 61) = false) (h6 : (c == 60) = false) (h7 : (c == 62) = false) (h8 : (c == 43) = false) (h9 : (c == 45) = false) (h10 : (c == 47) = false) (h11 : (c == 37) = false) (h12 : (c == 59) = false) : is1 c = false := by
  simp only [is1, ones1, List.any_cons, List.any_nil, h0, h1, h2, h3, h4, h5, h6, h7, h8, h9, h10, h11, h12, Bool.or_false]
theorem is2_none {l : List UInt8} (h0 : (l == [60, 62]) = false) (h1 : (l == [60, 61]) = false) (h2 : (l == [62, 61]) = false) (h3 : (l == [124, 124]) = false) : is2 l = false := by
  simp only [is2, twos2, List.any_cons, List.any_nil, h0, h1, h2, h3, Bool.or_false]
theorem is2_one (c : UInt8) : is2 [c] = false := by simp [is2, twos2]

/-- A word: its kind, its text, its number. -/
structure Tk where
  k : Int
  s : List UInt8
  n : Int

/-- Does a blob begin? -/
def isX : List UInt8 → Bool
  | c :: d :: _ => ((bi c == 120) || (bi c == 88)) && (bi d == 39)
  | _ => false

/-- The word with which a text begins, and its size. -/
def first1 (l : List UInt8) : Option (Tk × Nat) :=
  match l with
  | [] => none
  | c :: r =>
    if bi c == 39 then (quo r [] 1).map fun x => (⟨3, x.1, 0⟩, x.2)
    else if dig (bi c) then (numD (l.take (cntW isD l))).map fun v => (⟨2, [], v⟩, cntW isD l)
    else if isX l then (blo (l.drop 2) [] 2).map fun x => (⟨4, x.1, 0⟩, x.2)
    else if ltr (bi c) then some (⟨1, toLowerA (l.take (cntW isW l)), 0⟩, cntW isW l)
    else if sym l = 0 then none else some (⟨5, l.take (sym l), 0⟩, sym l)

def notLF (c : UInt8) : Bool := !(bi c == 10)
/-- Does a remark begin? -/
def isR : List UInt8 → Bool
  | c :: d :: _ => (bi c == 45) && (bi d == 45)
  | _ => false

/-- The words of a text, each with its place; or the place of the first that is none. -/
def toks : Nat → List UInt8 → Nat → Except Nat (List (Tk × Nat))
  | 0, _, _ => .ok []
  | _ + 1, [], _ => .ok []
  | f + 1, c :: r, i =>
    if blk (bi c) then toks f r (i + 1)
    else if isR (c :: r) then toks f ((c :: r).drop (cntW notLF (c :: r))) (i + cntW notLF (c :: r))
    else match first1 (c :: r) with
      | none => .error i
      | some (t, k) => (toks f ((c :: r).drop k) (i + k)).map ((t, i) :: ·)

theorem quo_ge : ∀ (l acc : List UInt8) (i : Nat) (x : List UInt8 × Nat), quo l acc i = some x → i < x.2 ∧ x.2 ≤ i + l.length ∧ x.1.length + i ≤ acc.length + x.2
  | [], _, _, _, h => by simp [quo] at h
  | [c], acc, i, x, h => by
    unfold quo at h
    split at h
    · cases h; simp
    · cases h
  | c :: d :: r, acc, i, x, h => by
    unfold quo at h
    split at h
    · split at h
      · have := quo_ge r _ _ _ h
        simp at this ⊢
        omega
      · cases h; simp
    · have := quo_ge (d :: r) _ _ _ h
      simp at this ⊢
      omega
theorem blo_ge : ∀ (l acc : List UInt8) (i : Nat) (x : List UInt8 × Nat), blo l acc i = some x → i < x.2 ∧ x.2 ≤ i + l.length ∧ x.1.length + i ≤ acc.length + x.2
  | [], _, _, _, h => by simp [blo] at h
  | [c], acc, i, x, h => by
    unfold blo at h
    split at h
    · cases h; simp
    · cases h
  | a :: b :: r, acc, i, x, h => by
    unfold blo at h
    split at h
    · cases h; simp
    · split at h
      · cases h
      · have := blo_ge r _ _ _ h
        simp at this ⊢
        omega
theorem sym_le : ∀ l, sym l ≤ l.length
  | [] => Nat.le_refl _
  | c :: r => by
    show (if is2 (c :: r.take 1) then 2 else if is1 (bi c) then 1 else 0) ≤ r.length + 1
    split
    · rename_i h
      cases r with
      | nil => simp [is2_one] at h
      | cons d r => simp
    · split <;> omega

theorem first1_ge {l : List UInt8} {t : Tk} {k : Nat} (h : first1 l = some (t, k)) : 0 < k ∧ k ≤ l.length := by
  unfold first1 at h
  split at h
  · cases h
  · rename_i c r
    split at h
    · rw [Option.map_eq_some_iff] at h
      obtain ⟨x, hx, e⟩ := h
      cases e
      have := quo_ge _ _ _ _ hx
      simp; omega
    split at h
    · rename_i hd
      rw [Option.map_eq_some_iff] at h
      obtain ⟨x, hx, e⟩ := h
      cases e
      refine ⟨?_, cntW_le _ _⟩
      unfold cntW
      rw [if_pos (show isD c = true from hd)]
      omega
    split at h
    · rw [Option.map_eq_some_iff] at h
      obtain ⟨x, hx, e⟩ := h
      cases e
      have := blo_ge _ _ _ _ hx
      rename_i hX
      cases r with
      | nil => simp [isX] at hX
      | cons d r => simp at this ⊢; omega
    split at h
    · rename_i hl
      cases h
      refine ⟨?_, cntW_le _ _⟩
      unfold cntW
      rw [if_pos (show isW c = true by unfold isW wrd; rw [hl]; rfl)]
      omega
    split at h
    · cases h
    · rename_i hs
      cases h
      exact ⟨by omega, sym_le _⟩

theorem isR_cnt {c : UInt8} {r : List UInt8} (h : isR (c :: r) = true) : 0 < cntW notLF (c :: r) := by
  cases r with
  | nil => simp [isR] at h
  | cons d r =>
    unfold isR at h
    simp only [Bool.and_eq_true, beq_iff_eq] at h
    unfold cntW
    rw [if_pos (by unfold notLF; rw [h.1]; rfl)]
    omega

/-- Enough is enough. -/
theorem toks_fuel : ∀ (f g : Nat) (l : List UInt8) (i : Nat), l.length < f → l.length < g → toks f l i = toks g l i
  | 0, _, _, _, h, _ => by omega
  | _ + 1, 0, _, _, _, h => by omega
  | f + 1, g + 1, [], i, _, _ => rfl
  | f + 1, g + 1, c :: r, i, hf, hg => by
    unfold toks
    simp only [List.length_cons] at hf hg
    split
    · exact toks_fuel f g r _ (by omega) (by omega)
    · split
      · rename_i hr
        have := isR_cnt hr
        exact toks_fuel f g _ _ (by simp; omega) (by simp; omega)
      · split
        · rfl
        · rename_i t k hk
          have := first1_ge hk
          rw [toks_fuel f g _ _ (by simp; omega) (by simp; omega)]

/-- The words of a whole text. -/
def toksOf (l : List UInt8) : Except Nat (List (Tk × Nat)) := toks (l.length + 1) l 0
/-- Words behind others. -/
def addT (acc : List (Tk × Nat)) : Except Nat (List (Tk × Nat)) → Except Nat (List (Tk × Nat))
  | .ok l => .ok (acc ++ l)
  | .error i => .error i
theorem addT_nil (R : Except Nat (List (Tk × Nat))) : addT [] R = R := by cases R <;> rfl
theorem addT_cons (acc : List (Tk × Nat)) (x : Tk × Nat) (R : Except Nat (List (Tk × Nat))) : addT acc (R.map (x :: ·)) = addT (acc ++ [x]) R := by
  cases R <;> simp [addT, Except.map]
end Go.Proofs.YtblkhlhhlalbkaaGreatDoor
namespace Go.Proofs.YtblkhlhhlalbkaaGreatDoor
open Go.Lib
set_option linter.unusedVariables false
set_option maxRecDepth 20000

theorem cntW_app (p : UInt8 → Bool) (d : UInt8) (hp : p d = false) (s : List UInt8) : ∀ l, cntW p (l ++ d :: s) = cntW p l
  | [] => by simp [cntW, hp]
  | c :: r => by
    simp only [List.cons_append, cntW]
    rw [cntW_app p d hp s r]
theorem isD_10 : isD 10 = false := by decide
theorem isW_10 : isW 10 = false := by decide
theorem notLF_10 : notLF 10 = false := by decide
theorem quo_app (s : List UInt8) : ∀ (l acc : List UInt8) (i : Nat) (x : List UInt8 × Nat), quo l acc i = some x → quo (l ++ 10 :: s) acc i = some x
  | [], _, _, _, h => by simp [quo] at h
  | [c], acc, i, x, h => by
    simp only [quo] at h
    simp only [List.cons_append, List.nil_append, quo]
    split at h
    · rename_i hc
      rw [if_pos hc, if_neg (by decide)]
      exact h
    · cases h
  | c :: d :: r, acc, i, x, h => by
    simp only [List.cons_append, quo] at h ⊢
    split at h
    · rename_i hc
      rw [if_pos hc]
      split at h
      · rename_i hd
        rw [if_pos hd]
        exact quo_app s r _ _ _ h
      · rename_i hd
        rw [if_neg hd]
        exact h
    · rename_i hc
      rw [if_neg hc]
      exact quo_app s (d :: r) _ _ _ h
theorem quo_no : ∀ (s acc : List UInt8) (i : Nat), (∀ c ∈ s, c ≠ 39) → quo s acc i = none
  | [], _, _, _ => rfl
  | [c], acc, i, h => by simp only [quo]; rw [if_neg (h c (by simp))]
  | c :: d :: r, acc, i, h => by
    simp only [quo]
    rw [if_neg (h c (by simp))]
    exact quo_no (d :: r) _ _ (fun x hx => h x (List.mem_cons_of_mem _ hx))
theorem quo_none (s : List UInt8) (hs : ∀ c ∈ s, c ≠ 39) : ∀ (l acc : List UInt8) (i : Nat), quo l acc i = none → quo (l ++ 10 :: s) acc i = none
  | [], acc, i, _ => quo_no (10 :: s) acc i (fun c hc => by
      rcases List.mem_cons.1 hc with rfl | h
      · decide
      · exact hs c h)
  | [c], acc, i, h => by
    simp only [quo] at h
    split at h
    · cases h
    · rename_i hc
      simp only [List.cons_append, List.nil_append, quo]
      rw [if_neg hc]
      exact quo_no (10 :: s) _ _ (fun c hc => by
        rcases List.mem_cons.1 hc with rfl | h
        · decide
        · exact hs c h)
  | c :: d :: r, acc, i, h => by
    simp only [List.cons_append, quo] at h ⊢
    split at h
    · rename_i hc
      rw [if_pos hc]
      split at h
      · rename_i hd
        rw [if_pos hd]
        exact quo_none s hs r _ _ h
      · cases h
    · rename_i hc
      rw [if_neg hc]
      exact quo_none s hs (d :: r) _ _ h
theorem hx_10 : hx (bi 10) = -1 := by decide
theorem blo_app (s : List UInt8) : ∀ (l acc : List UInt8) (i : Nat), blo (l ++ 10 :: s) acc i = blo l acc i
  | [], acc, i => by
    cases s with
    | nil => simp only [List.nil_append, blo]; rw [if_neg (by decide)]
    | cons d s => simp only [List.nil_append, blo]; rw [if_neg (by decide), if_pos (Or.inl (by rw [hx_10]; decide))]
  | [a], acc, i => by
    simp only [List.cons_append, List.nil_append, blo]
    by_cases ha : a = 39
    · rw [if_pos ha, if_pos ha]
    · rw [if_neg ha, if_neg ha, if_pos (Or.inr (by rw [hx_10]; decide))]
  | a :: b :: r, acc, i => by
    simp only [List.cons_append, blo]
    by_cases ha : a = 39
    · rw [if_pos ha, if_pos ha]
    · rw [if_neg ha, if_neg ha]
      by_cases hb : hx (bi a) < 0 ∨ hx (bi b) < 0
      · rw [if_pos hb, if_pos hb]
      · rw [if_neg hb, if_neg hb]
        exact blo_app s r _ _
theorem isX_app (s : List UInt8) (c : UInt8) (r : List UInt8) : isX (c :: r ++ 10 :: s) = isX (c :: r) := by
  cases r with
  | nil => simp [isX, bi]
  | cons d r => rfl
theorem isR_app (s : List UInt8) (c : UInt8) (r : List UInt8) : isR (c :: r ++ 10 :: s) = isR (c :: r) := by
  cases r with
  | nil => simp [isR, bi]
  | cons d r => rfl
theorem is2_10 (c : UInt8) : is2 [c, 10] = false := by simp [is2, twos2]
theorem sym_app (s : List UInt8) (c : UInt8) (r : List UInt8) : sym (c :: r ++ 10 :: s) = sym (c :: r) := by
  cases r with
  | nil =>
    show (if is2 [c, 10] then 2 else if is1 (bi c) then 1 else 0) = (if is2 [c] then 2 else if is1 (bi c) then 1 else 0)
    rw [is2_10, is2_one]
  | cons d r => rfl
theorem take_app (l s : List UInt8) (n : Nat) (h : n ≤ l.length) : (l ++ s).take n = l.take n := List.take_append_of_le_length h
theorem drop_app (l s : List UInt8) (n : Nat) (h : n ≤ l.length) : (l ++ s).drop n = l.drop n ++ s := List.drop_append_of_le_length h

/-- What the parts of the front word do not see. -/
theorem first1_cons (c : UInt8) (r : List UInt8) : first1 (c :: r) =
    (if bi c == 39 then (quo r [] 1).map fun x => (⟨3, x.1, 0⟩, x.2)
    else if dig (bi c) then (numD ((c :: r).take (cntW isD (c :: r)))).map fun v => (⟨2, [], v⟩, cntW isD (c :: r))
    else if isX (c :: r) then (blo ((c :: r).drop 2) [] 2).map fun x => (⟨4, x.1, 0⟩, x.2)
    else if ltr (bi c) then some (⟨1, toLowerA ((c :: r).take (cntW isW (c :: r))), 0⟩, cntW isW (c :: r))
    else if sym (c :: r) = 0 then none else some (⟨5, (c :: r).take (sym (c :: r)), 0⟩, sym (c :: r))) := rfl
theorem first1_rest (s : List UInt8) (c : UInt8) (r : List UInt8) (h : (bi c == 39) = false) : first1 (c :: r ++ 10 :: s) = first1 (c :: r) := by
  have e : c :: r ++ 10 :: s = c :: (r ++ 10 :: s) := rfl
  rw [e, first1_cons, first1_cons, ← e, h]
  simp only [Bool.false_eq_true, if_false]
  rw [cntW_app isD 10 isD_10, take_app _ _ _ (cntW_le _ _), isX_app, cntW_app isW 10 isW_10, take_app _ _ _ (cntW_le _ _), sym_app, take_app _ _ _ (sym_le _)]
  by_cases hX : isX (c :: r) = true
  · rw [if_pos hX, if_pos hX]
    have h2 : 2 ≤ (c :: r).length := by
      cases r with
      | nil => simp [isX] at hX
      | cons d r => simp
    rw [drop_app _ _ _ h2, blo_app]
  · rw [if_neg hX, if_neg hX]
theorem first1_app (s : List UInt8) {c : UInt8} {r : List UInt8} {x : Tk × Nat} (h : first1 (c :: r) = some x) : first1 (c :: r ++ 10 :: s) = some x := by
  cases hc : bi c == 39 with
  | false => rw [first1_rest s c r hc]; exact h
  | true =>
    have e : c :: r ++ 10 :: s = c :: (r ++ 10 :: s) := rfl
    rw [first1_cons, if_pos hc, Option.map_eq_some_iff] at h
    obtain ⟨y, hy, rfl⟩ := h
    rw [e, first1_cons, if_pos hc, quo_app s _ _ _ _ hy]
    rfl
theorem first1_none (s : List UInt8) (hs : ∀ c ∈ s, c ≠ 39) {c : UInt8} {r : List UInt8} (h : first1 (c :: r) = none) : first1 (c :: r ++ 10 :: s) = none := by
  cases hc : bi c == 39 with
  | false => rw [first1_rest s c r hc]; exact h
  | true =>
    have e : c :: r ++ 10 :: s = c :: (r ++ 10 :: s) := rfl
    rw [first1_cons, if_pos hc, Option.map_eq_none_iff] at h
    rw [e, first1_cons, if_pos hc, quo_none s hs _ _ _ h]
    rfl

theorem addT_map (x : Tk × Nat) (xs : List (Tk × Nat)) (R : Except Nat (List (Tk × Nat))) : (addT xs R).map (x :: ·) = addT (x :: xs) R := by
  cases R <;> rfl
/-- The words of two texts. -/
theorem toks_app (s : List UInt8) : ∀ (f : Nat) (l : List UInt8) (i : Nat) (xs : List (Tk × Nat)), l.length < f → toks f l i = .ok xs → ∀ F, (l ++ 10 :: s).length < F → toks F (l ++ 10 :: s) i = addT xs (toks F (10 :: s) (i + l.length))
  | 0, _, _, _, h, _, _, _ => by omega
  | f + 1, [], i, xs, _, h, F, hF => by
    simp only [toks, Except.ok.injEq] at h
    subst h
    rw [addT_nil]
    rfl
  | f + 1, c :: r, i, xs, hf, h, 0, hF => by omega
  | f + 1, c :: r, i, xs, hf, h, G + 1, hF => by
    have e : c :: r ++ 10 :: s = c :: (r ++ 10 :: s) := rfl
    have hlen : (c :: r ++ 10 :: s).length = r.length + s.length + 2 := by simp; omega
    have hsz : (10 :: s).length < G := by rw [hlen] at hF; simp; omega
    rw [e, toks, ← e]
    rw [toks] at h
    simp only [List.length_cons] at hf
    by_cases hb : blk (bi c) = true
    · rw [if_pos hb] at h ⊢
      rw [toks_app s f r (i + 1) xs (by omega) h G (by rw [hlen] at hF; simp; omega), toks_fuel (G + 1) G _ _ (by omega) hsz]
      rw [show i + 1 + r.length = i + (c :: r).length by simp; omega]
    · rw [if_neg hb] at h ⊢
      rw [isR_app]
      by_cases hR : isR (c :: r) = true
      · rw [if_pos hR] at h ⊢
        have hp := isR_cnt hR
        have hle := cntW_le notLF (c :: r)
        rw [cntW_app notLF 10 notLF_10, drop_app _ _ _ hle]
        rw [toks_app s f _ _ xs (by simp; omega) h G (by simp at hlen hF ⊢; omega), toks_fuel (G + 1) G _ _ (by omega) hsz]
        rw [show i + cntW notLF (c :: r) + ((c :: r).drop (cntW notLF (c :: r))).length = i + (c :: r).length by rw [List.length_drop]; omega]
      · rw [if_neg hR] at h ⊢
        cases h1 : first1 (c :: r) with
        | none => rw [h1] at h; simp at h
        | some x =>
          obtain ⟨t, k⟩ := x
          have hk := first1_ge h1
          rw [h1] at h
          rw [first1_app s h1]
          simp only [] at h ⊢
          cases h2 : toks f ((c :: r).drop k) (i + k) with
          | error j => rw [h2] at h; simp [Except.map] at h
          | ok ys =>
            rw [h2] at h
            simp only [Except.map, Except.ok.injEq] at h
            subst h
            rw [drop_app _ _ _ hk.2, toks_app s f _ _ ys (by simp; omega) h2 G (by simp at hlen hF ⊢; omega), toks_fuel (G + 1) G _ _ (by omega) hsz, addT_map]
            rw [show i + k + ((c :: r).drop k).length = i + (c :: r).length by rw [List.length_drop]; omega]
theorem toks_err (s : List UInt8) (hs : ∀ c ∈ s, c ≠ 39) : ∀ (f : Nat) (l : List UInt8) (i j : Nat), l.length < f → toks f l i = .error j → ∀ F, (l ++ 10 :: s).length < F → toks F (l ++ 10 :: s) i = .error j
  | 0, _, _, _, h, _, _, _ => by omega
  | f + 1, [], i, j, _, h, F, hF => by simp [toks] at h
  | f + 1, c :: r, i, j, hf, h, 0, hF => by omega
  | f + 1, c :: r, i, j, hf, h, G + 1, hF => by
    have e : c :: r ++ 10 :: s = c :: (r ++ 10 :: s) := rfl
    have hlen : (c :: r ++ 10 :: s).length = r.length + s.length + 2 := by simp; omega
    rw [e, toks, ← e]
    rw [toks] at h
    simp only [List.length_cons] at hf
    by_cases hb : blk (bi c) = true
    · rw [if_pos hb] at h ⊢
      exact toks_err s hs f r (i + 1) j (by omega) h G (by rw [hlen] at hF; simp; omega)
    · rw [if_neg hb] at h ⊢
      rw [isR_app]
      by_cases hR : isR (c :: r) = true
      · rw [if_pos hR] at h ⊢
        have hp := isR_cnt hR
        have hle := cntW_le notLF (c :: r)
        rw [cntW_app notLF 10 notLF_10, drop_app _ _ _ hle]
        exact toks_err s hs f _ _ j (by simp; omega) h G (by simp at hlen hF ⊢; omega)
      · rw [if_neg hR] at h ⊢
        cases h1 : first1 (c :: r) with
        | none =>
          rw [h1] at h
          rw [first1_none s hs h1]
          exact h
        | some x =>
          obtain ⟨t, k⟩ := x
          have hk := first1_ge h1
          rw [h1] at h
          rw [first1_app s h1]
          simp only [] at h ⊢
          cases h2 : toks f ((c :: r).drop k) (i + k) with
          | ok ys => rw [h2] at h; simp [Except.map] at h
          | error j' =>
            rw [h2] at h
            simp only [Except.map, Except.error.injEq] at h
            subst h
            rw [drop_app _ _ _ hk.2, toks_err s hs f _ _ _ (by simp; omega) h2 G (by simp at hlen hF ⊢; omega)]
            rfl
/-- Places, all later. -/
def shT (d : Nat) : Except Nat (List (Tk × Nat)) → Except Nat (List (Tk × Nat))
  | .ok xs => .ok (xs.map fun x => (x.1, x.2 + d))
  | .error j => .error (j + d)
theorem toks_sh (d : Nat) : ∀ (f : Nat) (l : List UInt8) (i : Nat), toks f l (i + d) = shT d (toks f l i)
  | 0, _, _ => rfl
  | f + 1, [], i => rfl
  | f + 1, c :: r, i => by
    rw [toks, toks]
    by_cases hb : blk (bi c) = true
    · rw [if_pos hb, if_pos hb, ← toks_sh d f r, Nat.add_right_comm]
    · rw [if_neg hb, if_neg hb]
      by_cases hR : isR (c :: r) = true
      · rw [if_pos hR, if_pos hR, ← toks_sh d f, Nat.add_right_comm]
      · rw [if_neg hR, if_neg hR]
        cases h1 : first1 (c :: r) with
        | none => rfl
        | some x =>
          obtain ⟨t, k⟩ := x
          simp only []
          rw [Nat.add_right_comm, toks_sh d f]
          cases toks f ((c :: r).drop k) (i + k) <;> rfl
theorem blk_10 : blk (bi 10) = true := by decide
theorem toks_lf (F : Nat) (s : List UInt8) (i : Nat) (h : (10 :: s).length < F) : toks F (10 :: s) i = toks F s (i + 1) := by
  cases F with
  | zero => omega
  | succ G =>
    rw [toks, if_pos blk_10]
    exact toks_fuel _ _ _ _ (by simp at h; omega) (by simp at h; omega)
theorem toksOf_cat {a b : List UInt8} {x y : List (Tk × Nat)} (ha : toksOf a = .ok x) (hb : toksOf b = .ok y) : toksOf (a ++ 10 :: b) = .ok (x ++ y.map fun z => (z.1, z.2 + (a.length + 1))) := by
  unfold toksOf at ha
  have h1 := toks_app b _ a 0 x (by omega) ha ((a ++ 10 :: b).length + 1) (by omega)
  unfold toksOf
  rw [h1, toks_lf _ _ _ (by simp; omega)]
  have h2 := toks_sh (0 + a.length + 1) ((a ++ 10 :: b).length + 1) b 0
  rw [Nat.zero_add (0 + a.length + 1)] at h2
  rw [h2, toks_fuel ((a ++ 10 :: b).length + 1) (b.length + 1) b 0 (by simp; omega) (by omega)]
  unfold toksOf at hb
  rw [hb, Nat.zero_add]
  rfl
end Go.Proofs.YtblkhlhhlalbkaaGreatDoor
