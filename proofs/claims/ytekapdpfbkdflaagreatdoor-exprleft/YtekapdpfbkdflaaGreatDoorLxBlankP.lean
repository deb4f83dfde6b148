/- Plain mathematics: blanks and a remark ahead of a text, and a remark behind it. No program is named here. No conditions. -/
import Derived.Test.YtekapdpfbkdflaaGreatDoorLxCatP
namespace Go.Proofs.YtekapdpfbkdflaaGreatDoor
open Go.Lib
set_option linter.unusedVariables false
set_option maxRecDepth 20000

theorem cntW_rem (rest : List UInt8) : ∀ (R : List UInt8), (∀ c ∈ R, notLF c = true) → cntW notLF (R ++ 10 :: rest) = R.length
  | [], _ => by simp [cntW, notLF_10]
  | c :: r, h => by
    simp only [List.cons_append, cntW]
    rw [if_pos (h c (by simp)), cntW_rem rest r (fun x hx => h x (List.mem_cons_of_mem _ hx))]
    rfl
theorem toks_remark (R rest : List UInt8) (hR : ∀ c ∈ R, notLF c = true) (F i : Nat) (hF : (45 :: 45 :: R ++ 10 :: rest).length < F) : toks F (45 :: 45 :: R ++ 10 :: rest) i = toks F rest (i + R.length + 3) := by
  cases F with
  | zero => omega
  | succ G =>
    have hlen : (45 :: 45 :: R ++ 10 :: rest).length = R.length + rest.length + 3 := by simp; omega
    have hc := cntW_rem rest (45 :: 45 :: R) (fun c hc => by
      rcases List.mem_cons.1 hc with rfl | hc
      · decide
      · rcases List.mem_cons.1 hc with rfl | hc
        · decide
        · exact hR c hc)
    have e : (45 : UInt8) :: 45 :: R ++ 10 :: rest = 45 :: (45 :: R ++ 10 :: rest) := rfl
    rw [e, toks, ← e]
    rw [if_neg (by decide), if_pos (by rfl), hc]
    have hd : (45 :: 45 :: R ++ 10 :: rest).drop (45 :: 45 :: R).length = 10 :: rest := by
      rw [drop_app _ _ _ (Nat.le_refl _), List.drop_length]
      rfl
    rw [hd, toks_lf G rest _ (by rw [hlen] at hF; simp; omega), toks_fuel G (G + 1) _ _ (by rw [hlen] at hF; omega) (by rw [hlen] at hF; omega)]
    congr 1
theorem toks_ahead (rest : List UInt8) : ∀ (A : List UInt8), (∀ c ∈ A, blk (bi c) = true) → ∀ (F i : Nat), (A ++ rest).length < F → toks F (A ++ rest) i = toks F rest (i + A.length)
  | [], _, F, i, _ => rfl
  | c :: r, h, 0, i, hF => by omega
  | c :: r, h, G + 1, i, hF => by
    have hlen : (c :: r ++ rest).length = r.length + rest.length + 1 := by simp <;> omega
    rw [hlen] at hF
    rw [List.cons_append, toks, if_pos (h c (by simp)), toks_ahead rest r (fun x hx => h x (List.mem_cons_of_mem _ hx)) G (i + 1) (by simp; omega), toks_fuel G (G + 1) _ _ (by omega) (by omega)]
    rw [show i + 1 + r.length = i + (c :: r).length by simp <;> omega]
def tailE : List UInt8 := [32, 45, 45, 32, 101, 110, 100]
theorem toks_tail (F i : Nat) (hF : (10 :: tailE).length < F) : toks F (10 :: tailE) i = .ok [] := by
  rw [toks_fuel F 9 _ _ hF (by decide)]
  rfl
theorem addT_none (xs : List (Tk × Nat)) : addT xs (.ok []) = .ok xs := by simp [addT]
/-- The words of a text with blanks and remarks about it. -/
theorem toksOf_about (A R t : List UInt8) (hA : ∀ c ∈ A, blk (bi c) = true) (hR : ∀ c ∈ R, notLF c = true) :
    toksOf (A ++ (45 :: 45 :: R ++ 10 :: (t ++ 10 :: tailE))) = shT (A.length + R.length + 3) (toksOf t) := by
  have hl : (A ++ (45 :: 45 :: R ++ 10 :: (t ++ 10 :: tailE))).length = A.length + R.length + 3 + (t ++ 10 :: tailE).length := by simp; omega
  obtain ⟨F, hF⟩ : ∃ F, F = (A ++ (45 :: 45 :: R ++ 10 :: (t ++ 10 :: tailE))).length + 1 := ⟨_, rfl⟩
  unfold toksOf
  rw [← hF]
  rw [toks_ahead _ A hA F 0 (by omega), toks_remark R _ hR F _ (by simp at hl hF ⊢; omega)]
  have h2 := toks_sh (A.length + R.length + 3) F (t ++ 10 :: tailE) 0
  rw [show 0 + A.length + R.length + 3 = 0 + (A.length + R.length + 3) by omega, h2]
  congr 1
  have hT : (t ++ 10 :: tailE).length = t.length + 8 := by simp [tailE]
  cases h : toks (t.length + 1) t 0 with
  | ok xs =>
    rw [toks_app tailE _ t 0 xs (by omega) h F (by omega), toks_tail F _ (by simp [tailE]; omega), addT_none]
  | error j => exact toks_err tailE (by decide) _ t 0 j (by omega) h F (by omega)
end Go.Proofs.YtekapdpfbkdflaaGreatDoor
