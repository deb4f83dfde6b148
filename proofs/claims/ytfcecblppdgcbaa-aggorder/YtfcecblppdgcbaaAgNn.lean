/- What is gathered of the values of a list that are not NULL, and how it stands. Conditions: numbers within the numbers, texts within the reach. -/
import Derived.Test.YtfcecblppdgcbaaAgPlaysWalk
namespace Go.Proofs.Ytfcecblppdgcbaa
open Go.RowKit Go.Lib Go.Sort
set_option linter.unusedVariables false
set_option maxRecDepth 20000

def nn (xs : List Val) : List Val := xs.filter fun v => v.k != 0
theorem nn_cons (v : Val) (r : List Val) : nn (v :: r) = if v.k = 0 then nn r else v :: nn r := by
  unfold nn
  by_cases h : v.k = 0
  · simp [h]
  · simp [h]
theorem nn_append (a b : List Val) : nn (a ++ b) = nn a ++ nn b := List.filter_append ..
theorem nn_mem {xs : List Val} {x : Val} : x ∈ nn xs ↔ x ∈ xs ∧ x.k ≠ 0 := by unfold nn; simp
theorem raddL_nn {op : Int} (h2 : op ≠ 2) (L : List Val) (v : Val) : raddL op false L v = L ++ nn [v] := by
  unfold raddL
  rw [nn_cons]
  by_cases h : v.k = 0
  · simp [h, nn]
  · simp [h, h2, nn]
theorem raddE_nn {op : Int} (h2 : op ≠ 2) (L : List Val) (v : Val) : raddE op false L v = 0 := by
  unfold raddE
  simp [h2]
theorem runA_gat {op : Int} (ho : 1 ≤ op ∧ op ≤ 4) (h2 : op ≠ 2) : ∀ (xs L : List Val), NoNull op L → runA op false (gatV op L) xs = some (gatV op (L ++ nn xs))
  | [], L, _ => by simp [runA, nn]
  | v :: r, L, hN => by
    obtain ⟨s1, _, s3⟩ := both_step (rows := false) (v := v) ho (fun h => by cases h) (fun h => absurd h h2) hN
    rw [runA, s1, raddE_nn h2, if_pos rfl]
    rw [raddL_nn h2] at s3 ⊢
    rw [runA_gat ho h2 r _ s3, List.append_assoc, ← nn_append]
    rfl
theorem gath_nn (op : Int) (xs : List Val) (p : Option Addr) (c : Nat) (w : World) (ho : 1 ≤ op ∧ op ≤ 4) (h2 : op ≠ 2) (hA : xs.length ≤ 1000) (rA : Row w p xs) (hx : ∀ x ∈ xs, inR x.n ∧ x.s.size ≤ 281474976710655) :
    Calls Try.prog 16 #[.int .i64 op, .slice p xs.length c] w fun e w' => e = .returned (.tuple #[(gatV op (nn xs)).v, .bool true]) ∧ Below w.heap.size w w' := by
  have h := gathered_any op xs p c w ho hA rA hx
  rw [← gat_nil, runA_gat ho h2 xs [] (fun _ x hx => by cases hx)] at h
  exact h

theorem le_trans' {a b c : Val} (h : cmpV a b ≤ 0) (k : cmpV b c ≤ 0) : cmpV a c ≤ 0 := (cmpV_trans a b c h k).1
theorem fold3 : ∀ (r : List Val) (m x : Val), (x = m ∨ x ∈ r) → cmpV (r.foldl (bestV 3) m) x ≤ 0
  | [], m, x, h => by
    rcases h with rfl | h
    · rw [List.foldl_nil, cmpV_self]; decide
    · cases h
  | y :: r, m, x, h => by
    rw [List.foldl_cons]
    have h1 := fold3 r (bestV 3 m y) (bestV 3 m y) (Or.inl rfl)
    have hm : cmpV (bestV 3 m y) m ≤ 0 ∧ cmpV (bestV 3 m y) y ≤ 0 := by
      unfold bestV
      have t := cmpV_turn m y
      split
      · rename_i hh
        have hh : cmpV y m < 0 := by rcases hh with hh | hh; exact hh.2; exact absurd hh.1 (by decide)
        exact ⟨by omega, by rw [cmpV_self]; decide⟩
      · rename_i hh
        have hh : ¬ cmpV y m < 0 := fun h => hh (Or.inl ⟨rfl, h⟩)
        exact ⟨by rw [cmpV_self]; decide, by omega⟩
    rcases h with rfl | h
    · exact le_trans' h1 hm.1
    · rcases List.mem_cons.1 h with rfl | h
      · exact le_trans' h1 hm.2
      · exact fold3 r _ x (Or.inr h)
theorem fold4 : ∀ (r : List Val) (m x : Val), (x = m ∨ x ∈ r) → cmpV x (r.foldl (bestV 4) m) ≤ 0
  | [], m, x, h => by
    rcases h with rfl | h
    · rw [List.foldl_nil, cmpV_self]; decide
    · cases h
  | y :: r, m, x, h => by
    rw [List.foldl_cons]
    have h1 := fold4 r (bestV 4 m y) (bestV 4 m y) (Or.inl rfl)
    have hm : cmpV m (bestV 4 m y) ≤ 0 ∧ cmpV y (bestV 4 m y) ≤ 0 := by
      unfold bestV
      have t := cmpV_turn m y
      split
      · rename_i hh
        have hh : 0 < cmpV y m := by rcases hh with hh | hh; exact absurd hh.1 (by decide); exact hh.2
        exact ⟨by omega, by rw [cmpV_self]; decide⟩
      · rename_i hh
        have hh : ¬ 0 < cmpV y m := fun h => hh (Or.inr ⟨rfl, h⟩)
        exact ⟨by rw [cmpV_self]; decide, by omega⟩
    rcases h with rfl | h
    · exact le_trans' hm.1 h1
    · rcases List.mem_cons.1 h with rfl | h
      · exact le_trans' hm.2 h1
      · exact fold4 r _ x (Or.inr h)
theorem best3 {L : List Val} {x : Val} (h : x ∈ L) : cmpV (bestL 3 L) x ≤ 0 := by
  cases L with
  | nil => cases h
  | cons y r => exact fold3 r y x (List.mem_cons.1 h)
theorem best4 {L : List Val} {x : Val} (h : x ∈ L) : cmpV x (bestL 4 L) ≤ 0 := by
  cases L with
  | nil => cases h
  | cons y r => exact fold4 r y x (List.mem_cons.1 h)
theorem gat_best {op : Int} (h1 : op ≠ 1) (h2 : op ≠ 2) {L : List Val} (hL : L ≠ []) : gatV op L = bestL op L := by unfold gatV; rw [if_neg h1, if_neg hL, if_neg h2]
theorem gat_mem {op : Int} (h1 : op ≠ 1) (h2 : op ≠ 2) (L : List Val) : gatV op L = nullV ∧ L = [] ∨ gatV op L ∈ L := by
  by_cases hL : L = []
  · subst hL
    left
    exact ⟨by unfold gatV; rw [if_neg h1, if_pos rfl], rfl⟩
  · right
    rw [gat_best h1 h2 hL]
    exact best_or op L hL
theorem eqb_self (a : Val) : a.eqb a = true := by unfold Val.eqb; exact eqv_same _ _ _
end Go.Proofs.Ytfcecblppdgcbaa
