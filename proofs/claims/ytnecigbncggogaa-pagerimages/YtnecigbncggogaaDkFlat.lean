/- Plain mathematics: pages one behind the other as one row of bytes; bytes laid over it. No conditions. -/
import Derived.Test.YtnecigbncggogaaDkImage
namespace Go.Proofs.Ytnecigbncggogaa
open Go.RowKit
set_option linter.unusedVariables false
set_option maxRecDepth 20000

/-- The first k pages, one behind the other. -/
def flatL (L : Int → List UInt8) : Nat → List UInt8
  | 0 => []
  | k + 1 => flatL L k ++ L (k : Int)
theorem flatL_len {L : Int → List UInt8} (h : ∀ k, (L k).length = 512) : ∀ k, (flatL L k).length = k * 512
  | 0 => rfl
  | k + 1 => by
    show (flatL L k ++ L (k : Int)).length = _
    rw [List.length_append, flatL_len h k, h]
    omega
theorem flatL_congr {L M : Int → List UInt8} : ∀ k, (∀ j : Nat, j < k → L (j : Int) = M (j : Int)) → flatL L k = flatL M k
  | 0, _ => rfl
  | k + 1, h => by
    show flatL L k ++ L (k : Int) = flatL M k ++ M (k : Int)
    rw [flatL_congr k (fun j hj => h j (by omega)), h k (by omega)]
theorem flatL_zero : ∀ k, flatL (fun _ => zero512) k = zeros (k * 512)
  | 0 => rfl
  | k + 1 => by
    show flatL (fun _ => zero512) k ++ zero512 = _
    rw [flatL_zero k]
    unfold zeros zero512
    rw [List.replicate_append_replicate, Nat.succ_mul]
theorem flatL_at {L : Int → List UInt8} (h : ∀ k, (L k).length = 512) (j : Nat) : ∀ k, j < k → ∀ i, i < 512 → (flatL L k)[j * 512 + i]? = (L (j : Int))[i]?
  | 0, hj, _, _ => by omega
  | k + 1, hj, i, hi => by
    show (flatL L k ++ L (k : Int))[j * 512 + i]? = _
    have hl := flatL_len h k
    by_cases e : j = k
    · subst e
      rw [List.getElem?_append_right (by omega), hl, Nat.add_sub_cancel_left]
    · rw [List.getElem?_append_left (by omega)]
      exact flatL_at h j k (by omega) i hi
theorem splice_left {α : Type} (F R a : List α) (o : Nat) (h : o + a.length ≤ F.length) : splice (F ++ R) o a = splice F o a ++ R := by
  unfold splice
  rw [List.take_append_of_le_length (by omega), List.drop_append_of_le_length h]
  simp
theorem splice_right {α : Type} (F R a : List α) : splice (F ++ R) F.length a = F ++ (a ++ R.drop a.length) := by
  unfold splice
  rw [List.take_left, List.drop_append]
  simp
theorem flatL_put {L : Int → List UInt8} (h : ∀ k, (L k).length = 512) (j : Nat) (a : List UInt8) (ha : a.length ≤ 512) : ∀ k, j < k → splice (flatL L k) (j * 512) a = flatL (putP L (j : Int) (over a (L (j : Int)))) k
  | 0, hj => by omega
  | k + 1, hj => by
    show splice (flatL L k ++ L (k : Int)) (j * 512) a = flatL (putP L (j : Int) (over a (L (j : Int)))) k ++ putP L (j : Int) (over a (L (j : Int))) (k : Int)
    have hl := flatL_len h k
    by_cases e : j = k
    · subst e
      rw [← hl, splice_right]
      congr 1
      · exact flatL_congr _ (fun i hi => by unfold putP; rw [if_neg (by omega)])
      · unfold putP
        rw [if_pos rfl]
        rfl
    · rw [splice_left _ _ _ _ (by omega), flatL_put h j a ha k (by omega)]
      congr 1
      unfold putP
      rw [if_neg (by omega)]
theorem bcells_splice (l a : List UInt8) (o : Nat) : splice (bcells l) o (bcells a) = bcells (splice l o a) := by
  unfold splice
  rw [bcells_len, bcells_take, bcells_drop, bcells_append, bcells_append]
theorem imgTo_flat (d : Dk) : ∀ k, imgTo d k = flatL d.has k
  | 0 => rfl
  | k + 1 => by
    show imgTo d k ++ d.has (k : Int) = flatL d.has k ++ d.has (k : Int)
    rw [imgTo_flat d k]
theorem hasIn_take (n : Int) (b : List UInt8) (l : List (Int × List UInt8)) (k : Nat) (h : k < l.length) : hasIn n b (l.take (k + 1)) = if l[k].1 = n then l[k].2 else hasIn n b (l.take k) := by
  rw [List.take_succ_eq_append_getElem h, hasIn_append]
  rfl
theorem settleIn_take (c : Nat → Nat) (l : List (Int × List UInt8)) (L : Int → List UInt8) (k : Nat) (h : k < l.length) : settleIn c (l.take (k + 1)) 0 L = putP (settleIn c (l.take k) 0 L) l[k].1 (over (l[k].2.take (c k)) (settleIn c (l.take k) 0 L l[k].1)) := by
  rw [List.take_succ_eq_append_getElem h, settleIn_snoc]
  have : (l.take k).length = k := by simp; omega
  rw [this, Nat.zero_add]
end Go.Proofs.Ytnecigbncggogaa
