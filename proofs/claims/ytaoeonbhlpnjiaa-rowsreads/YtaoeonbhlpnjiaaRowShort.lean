/- What the laws' own short answers, and both Encodes in one form. Condition: the row lies within the reach. -/
import Derived.Test.YtaoeonbhlpnjiaaRowEncode
import Derived.Test.YtaoeonbhlpnjiaaMemRows
namespace Go.Proofs.Ytaoeonbhlpnjiaa
open Go.RowKit Go.Lib Go.Sort
set_option linter.unusedVariables false

/-- How many bytes the texts have. -/
def sumS : List Val → Nat
  | [] => 0
  | a :: xs => a.s.size + sumS xs
theorem sumS_append : ∀ xs ys : List Val, sumS (xs ++ ys) = sumS xs + sumS ys
  | [], ys => by simp [sumS]
  | a :: xs, ys => by simp only [List.cons_append, sumS, sumS_append xs ys]; omega
theorem sumS_take (xs : List Val) (k : Nat) : sumS (xs.take k) ≤ sumS xs := by
  conv => rhs; rw [← List.take_append_drop k xs]
  rw [sumS_append]
  omega
theorem bulk_sum : ∀ xs : List Val, bulkR xs = sumS xs + xs.length
  | [] => rfl
  | a :: xs => by simp only [bulkR, sumS, bulk_sum xs, List.length_cons]; omega
def shortW (xs : List Val) : Bool := decide (sumS xs < 100000) && decide (xs.length < 10000)
theorem shortW_bulk {xs : List Val} (h : shortW xs = true) : bulkR xs ≤ 110000 := by
  unfold shortW at h
  simp only [Bool.and_eq_true, decide_eq_true_eq] at h
  rw [bulk_sum]
  omega

set_option maxRecDepth 20000 in
set_option maxHeartbeats 2000000 in
theorem short_any (p : Option Addr) (xs : List Val) (cx : Nat) (w : World) (rX : Row w p xs) (hb : xs.length * 32 ≤ 140737488351232) :
    Calls Try.prog 9 #[.slice p xs.length cx] w fun e w' => e = .returned (.bool (shortW xs)) ∧ w' = w := by
  have HX : Hid (Row w p xs) := rX
  clear rX
  have HS : Hid (∀ b, shortW xs = b → shortW xs = b) := fun _ h => h
  have HF : Hid (100000 ≤ sumS xs → shortW xs = false) := fun h => by
    unfold shortW
    rw [decide_eq_false (by omega)]
    rfl
  have HE : Hid (∀ n, sumS xs = n → shortW xs = (decide ((n : Int) < 100000) && decide ((xs.length : Int) < 10000))) := fun n hn => by
    subst hn
    unfold shortW
    have e1 : decide (sumS xs < 100000) = decide ((sumS xs : Int) < 100000) := decide_eq_decide.2 (by omega)
    have e2 : decide (xs.length < 10000) = decide ((xs.length : Int) < 10000) := decide_eq_decide.2 (by omega)
    rw [e1, e2]
  generalize shortW xs = sh at *
  go_enter Try.func9, Try.ntmps9
  go_wp2
  go_loopw [3, 4] (fun n i wr => ∃ k : Nat, k ≤ xs.length ∧ i = .int .i64 k ∧ n = .int .i64 (sumS (xs.take k) : Int) ∧ sumS (xs.take k) ≤ 100000 * k ∧ wr = w) (fun _ i _ => xs.length - (RowKit.intOf i).toNat)
  case atStart => exact ⟨0, Nat.zero_le _, rfl, by simp [sumS], by simp [sumS], rfl⟩
  case round =>
    obtain ⟨k, hk, rfl, rfl, hs, rfl⟩ := hrel
    by_cases hx : k < xs.length
    · obtain ⟨b1, o1, rfl, c10, c11, c12⟩ := HX.out.at hx
      have hT : sumS (xs.take (k + 1)) = sumS (xs.take k) + xs[k].s.size := by
        rw [List.take_succ_eq_append_getElem hx, sumS_append]
        simp [sumS]
      have hT2 := sumS_take xs (k + 1)
      generalize xs[k] = x at *
      obtain ⟨xk, xn, xt⟩ := x
      simp only [] at c10 c11 c12 hT
      have HT : Hid (sumS (xs.take (k + 1)) = sumS (xs.take k) + xt.size) := hT
      by_cases hbig : 100000 < xt.size
      · have hf : sh = false := HF.out (by omega)
        clear hT hT2
        generalize sumS (xs.take k) = sk at *
        go_wp2
        go_ret
        exact ⟨ret_bool hf.symm, rfl⟩
      · clear hT hT2
        generalize sumS (xs.take k) = sk at *
        go_wp2
        go_roundw
        case rel => exact ⟨k + 1, by omega, by go_num, by rw [HT.out]; go_num, by rw [HT.out]; omega, by first | rfl | trivial⟩
        case measure => simp [RowKit.intOf]; omega
    · obtain rfl : k = xs.length := by omega
      rw [List.take_length] at hs
      have hE := HE.out _ rfl
      have htl : sumS (xs.take xs.length) = sumS xs := by rw [List.take_length]
      rw [htl]
      generalize sumS xs = sk at *
      clear htl hs
      have HS2 : Hid (sh = (decide ((sk : Int) < 100000) && decide ((xs.length : Int) < 10000))) := hE
      clear hE
      generalize d1 : decide ((sk : Int) < 100000) = b1 at *
      generalize d2 : decide ((xs.length : Int) < 10000) = b2 at *
      cases b1
      · go_wp2
        go_ret
        exact ⟨ret_bool HS2.out.symm, rfl⟩
      · cases b2
        · go_wp2
          go_ret
          exact ⟨ret_bool HS2.out.symm, rfl⟩
        · go_wp2
          go_ret
          exact ⟨ret_bool HS2.out.symm, rfl⟩

/-- What Encode answers, in one form. -/
def errE (xs : List Val) : Int := if xs.all Val.right = true then (if 2048 < (encW xs).length then 8 else 0) else 3
def bytE (xs : List Val) : List UInt8 := if xs.all Val.right = true then (if 2048 < (encW xs).length then [] else encW xs) else []
theorem encEndW.uni {xs : List Val} {w w' : World} {e : Ending} (h : encEndW xs w e w') : Below w.heap.size w w' ∧ ∃ v, e = .returned (.tuple #[v, .int .i64 (errE xs)]) ∧ OwnB w' w.heap.size v (bytE xs) := by
  obtain ⟨B, ⟨h, he⟩ | ⟨h, hb, he⟩ | ⟨h, hb, v, he, O⟩⟩ := h
  · have e1 : errE xs = 3 := by unfold errE; rw [h]; rfl
    have e2 : bytE xs = [] := by unfold bytE; rw [h]; rfl
    rw [e1, e2]
    exact ⟨B, _, he, own_nil _ _⟩
  · have e1 : errE xs = 8 := by unfold errE; rw [if_pos h, if_pos hb]
    have e2 : bytE xs = [] := by unfold bytE; rw [if_pos h, if_pos hb]
    rw [e1, e2]
    exact ⟨B, _, he, own_nil _ _⟩
  · have e1 : errE xs = 0 := by unfold errE; rw [if_pos h, if_neg (by omega)]
    have e2 : bytE xs = encW xs := by unfold bytE; rw [if_pos h, if_neg (by omega)]
    rw [e1, e2]
    exact ⟨B, v, he, O⟩
/-- A row that is written has right values and its bytes. -/
theorem errE_ok {xs : List Val} (h : errE xs = 0) : xs.all Val.right = true ∧ (encW xs).length ≤ 2048 ∧ bytE xs = encW xs ∧ sizeW xs = (encW xs).length := by
  unfold errE at h
  split at h
  · rename_i h1
    split at h
    · omega
    · rename_i h2
      refine ⟨h1, by omega, ?_, ?_⟩
      · unfold bytE; rw [if_pos h1, if_neg h2]
      · unfold sizeW; rw [if_pos h1]
  · omega
theorem bytE_bad {xs : List Val} (h : errE xs ≠ 0) : bytE xs = [] := by
  unfold errE at h
  unfold bytE
  split at h
  · rename_i h1
    split at h
    · rename_i h2
      rw [if_pos h1, if_pos h2]
    · omega
  · rename_i h1
    rw [if_neg h1]
theorem bytE_len (xs : List Val) : (bytE xs).length ≤ 2048 := by
  unfold bytE
  split
  · split
    · simp
    · omega
  · simp
end Go.Proofs.Ytaoeonbhlpnjiaa
