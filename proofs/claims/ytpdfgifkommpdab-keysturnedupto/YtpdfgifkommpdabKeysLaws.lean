/- The laws' own right and order. Condition: the slices' lengths are Go's. -/
import Derived.Test.YtpdfgifkommpdabKeysWorks
namespace Go.Proofs.Ytpdfgifkommpdab
open Go.RowKit Go.Lib Go.Sort
set_option linter.unusedVariables false

set_option maxHeartbeats 1000000 in
theorem right_any (xs : List Val) (p : Option Addr) (c : Nat) (w : World) (hL : xs.length ≤ maxLen) (rX : Row w p xs) :
    Calls Try.prog 5 #[.slice p xs.length c] w fun e w' => e = .returned (.bool (xs.all Val.right)) ∧ Below w.heap.size w w' := by
  unfold maxLen at hL
  have HX : Hid (Row w p xs) := rX
  clear rX
  generalize hal : xs.all Val.right = al
  have HAL : Hid (xs.all Val.right = al) := hal
  clear hal
  go_enter Try.func5, Try.ntmps5
  go_wp2
  go_loopw [3] (fun i wr => ∃ k : Nat, k ≤ xs.length ∧ i = .int .i64 k ∧ (∀ v ∈ xs.take k, v.right = true) ∧ Below w.heap.size w wr) (fun i _ => xs.length - (RowKit.intOf i).toNat)
  case atStart => exact ⟨0, Nat.zero_le _, rfl, by simp, Below.refl _ _⟩
  case round =>
    obtain ⟨k, hks, rfl, hr, B⟩ := hrel
    have HB : Hid (Below w.heap.size w wr) := B
    clear B
    by_cases hx : k < xs.length
    · obtain ⟨b1, o1, rfl, c10, c11, c12⟩ := (HX.out.below HB.out).at hx
      have hmem : xs[k] ∈ xs := List.getElem_mem hx
      have HTR : Hid (∀ v ∈ xs.take (k + 1), v ∈ xs.take k ∨ v = xs[k]) := by
        intro v hv
        rw [List.take_succ_eq_append_getElem hx] at hv
        rcases List.mem_append.1 hv with h | h
        · exact Or.inl h
        · exact Or.inr (List.mem_singleton.1 h)
      have HA : Hid (xs[k].right = false → xs.all Val.right = false) := fun h => by
        rw [List.all_eq_false]
        exact ⟨xs[k], hmem, by rw [h]; decide⟩
      generalize xs[k] = x at *
      have C := fun W => refCheck_any x W
      cases hrx : x.right
      · have e1 := checkV_wrong hrx
        generalize checkV x = ch at *
        obtain ⟨xk, xn, xt⟩ := x
        simp only [Val.v] at C
        simp only [] at c10 c11 c12
        have hr' : Hid (al = false) := HAL.out.symm.trans (HA.out hrx)
        go_wp2_with (first
          | (go_at_call 10; with_reducible refine (C _).mono ?_; rintro e w2 ⟨rfl, B2⟩; have HB2 := hid B2; clear B2)
          | fail)
        go_ret
        exact ⟨by rw [hr'.out]; rfl, HB.out.trans (HB2.out.mono HB.out.size)⟩
      · have e1 := checkV_right hrx
        rw [e1] at C
        clear e1
        have HR : Hid (x.right = true) := hrx
        clear hrx
        obtain ⟨xk, xn, xt⟩ := x
        simp only [Val.v] at C
        simp only [] at c10 c11 c12
        go_wp2_with (first
          | (go_at_call 10; with_reducible refine (C _).mono ?_; rintro e w2 ⟨rfl, B2⟩; have HB2 := hid B2; clear B2)
          | fail)
        go_roundw
        case rel => exact ⟨k + 1, by omega, by go_num, fun v hv => (HTR.out v hv).elim (hr v) (fun e => by rw [e]; exact HR.out), HB.out.trans (HB2.out.mono HB.out.size)⟩
        case measure => simp [RowKit.intOf]; omega
    · obtain rfl : k = xs.length := by omega
      rw [List.take_length] at hr
      have hr' : Hid (al = true) := HAL.out.symm.trans (List.all_eq_true.2 hr)
      clear hr
      go_wp2
      go_ret
      exact ⟨by rw [hr'.out]; rfl, HB.out⟩

set_option maxHeartbeats 1000000 in
theorem order_any (p1 p2 : Option Addr) (l1 l2 : List UInt8) (c1 c2 : Nat) (w : World) (r1 : Byts w p1 l1) (r2 : Byts w p2 l2) :
    Calls Try.prog 7 #[.slice p1 l1.length c1, .slice p2 l2.length c2] w fun e w' => e = .returned (.int .i64 (compareBytes l1 l2)) ∧ w' = w := by
  have h1 := conv_byts c1 r1
  have h2 := conv_byts c2 r2
  have e1 := less_cmp l1 l2
  have e2 := eq_cmp l1 l2
  have hb := compareBytes_bd l1 l2
  clear r1 r2
  have hc : compareBytes l1 l2 = -1 ∨ compareBytes l1 l2 = 0 ∨ compareBytes l1 l2 = 1 := by omega
  rcases hc with h | h | h
  · rw [h] at e1 e2 ⊢
    replace e1 : Op.bytesLess l1 l2 = true := e1
    replace e2 : (l1 == l2) = false := e2
    go_enter Try.func7, Try.ntmps7
    go_wp2
    go_ret
    exact ⟨rfl, rfl⟩
  · rw [h] at e1 e2 ⊢
    replace e1 : Op.bytesLess l1 l2 = false := e1
    replace e2 : (l1 == l2) = true := e2
    go_enter Try.func7, Try.ntmps7
    go_wp2
    go_ret
    exact ⟨rfl, rfl⟩
  · rw [h] at e1 e2 ⊢
    replace e1 : Op.bytesLess l1 l2 = false := e1
    replace e2 : (l1 == l2) = false := e2
    go_enter Try.func7, Try.ntmps7
    go_wp2
    go_ret
    exact ⟨rfl, rfl⟩
end Go.Proofs.Ytpdfgifkommpdab
