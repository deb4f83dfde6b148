/- The document's SameRow answers false at two rows that differ. Condition: the slices' lengths are Go's. -/
import Derived.Test.YtaoeonbhlpnjiaaValSame
import Derived.Laws.StructEq
namespace Go.Proofs.Ytaoeonbhlpnjiaa
open Go.RowKit Go.Lib Go.Sort
set_option linter.unusedVariables false

theorem text_eq {s t : ByteArray} (h : s.data.toList = t.data.toList) : s = t := by
  obtain ⟨⟨a⟩⟩ := s
  obtain ⟨⟨b⟩⟩ := t
  simp at h
  subst h
  rfl
theorem val_ne {a b : Val} (h : a ≠ b) : a.k ≠ b.k ∨ (a.k = b.k ∧ a.n ≠ b.n) ∨ (a.k = b.k ∧ a.n = b.n ∧ a.s ≠ b.s) := by
  obtain ⟨k1, n1, s1⟩ := a
  obtain ⟨k2, n2, s2⟩ := b
  simp only [ne_eq, Val.mk.injEq, not_and] at h ⊢
  by_cases h1 : k1 = k2
  · by_cases h2 : n1 = n2
    · exact Or.inr (Or.inr ⟨h1, h2, h h1 h2⟩)
    · exact Or.inr (Or.inl ⟨h1, h2⟩)
  · exact Or.inl h1

set_option maxHeartbeats 1000000 in
theorem sameRow_ne (xs ys : List Val) (pa pb : Option Addr) (ca cb : Nat) (w : World) (hA : xs.length ≤ maxLen) (hB : ys.length ≤ maxLen) (rA : Row w pa xs) (rB : Row w pb ys) (hne : xs ≠ ys) :
    Calls Try.prog 14 #[.slice pa xs.length ca, .slice pb ys.length cb] w fun e w' => e = .returned (.bool false) ∧ Below w.heap.size w w' := by
  unfold maxLen at hA hB
  by_cases hl : xs.length = ys.length
  · have HN : Hid (xs ≠ ys) := hne
    have HLn : Hid (xs.length = ys.length) := hl
    have RB : Hid (Row w pb ys) := rB
    clear hne rB
    rw [← hl]
    clear hl
    go_enter Try.func14, Try.ntmps14
    go_wp2
    go_loopw [5] (fun i wr => ∃ k : Nat, k ≤ xs.length ∧ i = .int .i64 k ∧ xs.take k = ys.take k ∧ ∃ n, wr = w.drewN n) (fun i _ => xs.length - (intOf i).toNat)
    case atStart => exact ⟨0, Nat.zero_le _, rfl, rfl, 0, rfl⟩
    case round =>
      obtain ⟨k, hkx, rfl, hT, n, rfl⟩ := hrel
      by_cases hx : k < xs.length
      · have hy : k < ys.length := by rw [← HLn.out]; exact hx
        obtain ⟨b1, o1, rfl, c10, c11, c12⟩ := rA.at hx
        obtain ⟨b2, o2, rfl, c20, c21, c22⟩ := RB.out.at hy
        by_cases heq : xs[k] = ys[k]
        · have HT : Hid (xs.take (k + 1) = ys.take (k + 1)) := by
            show _ = _
            rw [List.take_succ_eq_append_getElem hx, List.take_succ_eq_append_getElem hy, hT, heq]
          rw [← heq] at c20 c21 c22
          clear hT
          generalize xs[k] = x at *
          obtain ⟨xk, xn, xt⟩ := x
          go_wp2
          go_quiet (fail)
          go_wp2
          go_roundw
          case rel => exact ⟨k + 1, by omega, by go_num, HT.out, _, rfl⟩
          case measure => simp [intOf]; omega
        · have hv := val_ne heq
          clear hT
          generalize xs[k] = x at *
          generalize ys[k] = y at *
          clear heq
          obtain ⟨xk, xn, xt⟩ := x
          obtain ⟨yk, yn, yt⟩ := y
          simp only [] at hv c10 c11 c12 c20 c21 c22
          rcases hv with h1 | ⟨rfl, h1⟩ | ⟨rfl, rfl, h1⟩
          · have e1 : (xk == yk) = false := beq_eq_false_iff_ne.2 h1
            go_wp2
            go_quiet (fail)
            go_wp2
            go_ret
            exact ⟨rfl, ⟨rfl, rfl, rfl, Nat.le_refl _, fun _ _ => rfl⟩⟩
          · have e1 : (xn == yn) = false := beq_eq_false_iff_ne.2 h1
            go_wp2
            go_quiet (fail)
            go_wp2
            go_ret
            exact ⟨rfl, ⟨rfl, rfl, rfl, Nat.le_refl _, fun _ _ => rfl⟩⟩
          · have e1 : (xt.toList == yt.toList) = false := beq_eq_false_iff_ne.2 (fun h => h1 (text_eq (by rw [← ByteArray.toList_eq, ← ByteArray.toList_eq]; exact h)))
            have e2 : (xt == yt) = false := by rw [beq_toListBytes]; exact e1
            clear h1
            go_wp2
            go_quiet (fail)
            go_wp2
            go_ret
            exact ⟨rfl, ⟨rfl, rfl, rfl, Nat.le_refl _, fun _ _ => rfl⟩⟩
      · obtain rfl : k = xs.length := by omega
        exfalso
        rw [List.take_length, HLn.out, List.take_length] at hT
        exact HN.out hT
  · have e1 : ((xs.length : Int) != (ys.length : Int)) = true := bne_iff_ne.2 (by omega)
    clear hne rA rB
    go_enter Try.func14, Try.ntmps14
    go_wp2
    go_ret
    exact ⟨rfl, Below.refl _ _⟩
end Go.Proofs.Ytaoeonbhlpnjiaa
