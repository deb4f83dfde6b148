/- The law KeysNext returns true and writes nothing that was there. Conditions: the bytes lie within the reach. -/
import Derived.Test.YtpdfgifkommpdaaKeysLaws
import Derived.Deep.QuietTactic
namespace Go.Proofs.Ytpdfgifkommpdaa
open Go.RowKit Go.Lib Go.Sort
set_option linter.unusedVariables false

theorem conv_drew {w : World} {p : Option Addr} {l : List UInt8} (c n : Nat) (h : Byts w p l) : (convert 24 9 (.slice p l.length c)).run Try.prog (w.drewN n) = .ok (.string ⟨l.toArray⟩) (w.drewN n) := conv_byts c (w := w.drewN n) (by
  rcases h with h | ⟨b, off, hp, hc⟩
  · exact Or.inl h
  · exact Or.inr ⟨b, off, hp, hc⟩)

set_option maxHeartbeats 4000000 in
theorem knext_walk (l m : List UInt8) (p1 p2 : Option Addr) (c1 c2 : Nat) (w : World) (hA : l.length ≤ 140737488351232) (hB : m.length ≤ 140737488351232) (hc1 : l.length ≤ c1) (hc2 : m.length ≤ c2) (r1 : Byts w p1 l) (r2 : Byts w p2 m) :
    Calls Try.prog 7 #[.slice p1 l.length c1, .slice p2 m.length c2] w fun e w' => e = .returned (.bool true) ∧ Below w.heap.size w w' := by
  have HX : Hid (Byts w p1 l) := r1
  have HY : Hid (Byts w p2 m) := r2
  have WK := fun w => works_any w
  have HN : Hid (∀ w, Byts w p1 l → Calls Try.prog 14 #[.slice p1 l.length c1] w (nextEnd l w)) := fun w r => next_any p1 l c1 w hA hc1 r
  unfold nextEnd at HN
  clear r1 r2
  have NB := next_begins l m
  rw [← nextB_eq] at NB
  have BE := begins_eq l m
  have HE := hid BE
  by_cases h0 : nextB l = []
  · have h1 := NB.1 h0
    have H255 : Hid (∀ x ∈ l, x = 255) := nextF_nil l (by rw [← nextB_eq]; exact h0)
    simp only [h0, ne_eq, not_true_eq_false, false_and, or_false, true_and] at HN
    clear NB BE h0
    generalize begins l m = g at *
    by_cases hlen : l.length ≤ m.length
    · have htl : (m.take l.length).length = l.length := by simp; omega
      have hg : (m.take l.length == l) = g := by rw [HE.out]; simp [hlen]
      have hbl : Op.bytesLess m l = !g := by rw [h1]; simp
      clear h1 HE
      go_enter Try.func7, Try.ntmps7
      go_wp2_with (first
        | (go_at_call 16; with_reducible refine (WK _).mono ?_; rintro e w1 ⟨rfl, b1⟩; have B1 := hid b1; clear b1; have N1 := HN.out w1 (HX.out.below B1.out))
        | (go_at_call 14; with_reducible refine N1.mono ?_; rintro e w2 ⟨b2, he⟩; subst he; have B2 := hid (B1.out.trans (b2.mono B1.out.size)); clear b2)
        | fail)
      have k1 := fun n => conv_drew c1 n (HX.out.below B2.out)
      have k2 := fun n => conv_drew c2 n ((HY.out.below B2.out).take l.length)
      rw [htl] at k2
      go_quiet (fail)
      have BD : Below w.heap.size w (w2.drewN nq) := B2.out.trans ⟨rfl, rfl, rfl, Nat.le_refl _, fun _ _ => rfl⟩
      have HBD : Hid (Below w.heap.size w (w2.drewN nq)) := BD
      clear BD
      generalize w2.drewN nq = W at *
      go_wp2
      go_loopw [8] (fun i wr => ∃ k : Nat, k ≤ l.length ∧ i = .int .i64 k ∧ W = wr) (fun i _ => l.length - (RowKit.intOf i).toNat)
      case atStart => exact ⟨0, Nat.zero_le _, rfl, rfl⟩
      case round =>
        obtain ⟨k, hk, rfl, rfl⟩ := hrel
        by_cases hx : k < l.length
        · obtain ⟨b, off, rfl, c0⟩ := (HX.out.below HBD.out).at hx
          have h255 : l[k].toNat = 255 := by rw [H255.out _ (List.getElem_mem hx)]; rfl
          rw [h255] at c0
          clear h255
          go_wp2
          go_roundw
          case rel => exact ⟨k + 1, by omega, by go_num, by first | rfl | trivial⟩
          case measure => simp [RowKit.intOf]; omega
        · obtain rfl : k = l.length := by omega
          have q1 := conv_byts c1 (HX.out.below HBD.out)
          have q2 := conv_byts c2 (HY.out.below HBD.out)
          go_wp2
          go_ret
          exact ⟨ret_bool (by simp), HBD.out⟩
    · have hg : g = false := by rw [HE.out]; simp; omega
      have hbl : Op.bytesLess m l = !g := by rw [h1]; simp
      clear h1 HE
      subst hg
      go_enter Try.func7, Try.ntmps7
      go_wp2_with (first
        | (go_at_call 16; with_reducible refine (WK _).mono ?_; rintro e w1 ⟨rfl, b1⟩; have B1 := hid b1; clear b1; have N1 := HN.out w1 (HX.out.below B1.out))
        | (go_at_call 14; with_reducible refine N1.mono ?_; rintro e w2 ⟨b2, he⟩; subst he; have B2 := hid (B1.out.trans (b2.mono B1.out.size)); clear b2)
        | fail)
      go_quiet (fail)
      have BD : Below w.heap.size w (w2.drewN nq) := B2.out.trans ⟨rfl, rfl, rfl, Nat.le_refl _, fun _ _ => rfl⟩
      have HBD : Hid (Below w.heap.size w (w2.drewN nq)) := BD
      clear BD
      generalize w2.drewN nq = W at *
      go_wp2
      go_loopw [8] (fun i wr => ∃ k : Nat, k ≤ l.length ∧ i = .int .i64 k ∧ W = wr) (fun i _ => l.length - (RowKit.intOf i).toNat)
      case atStart => exact ⟨0, Nat.zero_le _, rfl, rfl⟩
      case round =>
        obtain ⟨k, hk, rfl, rfl⟩ := hrel
        by_cases hx : k < l.length
        · obtain ⟨b, off, rfl, c0⟩ := (HX.out.below HBD.out).at hx
          have h255 : l[k].toNat = 255 := by rw [H255.out _ (List.getElem_mem hx)]; rfl
          rw [h255] at c0
          clear h255
          go_wp2
          go_roundw
          case rel => exact ⟨k + 1, by omega, by go_num, by first | rfl | trivial⟩
          case measure => simp [RowKit.intOf]; omega
        · obtain rfl : k = l.length := by omega
          have q1 := conv_byts c1 (HX.out.below HBD.out)
          have q2 := conv_byts c2 (HY.out.below HBD.out)
          go_wp2
          go_ret
          exact ⟨ret_bool (by simp), HBD.out⟩
  · have h1 := NB.2 h0
    simp only [h0, ne_eq, not_false_eq_true, false_and, false_or, true_and] at HN
    clear NB BE h0
    generalize begins l m = g at *
    generalize hx : Op.bytesLess m l = x at *
    generalize hy : Op.bytesLess m (nextB l) = y at *
    by_cases hlen : l.length ≤ m.length
    · have htl : (m.take l.length).length = l.length := by simp; omega
      have hg : (m.take l.length == l) = g := by rw [HE.out]; simp [hlen]
      clear HE
      cases x <;> cases y <;> simp only [Bool.not_true, Bool.not_false, Bool.and_true, Bool.and_false] at h1 <;> subst h1
      all_goals
        go_enter Try.func7, Try.ntmps7
        go_wp2_with (first
          | (go_at_call 16; with_reducible refine (WK _).mono ?_; rintro e w1 ⟨rfl, b1⟩; have B1 := hid b1; clear b1; have N1 := HN.out w1 (HX.out.below B1.out))
          | (go_at_call 14; with_reducible refine N1.mono ?_; rintro e w2 ⟨b2, v2, he, o2⟩; subst he; have B2 := hid (B1.out.trans (b2.mono B1.out.size)); have O2 := hid o2; clear b2 o2)
          | fail)
        have k1 := fun n => conv_drew c1 n (HX.out.below B2.out)
        have k2 := fun n => conv_drew c2 n ((HY.out.below B2.out).take l.length)
        rw [htl] at k2
        go_quiet (fail)
        have BD : Below w.heap.size w (w2.drewN nq) := B2.out.trans ⟨rfl, rfl, rfl, Nat.le_refl _, fun _ _ => rfl⟩
        have q3 : (convert 24 9 v2).run Try.prog (w2.drewN nq) = .ok (.string ⟨(nextB l).toArray⟩) (w2.drewN nq) := conv_own (OwnB.below O2.out ⟨rfl, rfl, rfl, Nat.le_refl _, fun _ _ => rfl⟩)
        have HBD : Hid (Below w.heap.size w (w2.drewN nq)) := BD
        clear BD O2
        generalize w2.drewN nq = W at *
        have q1 := conv_byts c1 (HX.out.below HBD.out)
        have q2 := conv_byts c2 (HY.out.below HBD.out)
        go_wp2
        go_ret
        exact ⟨ret_bool (by simp), HBD.out⟩
    · have hg : g = false := by rw [HE.out]; simp; omega
      clear HE
      subst hg
      cases x <;> cases y <;> simp only [Bool.not_true, Bool.not_false, Bool.and_true, Bool.and_false, Bool.false_eq_true] at h1
      all_goals
        go_enter Try.func7, Try.ntmps7
        go_wp2_with (first
          | (go_at_call 16; with_reducible refine (WK _).mono ?_; rintro e w1 ⟨rfl, b1⟩; have B1 := hid b1; clear b1; have N1 := HN.out w1 (HX.out.below B1.out))
          | (go_at_call 14; with_reducible refine N1.mono ?_; rintro e w2 ⟨b2, v2, he, o2⟩; subst he; have B2 := hid (B1.out.trans (b2.mono B1.out.size)); have O2 := hid o2; clear b2 o2)
          | fail)
        go_quiet (fail)
        have BD : Below w.heap.size w (w2.drewN nq) := B2.out.trans ⟨rfl, rfl, rfl, Nat.le_refl _, fun _ _ => rfl⟩
        have q3 : (convert 24 9 v2).run Try.prog (w2.drewN nq) = .ok (.string ⟨(nextB l).toArray⟩) (w2.drewN nq) := conv_own (OwnB.below O2.out ⟨rfl, rfl, rfl, Nat.le_refl _, fun _ _ => rfl⟩)
        have HBD : Hid (Below w.heap.size w (w2.drewN nq)) := BD
        clear BD O2
        generalize w2.drewN nq = W at *
        have q1 := conv_byts c1 (HX.out.below HBD.out)
        have q2 := conv_byts c2 (HY.out.below HBD.out)
        go_wp2
        go_ret
        exact ⟨ret_bool (by simp), HBD.out⟩
end Go.Proofs.Ytpdfgifkommpdaa
