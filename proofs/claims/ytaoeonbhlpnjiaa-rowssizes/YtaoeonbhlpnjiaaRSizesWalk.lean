/- The law RowsSizes returns true and writes nothing that was there. Conditions: the rows lie within the reach. -/
import Derived.Test.YtaoeonbhlpnjiaaRowLaws
namespace Go.Proofs.Ytaoeonbhlpnjiaa
open Go.RowKit Go.Lib Go.Sort
set_option linter.unusedVariables false

theorem sizeW_pos {xs : List Val} (h : xs.all Val.right = true) : 0 < sizeW xs := by
  have := uv_pos xs.length
  unfold sizeW
  rw [if_pos h]
  simp only [encW, List.length_append]
  omega
theorem sizeW_none {xs : List Val} (h : xs.all Val.right = false) : sizeW xs = 0 := by unfold sizeW; rw [h]; rfl
theorem sizeW_cat {xs ys : List Val} (h1 : xs.all Val.right = true) (h2 : ys.all Val.right = true) (hl : xs.length + ys.length ≤ 100) : sizeW (xs ++ ys) = sizeW xs + sizeW ys - 1 := by
  have h3 : (xs ++ ys).all Val.right = true := by rw [List.all_append, h1, h2]; rfl
  unfold sizeW
  rw [if_pos h1, if_pos h2, if_pos h3]
  unfold encW
  rw [uv_one (n := (xs ++ ys).length) (by rw [List.length_append]; omega), uv_one (n := xs.length) (by omega), uv_one (n := ys.length) (by omega), flatW_append]
  simp
  omega
theorem sizeW_le {xs : List Val} (hn : ∀ v ∈ xs, -9223372036854775808 ≤ v.n ∧ v.n ≤ 9223372036854775807) (hb : bulkR xs ≤ 300000) : sizeW xs ≤ 4000000 := by
  have h1 := flatW_le xs hn (by omega)
  have h2 := uv_len10 (n := xs.length) (by have := bulkR_len xs; omega)
  unfold sizeW
  split
  · simp only [encW, List.length_append]; omega
  · omega

set_option maxHeartbeats 8000000 in
theorem rsizes_walk (xs ys : List Val) (p1 p2 : Option Addr) (c1 c2 : Nat) (w : World) (hz1 : xs.length * 32 ≤ 140737488351232) (hz2 : ys.length * 32 ≤ 140737488351232) (n1 : p1 = none → xs.length = 0 ∧ c1 = 0) (n2 : p2 = none → ys.length = 0 ∧ c2 = 0) (rX : Row w p1 xs) (rY : Row w p2 ys)
    (hn : ∀ v ∈ xs, -9223372036854775808 ≤ v.n ∧ v.n ≤ 9223372036854775807) (hm : ∀ v ∈ ys, -9223372036854775808 ≤ v.n ∧ v.n ≤ 9223372036854775807) :
    Calls Try.prog 7 #[.slice p1 xs.length c1, .slice p2 ys.length c2] w fun e w' => e = .returned (.bool true) ∧ Below w.heap.size w w' := by
  have HX : Hid (Row w p1 xs) := rX
  have HY : Hid (Row w p2 ys) := rY
  have WK := fun w => worksW_any w
  have SX : Hid (∀ w, Row w p1 xs → Calls Try.prog 9 #[.slice p1 xs.length c1] w fun e w' => e = .returned (.bool (shortW xs)) ∧ w' = w) := fun w r => short_any p1 xs c1 w r hz1
  have SY : Hid (∀ w, Row w p2 ys → Calls Try.prog 9 #[.slice p2 ys.length c2] w fun e w' => e = .returned (.bool (shortW ys)) ∧ w' = w) := fun w r => short_any p2 ys c2 w r hz2
  clear rX rY
  cases h1 : shortW xs
  · simp only [h1] at SX
    clear hn hm n1 n2
    go_enter Try.func7, Try.ntmps7
    go_wp2_with (first
      | (go_at_call 17; with_reducible refine (WK _).mono ?_; rintro e w1 ⟨rfl, b1⟩; have B1 := hid b1; clear b1; have SX' := SX.out w1 (HX.out.below B1.out))
      | (go_at_call 9; with_reducible refine SX'.mono ?_; rintro e w2 ⟨rfl, hw⟩; subst hw)
      | fail)
    go_ret
    exact ⟨rfl, B1.out⟩
  simp only [h1] at SX
  cases h2 : shortW ys
  · simp only [h2] at SY
    clear hn hm n1 n2
    go_enter Try.func7, Try.ntmps7
    go_wp2_with (first
      | (go_at_call 17; with_reducible refine (WK _).mono ?_; rintro e w1 ⟨rfl, b1⟩; have B1 := hid b1; clear b1; have SX' := SX.out w1 (HX.out.below B1.out); have SY' := SY.out w1 (HY.out.below B1.out))
      | (go_at_call 9; (first | (with_reducible refine SX'.mono ?_; rintro e w2 ⟨rfl, hw⟩; subst hw; clear SX') | (with_reducible refine SY'.mono ?_; rintro e w2 ⟨rfl, hw⟩; subst hw)))
      | fail)
    go_ret
    exact ⟨rfl, B1.out⟩
  simp only [h2] at SY
  have hb1 := shortW_bulk h1
  have hb2 := shortW_bulk h2
  have hl1 := bulkR_len xs
  have hl2 := bulkR_len ys
  by_cases hbig : 100 < xs.length + ys.length
  · clear hn hm n1 n2
    go_enter Try.func7, Try.ntmps7
    go_wp2_with (first
      | (go_at_call 17; with_reducible refine (WK _).mono ?_; rintro e w1 ⟨rfl, b1⟩; have B1 := hid b1; clear b1; have SX' := SX.out w1 (HX.out.below B1.out); have SY' := SY.out w1 (HY.out.below B1.out))
      | (go_at_call 9; (first | (with_reducible refine SX'.mono ?_; rintro e w2 ⟨rfl, hw⟩; subst hw; clear SX') | (with_reducible refine SY'.mono ?_; rintro e w2 ⟨rfl, hw⟩; subst hw)))
      | fail)
    go_ret
    exact ⟨rfl, B1.out⟩
  have hnm : ∀ v ∈ xs ++ ys, -9223372036854775808 ≤ v.n ∧ v.n ≤ 9223372036854775807 := fun v hv => (List.mem_append.1 hv).elim (hn v) (hm v)
  have hbk : bulkR (xs ++ ys) ≤ 220000 := by rw [bulkR_append]; omega
  have ZX : Hid (∀ w, Row w p1 xs → Calls Try.prog 12 #[.slice p1 xs.length c1] w fun e w' => e = .returned (.int .i64 (sizeW xs : Int)) ∧ Below w.heap.size w w') := fun w r => rsize_any p1 xs c1 w r hn (by omega)
  have ZY : Hid (∀ w, Row w p2 ys → Calls Try.prog 12 #[.slice p2 ys.length c2] w fun e w' => e = .returned (.int .i64 (sizeW ys : Int)) ∧ Below w.heap.size w w') := fun w r => rsize_any p2 ys c2 w r hm (by omega)
  have ZC : Hid (∀ v w base, OwnV w base v (xs ++ ys) → Calls Try.prog 12 #[v] w fun e w' => e = .returned (.int .i64 (sizeW (xs ++ ys) : Int)) ∧ Below w.heap.size w w') := fun v w base o => by
    obtain ⟨p, c, hv, r, _⟩ := ownV_slice o
    subst hv
    exact rsize_any p (xs ++ ys) c w r hnm (by omega)
  have b1 := sizeW_le hn (by omega)
  have b2 := sizeW_le hm (by omega)
  have b3 := sizeW_le hnm (by omega)
  have HnX : Hid (p1 = none → xs.length = 0 ∧ c1 = 0) := n1
  have HnY : Hid (p2 = none → ys.length = 0 ∧ c2 = 0) := n2
  have key : (sizeW xs = 0 ∧ sizeW (xs ++ ys) = 0) ∨ (sizeW xs ≠ 0 ∧ sizeW ys = 0 ∧ sizeW (xs ++ ys) = 0) ∨ (sizeW xs ≠ 0 ∧ sizeW ys ≠ 0 ∧ sizeW (xs ++ ys) = sizeW xs + sizeW ys - 1) := by
    cases a1 : xs.all Val.right
    · exact Or.inl ⟨sizeW_none a1, sizeW_none (by rw [List.all_append, a1]; rfl)⟩
    · have p1 := sizeW_pos a1
      cases a2 : ys.all Val.right
      · exact Or.inr (Or.inl ⟨by omega, sizeW_none a2, sizeW_none (by rw [List.all_append, a1, a2]; rfl)⟩)
      · have p2 := sizeW_pos a2
        exact Or.inr (Or.inr ⟨by omega, by omega, sizeW_cat a1 a2 (by omega)⟩)
  clear hn hm n1 n2 hnm h1 h2
  generalize sizeW (xs ++ ys) = k at *
  generalize sizeW xs = n at *
  generalize sizeW ys = m at *
  have key2 : (n = 0 ∧ k = 0) ∨ (((n : Int) == 0) = false ∧ m = 0 ∧ k = 0) ∨ (((n : Int) == 0) = false ∧ ((m : Int) == 0) = false ∧ ((k : Int) == (n : Int) + (m : Int) - 1) = true) := by
    rcases key with h | ⟨e1, h⟩ | ⟨e1, e2, e3⟩
    · exact Or.inl h
    · exact Or.inr (Or.inl ⟨beq_eq_false_iff_ne.2 (by omega), h⟩)
    · exact Or.inr (Or.inr ⟨beq_eq_false_iff_ne.2 (by omega), beq_eq_false_iff_ne.2 (by omega), beq_iff_eq.2 (by omega)⟩)
  clear key
  rcases key2 with ⟨rfl, rfl⟩ | ⟨d1, rfl, rfl⟩ | ⟨d1, d2, d3⟩
  all_goals
    go_enter Try.func7, Try.ntmps7
    go_wp2_with (first
      | (go_at_call 17; with_reducible refine (WK _).mono ?_; rintro e w1 ⟨rfl, b1⟩; have B1 := hid b1; clear b1; have SX' := SX.out w1 (HX.out.below B1.out); have SY' := SY.out w1 (HY.out.below B1.out))
      | (go_at_call 9; (first | (with_reducible refine SX'.mono ?_; rintro e w2 ⟨rfl, hw⟩; subst hw; clear SX') | (with_reducible refine SY'.mono ?_; rintro e w2 ⟨rfl, hw⟩; subst hw; clear SY'; have ZX' := ZX.out _ (HX.out.below B1.out))))
      | (go_at_call 12; (first
        | (with_reducible refine ZX'.mono ?_; rintro e w3 ⟨rfl, b3⟩; have B3 := hid (B1.out.trans (b3.mono B1.out.size)); clear b3 ZX'; have ZY' := ZY.out w3 (HY.out.below B3.out))
        | (with_reducible refine ZY'.mono ?_; rintro e w4 ⟨rfl, b4⟩; have B4 := hid (B3.out.trans (b4.mono B3.out.size)); clear b4 ZY')
        | (with_reducible refine ZC'.mono ?_; rintro e w7 ⟨rfl, b7⟩; have B7 := hid (B6.out.trans (b7.mono B6.out.size)); clear b7)))
      | (at_builtin; (first
        | (refine appVs w4.heap.size _ _ _ [] xs p1 c1 rfl rfl rfl rfl (own_litV w4) HnX.out ((HX.out.below B4.out).below (alloc_below w4 _)) (by simp; omega) (by simp) ?_; intro v5 w5 o5 b5; have O5 := hid o5; have B45 := hid ((alloc_below w4 _).trans b5); have B5 := hid (B4.out.trans (B45.out.mono B4.out.size)); clear o5 b5)
        | (refine appVs w4.heap.size _ _ _ xs ys p2 c2 rfl rfl rfl rfl O5.out HnY.out (HY.out.below B5.out) (by omega) B45.out.size ?_; intro v6 w6 o6 b6; have B46 := hid (B45.out.trans b6); have B6 := hid (B4.out.trans (B46.out.mono B4.out.size)); have ZC' := ZC.out v6 w6 w4.heap.size o6; clear o6 b6)))
      | fail)
    go_ret
    exact ⟨rfl, B7.out⟩
end Go.Proofs.Ytaoeonbhlpnjiaa
