/- What the document's one answers. Condition: the text lies within the reach. -/
import Derived.Test.YtbaemjibaeeglaaGreatDoorLxROneM
namespace Go.Proofs.YtbaemjibaeeglaaGreatDoor
open Go.RowKit Go.Lib Go.Sort
set_option linter.unusedVariables false
set_option maxRecDepth 20000

theorem isW_b (c : UInt8) : isW c = (ltr (c.toNat : Int) || dig (c.toNat : Int)) := rfl
theorem one_word {s : ByteArray} {p : Nat} (hp : p < s.size) (hX : isX (s.data.toList.drop p) = false) :
    ((((s[p].toNat : Nat) : Int) == 120) = false ∧ (((s[p].toNat : Nat) : Int) == 88) = false) ∨ ((((s[p].toNat : Nat) : Int) == 120) = true ∧ ¬ (p : Int) + 1 < s.size) ∨ ((((s[p].toNat : Nat) : Int) == 120) = false ∧ (((s[p].toNat : Nat) : Int) == 88) = true ∧ ¬ (p : Int) + 1 < s.size) ∨ ((((s[p].toNat : Nat) : Int) == 120) = true ∧ ∃ h : p + 1 < s.size, (((s[p + 1].toNat : Nat) : Int) == 39) = false) ∨ ((((s[p].toNat : Nat) : Int) == 120) = false ∧ (((s[p].toNat : Nat) : Int) == 88) = true ∧ ∃ h : p + 1 < s.size, (((s[p + 1].toNat : Nat) : Int) == 39) = false) := by
  by_cases h2 : p + 1 < s.size
  · rw [drop_at s hp, drop_at s h2] at hX
    have e : (((((s[p].toNat : Nat) : Int) == 120) || (((s[p].toNat : Nat) : Int) == 88)) && (((s[p + 1].toNat : Nat) : Int) == 39)) = false := hX
    cases a : (((s[p].toNat : Nat) : Int) == 120) with
    | true =>
      rw [a] at e
      simp only [Bool.true_or, Bool.true_and] at e
      exact Or.inr (Or.inr (Or.inr (Or.inl ⟨rfl, h2, e⟩)))
    | false =>
      cases b : (((s[p].toNat : Nat) : Int) == 88) with
      | true =>
        rw [a, b] at e
        simp only [Bool.or_true, Bool.true_and] at e
        exact Or.inr (Or.inr (Or.inr (Or.inr ⟨rfl, rfl, h2, e⟩)))
      | false => exact Or.inl ⟨rfl, rfl⟩
  · have h2' : ¬ (p : Int) + 1 < s.size := by omega
    cases a : (((s[p].toNat : Nat) : Int) == 120) with
    | true => exact Or.inr (Or.inl ⟨rfl, h2'⟩)
    | false =>
      cases b : (((s[p].toNat : Nat) : Int) == 88) with
      | true => exact Or.inr (Or.inr (Or.inl ⟨rfl, rfl, h2'⟩))
      | false => exact Or.inl ⟨rfl, rfl⟩

set_option maxHeartbeats 16000000 in
theorem rone_ltr (s : ByteArray) (p : Nat) (w : World) (hp : p < s.size) (hs : s.size ≤ 140737488351232) (hX : isX (s.data.toList.drop p) = false) (h1 : ltr (s[p].toNat : Int) = true) :
    Calls Tryz.prog 17 #[.string s, .int .i64 p] w (oneEnd (first1 (s.data.toList.drop p)) p w) := by
  have HS := hid (fun (k : Nat) (h : k ≤ s.size) w => rsmall_any (s.extract p k) w (by simp; omega))
  obtain ⟨R, hR⟩ : ∃ R, first1 (s.data.toList.drop p) = R := ⟨_, rfl⟩
  rw [hR]
  have H5 := hid (one_word hp hX)
  rw [drop_at s hp] at hR hX
  rw [f_ltr hX h1, ← drop_at s hp] at hR
  have HR := hid hR
  clear hR hX
  have hz1 : (p : Int) < s.size := by omega
  have DL := hid (fun w => rletter_any (s[p].toNat : Int) w)
  rw [h1] at DL
  clear h1
  unfold oneEnd
  rcases H5.out with ⟨a, b⟩ | ⟨a, h3⟩ | ⟨a, b, h3⟩ | ⟨a, h3, h4⟩ | ⟨a, b, h3, h4⟩
  · clear H5
    go_enter Tryz.func17, Tryz.ntmps17
    go_wp2_with (go_at_call 32; with_reducible refine (DL.out _).mono ?_; rintro e w3 ⟨rfl, hw⟩; obtain rfl := hw.symm)
    go_loopw [9] (fun v wr => ∃ k : Nat, v = .int .i64 k ∧ p ≤ k ∧ k ≤ s.size ∧ Hid (p + cntW isW (s.data.toList.drop p) = k + cntW isW (s.data.toList.drop k)) ∧ Hid (Aft w wr 0 ⟨#[]⟩ p 0)) (fun v _ => s.size - (RowKit.intOf v).toNat)
    case atStart => exact ⟨p, rfl, Nat.le_refl _, by omega, rfl, aft0 w 0 p 0⟩
    case round =>
      obtain ⟨k, rfl, hk1, hk, hC, HA⟩ := hrel
      obtain ⟨z0, z1, z2, z3, zf, zl⟩ := HA.out.res
      obtain ⟨y0, y1, y2, y3, yf, yl⟩ := HA.out.tok
      by_cases hlt : k < s.size
      · have hkz : (k : Int) < s.size := by omega
        have D1 := hid (fun w => rletter_any (s[k].toNat : Int) w)
        have D2 := hid (fun w => rdigit_any (s[k].toNat : Int) w)
        have HW := hid (isW_b s[k])
        have HD := hid (drop_at s hlt)
        generalize ltr (s[k].toNat : Int) = b1 at *
        generalize dig (s[k].toNat : Int) = b2 at *
        by_cases hb : isW s[k] = true
        · have HN : Hid (p + cntW isW (s.data.toList.drop p) = (k + 1) + cntW isW (s.data.toList.drop (k + 1))) := by
            have := hC.out
            rw [HD.out, cntW_hit hb] at this
            show _ = _
            omega
          have hbb : b1 = true ∨ (b1 = false ∧ b2 = true) := by
            rw [HW.out] at hb
            cases b1 <;> simp_all
          clear hC HD HW hb
          rcases hbb with rfl | ⟨rfl, rfl⟩
          all_goals go_wp2_with (first
            | (go_at_call 32; with_reducible refine (D1.out _).mono ?_; rintro e w3 ⟨rfl, hw⟩; obtain rfl := hw.symm)
            | (go_at_call 33; with_reducible refine (D2.out _).mono ?_; rintro e w3 ⟨rfl, hw⟩; obtain rfl := hw.symm))
          all_goals go_roundw
          all_goals first
            | exact ⟨k + 1, by go_num, by omega, by omega, HN, HA⟩
            | (simp [RowKit.intOf]; omega)
        · have hC' : Hid (cntW isW (s.data.toList.drop p) = k - p) := by
            have := hC.out
            rw [HD.out, cntW_miss (by simpa using hb)] at this
            show _ = _
            omega
          have hbb : b1 = false ∧ b2 = false := by
            rw [HW.out] at hb
            cases b1 <;> cases b2 <;> simp_all
          obtain ⟨rfl, rfl⟩ := hbb
          clear HD HW hb
          have HN : Hid (R = some (⟨1, toLowerA (s.extract p k).data.toList, 0⟩, k - p)) := by
            show _ = _
            rw [← HR.out, hC'.out, rext]
          have HSk := hid (HS.out k hk)
          obtain ⟨L, hL⟩ : ∃ L, (s.extract p k).data.toList = L := ⟨_, rfl⟩
          rw [hL] at HN HSk
          clear hC hC' HR hL
          go_wp2_with (first
            | (go_at_call 32; with_reducible refine (D1.out _).mono ?_; rintro e w3 ⟨rfl, hw⟩; obtain rfl := hw.symm)
            | (go_at_call 33; with_reducible refine (D2.out _).mono ?_; rintro e w3 ⟨rfl, hw⟩; obtain rfl := hw.symm)
            | (go_at_call 34; with_reducible refine (HSk.out _).mono ?_; rintro e w2 ⟨rfl, bel⟩; have HA2 := hid ((HA.out.set0 1).next bel); obtain ⟨z0', z1', z2', z3', zf', zl'⟩ := HA2.out.res; obtain ⟨y0', y1', y2', y3', yf', yl'⟩ := HA2.out.tok; clear bel))
          refine bodyPost_ret (by simp [results, Tryz.results17, go_sem, z0', z1', z2', z3']; try rfl) rfl ?_
          exact ⟨1, ⟨(toLowerA L).toArray⟩, 0, k, by rw [HN.out]; rfl, fun y h => (by rw [HN.out] at h; cases h; exact ⟨rfl, rfl, rfl, by omega⟩), below_put5 HA2.out.bel⟩
      · have hC' : Hid (cntW isW (s.data.toList.drop p) = k - p) := by
          have := hC.out
          rw [drop_end s (k := k) (by omega)] at this
          simp only [cntW] at this
          show _ = _
          omega
        have hkz : ¬ (k : Int) < s.size := by omega
        have HN : Hid (R = some (⟨1, toLowerA (s.extract p k).data.toList, 0⟩, k - p)) := by
          show _ = _
          rw [← HR.out, hC'.out, rext]
        have HSk := hid (HS.out k hk)
        obtain ⟨L, hL⟩ : ∃ L, (s.extract p k).data.toList = L := ⟨_, rfl⟩
        rw [hL] at HN HSk
        clear hC hC' HR hL
        go_wp2_with (first
          | (go_at_call 34; with_reducible refine (HSk.out _).mono ?_; rintro e w2 ⟨rfl, bel⟩; have HA2 := hid ((HA.out.set0 1).next bel); obtain ⟨z0', z1', z2', z3', zf', zl'⟩ := HA2.out.res; obtain ⟨y0', y1', y2', y3', yf', yl'⟩ := HA2.out.tok; clear bel))
        refine bodyPost_ret (by simp [results, Tryz.results17, go_sem, z0', z1', z2', z3']; try rfl) rfl ?_
        exact ⟨1, ⟨(toLowerA L).toArray⟩, 0, k, by rw [HN.out]; rfl, fun y h => (by rw [HN.out] at h; cases h; exact ⟨rfl, rfl, rfl, by omega⟩), below_put5 HA2.out.bel⟩
  · clear H5
    go_enter Tryz.func17, Tryz.ntmps17
    go_wp2_with (go_at_call 32; with_reducible refine (DL.out _).mono ?_; rintro e w3 ⟨rfl, hw⟩; obtain rfl := hw.symm)
    go_loopw [9] (fun v wr => ∃ k : Nat, v = .int .i64 k ∧ p ≤ k ∧ k ≤ s.size ∧ Hid (p + cntW isW (s.data.toList.drop p) = k + cntW isW (s.data.toList.drop k)) ∧ Hid (Aft w wr 0 ⟨#[]⟩ p 0)) (fun v _ => s.size - (RowKit.intOf v).toNat)
    case atStart => exact ⟨p, rfl, Nat.le_refl _, by omega, rfl, aft0 w 0 p 0⟩
    case round =>
      obtain ⟨k, rfl, hk1, hk, hC, HA⟩ := hrel
      obtain ⟨z0, z1, z2, z3, zf, zl⟩ := HA.out.res
      obtain ⟨y0, y1, y2, y3, yf, yl⟩ := HA.out.tok
      by_cases hlt : k < s.size
      · have hkz : (k : Int) < s.size := by omega
        have D1 := hid (fun w => rletter_any (s[k].toNat : Int) w)
        have D2 := hid (fun w => rdigit_any (s[k].toNat : Int) w)
        have HW := hid (isW_b s[k])
        have HD := hid (drop_at s hlt)
        generalize ltr (s[k].toNat : Int) = b1 at *
        generalize dig (s[k].toNat : Int) = b2 at *
        by_cases hb : isW s[k] = true
        · have HN : Hid (p + cntW isW (s.data.toList.drop p) = (k + 1) + cntW isW (s.data.toList.drop (k + 1))) := by
            have := hC.out
            rw [HD.out, cntW_hit hb] at this
            show _ = _
            omega
          have hbb : b1 = true ∨ (b1 = false ∧ b2 = true) := by
            rw [HW.out] at hb
            cases b1 <;> simp_all
          clear hC HD HW hb
          rcases hbb with rfl | ⟨rfl, rfl⟩
          all_goals go_wp2_with (first
            | (go_at_call 32; with_reducible refine (D1.out _).mono ?_; rintro e w3 ⟨rfl, hw⟩; obtain rfl := hw.symm)
            | (go_at_call 33; with_reducible refine (D2.out _).mono ?_; rintro e w3 ⟨rfl, hw⟩; obtain rfl := hw.symm))
          all_goals go_roundw
          all_goals first
            | exact ⟨k + 1, by go_num, by omega, by omega, HN, HA⟩
            | (simp [RowKit.intOf]; omega)
        · have hC' : Hid (cntW isW (s.data.toList.drop p) = k - p) := by
            have := hC.out
            rw [HD.out, cntW_miss (by simpa using hb)] at this
            show _ = _
            omega
          have hbb : b1 = false ∧ b2 = false := by
            rw [HW.out] at hb
            cases b1 <;> cases b2 <;> simp_all
          obtain ⟨rfl, rfl⟩ := hbb
          clear HD HW hb
          have HN : Hid (R = some (⟨1, toLowerA (s.extract p k).data.toList, 0⟩, k - p)) := by
            show _ = _
            rw [← HR.out, hC'.out, rext]
          have HSk := hid (HS.out k hk)
          obtain ⟨L, hL⟩ : ∃ L, (s.extract p k).data.toList = L := ⟨_, rfl⟩
          rw [hL] at HN HSk
          clear hC hC' HR hL
          go_wp2_with (first
            | (go_at_call 32; with_reducible refine (D1.out _).mono ?_; rintro e w3 ⟨rfl, hw⟩; obtain rfl := hw.symm)
            | (go_at_call 33; with_reducible refine (D2.out _).mono ?_; rintro e w3 ⟨rfl, hw⟩; obtain rfl := hw.symm)
            | (go_at_call 34; with_reducible refine (HSk.out _).mono ?_; rintro e w2 ⟨rfl, bel⟩; have HA2 := hid ((HA.out.set0 1).next bel); obtain ⟨z0', z1', z2', z3', zf', zl'⟩ := HA2.out.res; obtain ⟨y0', y1', y2', y3', yf', yl'⟩ := HA2.out.tok; clear bel))
          refine bodyPost_ret (by simp [results, Tryz.results17, go_sem, z0', z1', z2', z3']; try rfl) rfl ?_
          exact ⟨1, ⟨(toLowerA L).toArray⟩, 0, k, by rw [HN.out]; rfl, fun y h => (by rw [HN.out] at h; cases h; exact ⟨rfl, rfl, rfl, by omega⟩), below_put5 HA2.out.bel⟩
      · have hC' : Hid (cntW isW (s.data.toList.drop p) = k - p) := by
          have := hC.out
          rw [drop_end s (k := k) (by omega)] at this
          simp only [cntW] at this
          show _ = _
          omega
        have hkz : ¬ (k : Int) < s.size := by omega
        have HN : Hid (R = some (⟨1, toLowerA (s.extract p k).data.toList, 0⟩, k - p)) := by
          show _ = _
          rw [← HR.out, hC'.out, rext]
        have HSk := hid (HS.out k hk)
        obtain ⟨L, hL⟩ : ∃ L, (s.extract p k).data.toList = L := ⟨_, rfl⟩
        rw [hL] at HN HSk
        clear hC hC' HR hL
        go_wp2_with (first
          | (go_at_call 34; with_reducible refine (HSk.out _).mono ?_; rintro e w2 ⟨rfl, bel⟩; have HA2 := hid ((HA.out.set0 1).next bel); obtain ⟨z0', z1', z2', z3', zf', zl'⟩ := HA2.out.res; obtain ⟨y0', y1', y2', y3', yf', yl'⟩ := HA2.out.tok; clear bel))
        refine bodyPost_ret (by simp [results, Tryz.results17, go_sem, z0', z1', z2', z3']; try rfl) rfl ?_
        exact ⟨1, ⟨(toLowerA L).toArray⟩, 0, k, by rw [HN.out]; rfl, fun y h => (by rw [HN.out] at h; cases h; exact ⟨rfl, rfl, rfl, by omega⟩), below_put5 HA2.out.bel⟩
  · clear H5
    go_enter Tryz.func17, Tryz.ntmps17
    go_wp2_with (go_at_call 32; with_reducible refine (DL.out _).mono ?_; rintro e w3 ⟨rfl, hw⟩; obtain rfl := hw.symm)
    go_loopw [9] (fun v wr => ∃ k : Nat, v = .int .i64 k ∧ p ≤ k ∧ k ≤ s.size ∧ Hid (p + cntW isW (s.data.toList.drop p) = k + cntW isW (s.data.toList.drop k)) ∧ Hid (Aft w wr 0 ⟨#[]⟩ p 0)) (fun v _ => s.size - (RowKit.intOf v).toNat)
    case atStart => exact ⟨p, rfl, Nat.le_refl _, by omega, rfl, aft0 w 0 p 0⟩
    case round =>
      obtain ⟨k, rfl, hk1, hk, hC, HA⟩ := hrel
      obtain ⟨z0, z1, z2, z3, zf, zl⟩ := HA.out.res
      obtain ⟨y0, y1, y2, y3, yf, yl⟩ := HA.out.tok
      by_cases hlt : k < s.size
      · have hkz : (k : Int) < s.size := by omega
        have D1 := hid (fun w => rletter_any (s[k].toNat : Int) w)
        have D2 := hid (fun w => rdigit_any (s[k].toNat : Int) w)
        have HW := hid (isW_b s[k])
        have HD := hid (drop_at s hlt)
        generalize ltr (s[k].toNat : Int) = b1 at *
        generalize dig (s[k].toNat : Int) = b2 at *
        by_cases hb : isW s[k] = true
        · have HN : Hid (p + cntW isW (s.data.toList.drop p) = (k + 1) + cntW isW (s.data.toList.drop (k + 1))) := by
            have := hC.out
            rw [HD.out, cntW_hit hb] at this
            show _ = _
            omega
          have hbb : b1 = true ∨ (b1 = false ∧ b2 = true) := by
            rw [HW.out] at hb
            cases b1 <;> simp_all
          clear hC HD HW hb
          rcases hbb with rfl | ⟨rfl, rfl⟩
          all_goals go_wp2_with (first
            | (go_at_call 32; with_reducible refine (D1.out _).mono ?_; rintro e w3 ⟨rfl, hw⟩; obtain rfl := hw.symm)
            | (go_at_call 33; with_reducible refine (D2.out _).mono ?_; rintro e w3 ⟨rfl, hw⟩; obtain rfl := hw.symm))
          all_goals go_roundw
          all_goals first
            | exact ⟨k + 1, by go_num, by omega, by omega, HN, HA⟩
            | (simp [RowKit.intOf]; omega)
        · have hC' : Hid (cntW isW (s.data.toList.drop p) = k - p) := by
            have := hC.out
            rw [HD.out, cntW_miss (by simpa using hb)] at this
            show _ = _
            omega
          have hbb : b1 = false ∧ b2 = false := by
            rw [HW.out] at hb
            cases b1 <;> cases b2 <;> simp_all
          obtain ⟨rfl, rfl⟩ := hbb
          clear HD HW hb
          have HN : Hid (R = some (⟨1, toLowerA (s.extract p k).data.toList, 0⟩, k - p)) := by
            show _ = _
            rw [← HR.out, hC'.out, rext]
          have HSk := hid (HS.out k hk)
          obtain ⟨L, hL⟩ : ∃ L, (s.extract p k).data.toList = L := ⟨_, rfl⟩
          rw [hL] at HN HSk
          clear hC hC' HR hL
          go_wp2_with (first
            | (go_at_call 32; with_reducible refine (D1.out _).mono ?_; rintro e w3 ⟨rfl, hw⟩; obtain rfl := hw.symm)
            | (go_at_call 33; with_reducible refine (D2.out _).mono ?_; rintro e w3 ⟨rfl, hw⟩; obtain rfl := hw.symm)
            | (go_at_call 34; with_reducible refine (HSk.out _).mono ?_; rintro e w2 ⟨rfl, bel⟩; have HA2 := hid ((HA.out.set0 1).next bel); obtain ⟨z0', z1', z2', z3', zf', zl'⟩ := HA2.out.res; obtain ⟨y0', y1', y2', y3', yf', yl'⟩ := HA2.out.tok; clear bel))
          refine bodyPost_ret (by simp [results, Tryz.results17, go_sem, z0', z1', z2', z3']; try rfl) rfl ?_
          exact ⟨1, ⟨(toLowerA L).toArray⟩, 0, k, by rw [HN.out]; rfl, fun y h => (by rw [HN.out] at h; cases h; exact ⟨rfl, rfl, rfl, by omega⟩), below_put5 HA2.out.bel⟩
      · have hC' : Hid (cntW isW (s.data.toList.drop p) = k - p) := by
          have := hC.out
          rw [drop_end s (k := k) (by omega)] at this
          simp only [cntW] at this
          show _ = _
          omega
        have hkz : ¬ (k : Int) < s.size := by omega
        have HN : Hid (R = some (⟨1, toLowerA (s.extract p k).data.toList, 0⟩, k - p)) := by
          show _ = _
          rw [← HR.out, hC'.out, rext]
        have HSk := hid (HS.out k hk)
        obtain ⟨L, hL⟩ : ∃ L, (s.extract p k).data.toList = L := ⟨_, rfl⟩
        rw [hL] at HN HSk
        clear hC hC' HR hL
        go_wp2_with (first
          | (go_at_call 34; with_reducible refine (HSk.out _).mono ?_; rintro e w2 ⟨rfl, bel⟩; have HA2 := hid ((HA.out.set0 1).next bel); obtain ⟨z0', z1', z2', z3', zf', zl'⟩ := HA2.out.res; obtain ⟨y0', y1', y2', y3', yf', yl'⟩ := HA2.out.tok; clear bel))
        refine bodyPost_ret (by simp [results, Tryz.results17, go_sem, z0', z1', z2', z3']; try rfl) rfl ?_
        exact ⟨1, ⟨(toLowerA L).toArray⟩, 0, k, by rw [HN.out]; rfl, fun y h => (by rw [HN.out] at h; cases h; exact ⟨rfl, rfl, rfl, by omega⟩), below_put5 HA2.out.bel⟩
  · clear H5
    have h3' : (p : Int) + 1 < s.size := by omega
    go_enter Tryz.func17, Tryz.ntmps17
    go_wp2_with (go_at_call 32; with_reducible refine (DL.out _).mono ?_; rintro e w3 ⟨rfl, hw⟩; obtain rfl := hw.symm)
    go_loopw [9] (fun v wr => ∃ k : Nat, v = .int .i64 k ∧ p ≤ k ∧ k ≤ s.size ∧ Hid (p + cntW isW (s.data.toList.drop p) = k + cntW isW (s.data.toList.drop k)) ∧ Hid (Aft w wr 0 ⟨#[]⟩ p 0)) (fun v _ => s.size - (RowKit.intOf v).toNat)
    case atStart => exact ⟨p, rfl, Nat.le_refl _, by omega, rfl, aft0 w 0 p 0⟩
    case round =>
      obtain ⟨k, rfl, hk1, hk, hC, HA⟩ := hrel
      obtain ⟨z0, z1, z2, z3, zf, zl⟩ := HA.out.res
      obtain ⟨y0, y1, y2, y3, yf, yl⟩ := HA.out.tok
      by_cases hlt : k < s.size
      · have hkz : (k : Int) < s.size := by omega
        have D1 := hid (fun w => rletter_any (s[k].toNat : Int) w)
        have D2 := hid (fun w => rdigit_any (s[k].toNat : Int) w)
        have HW := hid (isW_b s[k])
        have HD := hid (drop_at s hlt)
        generalize ltr (s[k].toNat : Int) = b1 at *
        generalize dig (s[k].toNat : Int) = b2 at *
        by_cases hb : isW s[k] = true
        · have HN : Hid (p + cntW isW (s.data.toList.drop p) = (k + 1) + cntW isW (s.data.toList.drop (k + 1))) := by
            have := hC.out
            rw [HD.out, cntW_hit hb] at this
            show _ = _
            omega
          have hbb : b1 = true ∨ (b1 = false ∧ b2 = true) := by
            rw [HW.out] at hb
            cases b1 <;> simp_all
          clear hC HD HW hb
          rcases hbb with rfl | ⟨rfl, rfl⟩
          all_goals go_wp2_with (first
            | (go_at_call 32; with_reducible refine (D1.out _).mono ?_; rintro e w3 ⟨rfl, hw⟩; obtain rfl := hw.symm)
            | (go_at_call 33; with_reducible refine (D2.out _).mono ?_; rintro e w3 ⟨rfl, hw⟩; obtain rfl := hw.symm))
          all_goals go_roundw
          all_goals first
            | exact ⟨k + 1, by go_num, by omega, by omega, HN, HA⟩
            | (simp [RowKit.intOf]; omega)
        · have hC' : Hid (cntW isW (s.data.toList.drop p) = k - p) := by
            have := hC.out
            rw [HD.out, cntW_miss (by simpa using hb)] at this
            show _ = _
            omega
          have hbb : b1 = false ∧ b2 = false := by
            rw [HW.out] at hb
            cases b1 <;> cases b2 <;> simp_all
          obtain ⟨rfl, rfl⟩ := hbb
          clear HD HW hb
          have HN : Hid (R = some (⟨1, toLowerA (s.extract p k).data.toList, 0⟩, k - p)) := by
            show _ = _
            rw [← HR.out, hC'.out, rext]
          have HSk := hid (HS.out k hk)
          obtain ⟨L, hL⟩ : ∃ L, (s.extract p k).data.toList = L := ⟨_, rfl⟩
          rw [hL] at HN HSk
          clear hC hC' HR hL
          go_wp2_with (first
            | (go_at_call 32; with_reducible refine (D1.out _).mono ?_; rintro e w3 ⟨rfl, hw⟩; obtain rfl := hw.symm)
            | (go_at_call 33; with_reducible refine (D2.out _).mono ?_; rintro e w3 ⟨rfl, hw⟩; obtain rfl := hw.symm)
            | (go_at_call 34; with_reducible refine (HSk.out _).mono ?_; rintro e w2 ⟨rfl, bel⟩; have HA2 := hid ((HA.out.set0 1).next bel); obtain ⟨z0', z1', z2', z3', zf', zl'⟩ := HA2.out.res; obtain ⟨y0', y1', y2', y3', yf', yl'⟩ := HA2.out.tok; clear bel))
          refine bodyPost_ret (by simp [results, Tryz.results17, go_sem, z0', z1', z2', z3']; try rfl) rfl ?_
          exact ⟨1, ⟨(toLowerA L).toArray⟩, 0, k, by rw [HN.out]; rfl, fun y h => (by rw [HN.out] at h; cases h; exact ⟨rfl, rfl, rfl, by omega⟩), below_put5 HA2.out.bel⟩
      · have hC' : Hid (cntW isW (s.data.toList.drop p) = k - p) := by
          have := hC.out
          rw [drop_end s (k := k) (by omega)] at this
          simp only [cntW] at this
          show _ = _
          omega
        have hkz : ¬ (k : Int) < s.size := by omega
        have HN : Hid (R = some (⟨1, toLowerA (s.extract p k).data.toList, 0⟩, k - p)) := by
          show _ = _
          rw [← HR.out, hC'.out, rext]
        have HSk := hid (HS.out k hk)
        obtain ⟨L, hL⟩ : ∃ L, (s.extract p k).data.toList = L := ⟨_, rfl⟩
        rw [hL] at HN HSk
        clear hC hC' HR hL
        go_wp2_with (first
          | (go_at_call 34; with_reducible refine (HSk.out _).mono ?_; rintro e w2 ⟨rfl, bel⟩; have HA2 := hid ((HA.out.set0 1).next bel); obtain ⟨z0', z1', z2', z3', zf', zl'⟩ := HA2.out.res; obtain ⟨y0', y1', y2', y3', yf', yl'⟩ := HA2.out.tok; clear bel))
        refine bodyPost_ret (by simp [results, Tryz.results17, go_sem, z0', z1', z2', z3']; try rfl) rfl ?_
        exact ⟨1, ⟨(toLowerA L).toArray⟩, 0, k, by rw [HN.out]; rfl, fun y h => (by rw [HN.out] at h; cases h; exact ⟨rfl, rfl, rfl, by omega⟩), below_put5 HA2.out.bel⟩
  · clear H5
    have h3' : (p : Int) + 1 < s.size := by omega
    go_enter Tryz.func17, Tryz.ntmps17
    go_wp2_with (go_at_call 32; with_reducible refine (DL.out _).mono ?_; rintro e w3 ⟨rfl, hw⟩; obtain rfl := hw.symm)
    go_loopw [9] (fun v wr => ∃ k : Nat, v = .int .i64 k ∧ p ≤ k ∧ k ≤ s.size ∧ Hid (p + cntW isW (s.data.toList.drop p) = k + cntW isW (s.data.toList.drop k)) ∧ Hid (Aft w wr 0 ⟨#[]⟩ p 0)) (fun v _ => s.size - (RowKit.intOf v).toNat)
    case atStart => exact ⟨p, rfl, Nat.le_refl _, by omega, rfl, aft0 w 0 p 0⟩
    case round =>
      obtain ⟨k, rfl, hk1, hk, hC, HA⟩ := hrel
      obtain ⟨z0, z1, z2, z3, zf, zl⟩ := HA.out.res
      obtain ⟨y0, y1, y2, y3, yf, yl⟩ := HA.out.tok
      by_cases hlt : k < s.size
      · have hkz : (k : Int) < s.size := by omega
        have D1 := hid (fun w => rletter_any (s[k].toNat : Int) w)
        have D2 := hid (fun w => rdigit_any (s[k].toNat : Int) w)
        have HW := hid (isW_b s[k])
        have HD := hid (drop_at s hlt)
        generalize ltr (s[k].toNat : Int) = b1 at *
        generalize dig (s[k].toNat : Int) = b2 at *
        by_cases hb : isW s[k] = true
        · have HN : Hid (p + cntW isW (s.data.toList.drop p) = (k + 1) + cntW isW (s.data.toList.drop (k + 1))) := by
            have := hC.out
            rw [HD.out, cntW_hit hb] at this
            show _ = _
            omega
          have hbb : b1 = true ∨ (b1 = false ∧ b2 = true) := by
            rw [HW.out] at hb
            cases b1 <;> simp_all
          clear hC HD HW hb
          rcases hbb with rfl | ⟨rfl, rfl⟩
          all_goals go_wp2_with (first
            | (go_at_call 32; with_reducible refine (D1.out _).mono ?_; rintro e w3 ⟨rfl, hw⟩; obtain rfl := hw.symm)
            | (go_at_call 33; with_reducible refine (D2.out _).mono ?_; rintro e w3 ⟨rfl, hw⟩; obtain rfl := hw.symm))
          all_goals go_roundw
          all_goals first
            | exact ⟨k + 1, by go_num, by omega, by omega, HN, HA⟩
            | (simp [RowKit.intOf]; omega)
        · have hC' : Hid (cntW isW (s.data.toList.drop p) = k - p) := by
            have := hC.out
            rw [HD.out, cntW_miss (by simpa using hb)] at this
            show _ = _
            omega
          have hbb : b1 = false ∧ b2 = false := by
            rw [HW.out] at hb
            cases b1 <;> cases b2 <;> simp_all
          obtain ⟨rfl, rfl⟩ := hbb
          clear HD HW hb
          have HN : Hid (R = some (⟨1, toLowerA (s.extract p k).data.toList, 0⟩, k - p)) := by
            show _ = _
            rw [← HR.out, hC'.out, rext]
          have HSk := hid (HS.out k hk)
          obtain ⟨L, hL⟩ : ∃ L, (s.extract p k).data.toList = L := ⟨_, rfl⟩
          rw [hL] at HN HSk
          clear hC hC' HR hL
          go_wp2_with (first
            | (go_at_call 32; with_reducible refine (D1.out _).mono ?_; rintro e w3 ⟨rfl, hw⟩; obtain rfl := hw.symm)
            | (go_at_call 33; with_reducible refine (D2.out _).mono ?_; rintro e w3 ⟨rfl, hw⟩; obtain rfl := hw.symm)
            | (go_at_call 34; with_reducible refine (HSk.out _).mono ?_; rintro e w2 ⟨rfl, bel⟩; have HA2 := hid ((HA.out.set0 1).next bel); obtain ⟨z0', z1', z2', z3', zf', zl'⟩ := HA2.out.res; obtain ⟨y0', y1', y2', y3', yf', yl'⟩ := HA2.out.tok; clear bel))
          refine bodyPost_ret (by simp [results, Tryz.results17, go_sem, z0', z1', z2', z3']; try rfl) rfl ?_
          exact ⟨1, ⟨(toLowerA L).toArray⟩, 0, k, by rw [HN.out]; rfl, fun y h => (by rw [HN.out] at h; cases h; exact ⟨rfl, rfl, rfl, by omega⟩), below_put5 HA2.out.bel⟩
      · have hC' : Hid (cntW isW (s.data.toList.drop p) = k - p) := by
          have := hC.out
          rw [drop_end s (k := k) (by omega)] at this
          simp only [cntW] at this
          show _ = _
          omega
        have hkz : ¬ (k : Int) < s.size := by omega
        have HN : Hid (R = some (⟨1, toLowerA (s.extract p k).data.toList, 0⟩, k - p)) := by
          show _ = _
          rw [← HR.out, hC'.out, rext]
        have HSk := hid (HS.out k hk)
        obtain ⟨L, hL⟩ : ∃ L, (s.extract p k).data.toList = L := ⟨_, rfl⟩
        rw [hL] at HN HSk
        clear hC hC' HR hL
        go_wp2_with (first
          | (go_at_call 34; with_reducible refine (HSk.out _).mono ?_; rintro e w2 ⟨rfl, bel⟩; have HA2 := hid ((HA.out.set0 1).next bel); obtain ⟨z0', z1', z2', z3', zf', zl'⟩ := HA2.out.res; obtain ⟨y0', y1', y2', y3', yf', yl'⟩ := HA2.out.tok; clear bel))
        refine bodyPost_ret (by simp [results, Tryz.results17, go_sem, z0', z1', z2', z3']; try rfl) rfl ?_
        exact ⟨1, ⟨(toLowerA L).toArray⟩, 0, k, by rw [HN.out]; rfl, fun y h => (by rw [HN.out] at h; cases h; exact ⟨rfl, rfl, rfl, by omega⟩), below_put5 HA2.out.bel⟩
end Go.Proofs.YtbaemjibaeeglaaGreatDoor
