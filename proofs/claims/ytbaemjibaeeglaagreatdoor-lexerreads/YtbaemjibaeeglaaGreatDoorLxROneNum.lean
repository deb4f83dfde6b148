/- What the document's one answers. Condition: the text lies within the reach. -/
import Derived.Test.YtbaemjibaeeglaaGreatDoorLxROneM
namespace Go.Proofs.YtbaemjibaeeglaaGreatDoor
open Go.RowKit Go.Lib Go.Sort
set_option linter.unusedVariables false
set_option maxRecDepth 20000

theorem one_n {p k : Nat} {l : List UInt8} {R : Option (Tk × Nat)} (hk : p ≤ k) (hR : (numD l).map (fun v => ((⟨2, [], v⟩ : Tk), k - p)) = R) :
    nvB (numD l) = R.isSome ∧ ∀ y, R = some y → (2 : Int) = y.1.k ∧ (⟨#[]⟩ : ByteArray) = ⟨y.1.s.toArray⟩ ∧ nvI (numD l) = y.1.n ∧ k = p + y.2 := by
  subst hR
  cases numD l with
  | none => exact ⟨rfl, fun y h => by cases h⟩
  | some x =>
    refine ⟨rfl, fun y h => ?_⟩
    cases h
    exact ⟨rfl, rfl, rfl, by show k = p + (k - p); omega⟩

set_option maxHeartbeats 8000000 in
theorem rone_dig (s : ByteArray) (p : Nat) (w : World) (hp : p < s.size) (hs : s.size ≤ 140737488351232) (h1 : dig (s[p].toNat : Int) = true) :
    Calls Tryz.prog 17 #[.string s, .int .i64 p] w (oneEnd (first1 (s.data.toList.drop p)) p w) := by
  obtain ⟨R, hR⟩ : ∃ R, first1 (s.data.toList.drop p) = R := ⟨_, rfl⟩
  rw [hR]
  rw [drop_at s hp, f_dig h1, ← drop_at s hp] at hR
  have HR := hid hR
  clear hR
  have hz1 : (p : Int) < s.size := by omega
  have hdi := (dig_iff _).1 h1
  have a : (((s[p].toNat : Nat) : Int) == 120) = false := beq_false_of_ne (by omega)
  have b : (((s[p].toNat : Nat) : Int) == 88) = false := beq_false_of_ne (by omega)
  have DL := hid (fun w => rletter_any (s[p].toNat : Int) w)
  have DD := hid (fun w => rdigit_any (s[p].toNat : Int) w)
  have h2 : ltr (s[p].toNat : Int) = false := by
    cases e : ltr (s[p].toNat : Int) with
    | false => rfl
    | true => rw [ltr_dig e] at h1; cases h1
  rw [h1] at DD
  rw [h2] at DL
  clear h1 h2 hdi
  unfold oneEnd
  go_enter Tryz.func17, Tryz.ntmps17
  go_wp2_with (first
    | (go_at_call 32; with_reducible refine (DL.out _).mono ?_; rintro e w3 ⟨rfl, hw⟩; obtain rfl := hw.symm)
    | (go_at_call 33; with_reducible refine (DD.out _).mono ?_; rintro e w3 ⟨rfl, hw⟩; obtain rfl := hw.symm))
  go_loopw [9] (fun v wr => ∃ k : Nat, v = .int .i64 k ∧ p ≤ k ∧ k ≤ s.size ∧ Hid (p + cntW isD (s.data.toList.drop p) = k + cntW isD (s.data.toList.drop k)) ∧ Hid (Aft w wr 0 ⟨#[]⟩ p 0)) (fun v _ => s.size - (RowKit.intOf v).toNat)
  case atStart => exact ⟨p, rfl, Nat.le_refl _, by omega, rfl, aft0 w 0 p 0⟩
  case round =>
    obtain ⟨k, rfl, hk1, hk, hC, HA⟩ := hrel
    obtain ⟨z0, z1, z2, z3, zf, zl⟩ := HA.out.res
    obtain ⟨y0, y1, y2, y3, yf, yl⟩ := HA.out.tok
    by_cases hlt : k < s.size
    · have hkz : (k : Int) < s.size := by omega
      have D2 := hid (fun w => rdigit_any (s[k].toNat : Int) w)
      have HD := hid (drop_at s hlt)
      cases hb : dig (s[k].toNat : Int) with
      | true =>
        have HN : Hid (p + cntW isD (s.data.toList.drop p) = (k + 1) + cntW isD (s.data.toList.drop (k + 1))) := by
          have := hC.out
          rw [HD.out, cntW_hit (p := isD) hb] at this
          show _ = _
          omega
        rw [hb] at D2
        clear hC HD
        go_wp2_with (go_at_call 33; with_reducible refine (D2.out _).mono ?_; rintro e w3 ⟨rfl, hw⟩; obtain rfl := hw.symm)
        go_roundw
        all_goals first
          | exact ⟨k + 1, by go_num, by omega, by omega, HN, HA⟩
          | (simp [RowKit.intOf]; omega)
      | false =>
        have hC' : Hid (cntW isD (s.data.toList.drop p) = k - p) := by
          have := hC.out
          rw [HD.out, cntW_miss (p := isD) hb] at this
          show _ = _
          omega
        rw [hb] at D2
        clear HD
        have ee : (s.extract p k).data.toList = (s.data.toList.drop p).take (cntW isD (s.data.toList.drop p)) := by rw [rext, hC'.out]
        have HNm := hid (fun w => rnumber_any (s.extract p k) w (by simp; omega) (by rw [ee]; exact cntW_all isD _))
        have HT := hid (one_n (p := p) (k := k) (l := (s.extract p k).data.toList) (R := R) hk1 (by rw [← HR.out, hC'.out, rext]))
        obtain ⟨L, hL⟩ : ∃ L, (s.extract p k).data.toList = L := ⟨_, rfl⟩
        rw [hL] at HT HNm
        clear hC hC' HR ee hL
        generalize nvI (numD L) = I at *
        generalize nvB (numD L) = B at *
        go_wp2_with (first
          | (go_at_call 33; with_reducible refine (D2.out _).mono ?_; rintro e w3 ⟨rfl, hw⟩; obtain rfl := hw.symm)
          | (go_at_call 35; with_reducible refine (HNm.out _).mono ?_; rintro e w3 ⟨rfl, hw⟩; obtain rfl := hw.symm))
        refine bodyPost_ret (by simp [results, Tryz.results17, go_sem, z0, z1, z2, z3]; try rfl) rfl ?_
        exact ⟨2, ⟨#[]⟩, I, k, by rw [← HT.out.1], HT.out.2, below_put6 HA.out.bel⟩
    · have hC' : Hid (cntW isD (s.data.toList.drop p) = k - p) := by
        have := hC.out
        rw [drop_end s (k := k) (by omega)] at this
        simp only [cntW] at this
        show _ = _
        omega
      have hkz : ¬ (k : Int) < s.size := by omega
      have ee : (s.extract p k).data.toList = (s.data.toList.drop p).take (cntW isD (s.data.toList.drop p)) := by rw [rext, hC'.out]
      have HNm := hid (fun w => rnumber_any (s.extract p k) w (by simp; omega) (by rw [ee]; exact cntW_all isD _))
      have HT := hid (one_n (p := p) (k := k) (l := (s.extract p k).data.toList) (R := R) hk1 (by rw [← HR.out, hC'.out, rext]))
      obtain ⟨L, hL⟩ : ∃ L, (s.extract p k).data.toList = L := ⟨_, rfl⟩
      rw [hL] at HT HNm
      clear hC hC' HR ee hL
      generalize nvI (numD L) = I at *
      generalize nvB (numD L) = B at *
      go_wp2_with (go_at_call 35; with_reducible refine (HNm.out _).mono ?_; rintro e w3 ⟨rfl, hw⟩; obtain rfl := hw.symm)
      refine bodyPost_ret (by simp [results, Tryz.results17, go_sem, z0, z1, z2, z3]; try rfl) rfl ?_
      exact ⟨2, ⟨#[]⟩, I, k, by rw [← HT.out.1], HT.out.2, below_put6 HA.out.bel⟩
end Go.Proofs.YtbaemjibaeeglaaGreatDoor
