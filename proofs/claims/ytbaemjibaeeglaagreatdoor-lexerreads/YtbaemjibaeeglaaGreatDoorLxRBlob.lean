/- What the document's blob answers. Condition: the text lies within the reach. -/
import Derived.Test.YtbaemjibaeeglaaGreatDoorLxRQuo
namespace Go.Proofs.YtbaemjibaeeglaaGreatDoor
open Go.RowKit Go.Lib Go.Sort
set_option linter.unusedVariables false
set_option maxRecDepth 20000

/-- What blob answers. -/
def rbEnd (R : Option (List UInt8 × Nat)) (w : World) (e : Ending) (w' : World) : Prop :=
  ∃ (X : ByteArray) (E : Nat), e = .returned (.tuple #[.string X, .int .i64 (E : Int), .bool (qb R)]) ∧ (∀ y, R = some y → X = ⟨y.1.toArray⟩ ∧ E = y.2) ∧ Below w.heap.size w w'
theorem mulFin {a c : Nat} (ha : a < 16) (hc : c < 16) : ((UInt8.ofNat (16 * (a : Int) + (c : Int)).toNat).toNat : Int) = 16 * (a : Int) + (c : Int) := by
  rw [UInt8.toNat_ofNat']
  omega
theorem wi64 {x : Int} (h0 : -9223372036854775808 ≤ x) (h1 : x < 9223372036854775808) : IntKind.i64.wrap x = x := by
  rw [IntKind.wrap_i64]
  omega
theorem wk1 {k1 n : Nat} (h : k1 < n) (hn : n ≤ 140737488351232) : IntKind.i64.wrap (k1 : Int) = (k1 : Int) := wi64 (by omega) (by omega)
theorem wa16 {a : Nat} (h : (a : Int) < 16) : IntKind.i64.wrap (16 * (a : Int)) = 16 * (a : Int) := wi64 (by omega) (by omega)
theorem wac {a c : Nat} (h : (a : Int) < 16) (h2 : (c : Int) < 16) : IntKind.i64.wrap (16 * (a : Int) + (c : Int)) = 16 * (a : Int) + (c : Int) := wi64 (by omega) (by omega)
theorem wu8 {a c : Nat} (h : (a : Int) < 16) (h2 : (c : Int) < 16) : IntKind.u8.wrap (16 * (a : Int) + (c : Int)) = 16 * (a : Int) + (c : Int) := by
  rw [IntKind.wrap_u8]
  omega
theorem rb_drewN {B : Nat} {a w : World} (n : Nat) (h : Below B a w) : Below B a (w.drewN n) := ⟨h.os, h.tape, h.output, h.size, h.block⟩
theorem hx_39 : hx (bi 39) = -1 := by decide

set_option maxHeartbeats 8000000 in
theorem rblob_any (s : ByteArray) (p : Nat) (w : World) (hp : p < s.size) (hs : s.size ≤ 140737488351232) :
    Calls Tryz.prog 31 #[.string s, .int .i64 p] w (rbEnd (blo (s.data.toList.drop (p + 1)) [] (p + 1)) w) := by
  obtain ⟨R, HR⟩ : ∃ R, Hid (blo (s.data.toList.drop (p + 1)) [] (p + 1) = R) := ⟨_, rfl⟩
  rw [HR.out]
  unfold rbEnd
  go_enter Tryz.func31, Tryz.ntmps31
  go_wp2_with fail
  go_loopw [7, 8] (fun v i wr => ∃ (k : Nat) (acc : List UInt8), i = .int .i64 k ∧ p + 1 ≤ k ∧ k ≤ s.size ∧ acc.length ≤ k ∧ Hid (blo (s.data.toList.drop k) acc k = R) ∧ Hid (LB wr w.heap.size v acc) ∧ Hid (Below w.heap.size w wr)) (fun _ i _ => s.size - (RowKit.intOf i).toNat)
  case atStart => exact ⟨p + 1, [], by go_num, Nat.le_refl _, by omega, Nat.zero_le _, HR, lb_nil _ _, Below.refl _ _⟩
  case round =>
    obtain ⟨k, acc, rfl, hk1, hk, hacc, hQ, hB, bel⟩ := hrel
    by_cases hgo : k + 1 < s.size
    · have hlt : k < s.size := by omega
      have HD := hid (drop_at s hlt)
      obtain ⟨k1, hk1e⟩ : ∃ k1 : Nat, k1 = k + 1 := ⟨_, rfl⟩
      have hlt3 : k1 < s.size := by omega
      have HD2 : Hid (s.data.toList.drop (k + 1) = s[k1] :: s.data.toList.drop (k + 1 + 1)) := by
        subst hk1e
        exact drop_at s hgo
      have hke : ((k : Int) + 1) = (k1 : Int) := by omega
      have HQ2 : Hid (blo (s[k] :: s[k1] :: s.data.toList.drop (k + 1 + 1)) acc k = R) := by
        show _ = _
        rw [← hQ.out, HD.out, HD2.out]
      have D1 := hid (fun w => rhex_any s[k] w)
      have D2 := hid (fun w => rhex_any s[k1] w)
      have hkz : (k : Int) < s.size := by omega
      have hkz2 : (k1 : Int) < s.size := by omega
      have HKE := hid hk1e
      clear hk1e hgo
      have hA := hx_lt s[k]
      have hA' := hx_ge s[k]
      have hE := hx_lt s[k1]
      have hE' := hx_ge s[k1]
      have H39 : Hid (0 ≤ hx (bi s[k]) → s[k] ≠ 39) := fun h e => by rw [e, hx_39] at h; omega
      have HBad : Hid (s[k] ≠ 39 → (hx (bi s[k]) < 0 ∨ hx (bi s[k1]) < 0) → blo (s[k] :: s[k1] :: s.data.toList.drop (k + 1 + 1)) acc k = none) := fun h39 hb => blo_bad h39 hb _ _ _
      have HOk : Hid (s[k] ≠ 39 → ¬ (hx (bi s[k]) < 0 ∨ hx (bi s[k1]) < 0) → blo (s[k] :: s[k1] :: s.data.toList.drop (k + 1 + 1)) acc k = blo (s.data.toList.drop (k + 1 + 1)) (acc ++ [UInt8.ofNat (16 * hx (bi s[k]) + hx (bi s[k1])).toNat]) (k + 2)) := fun h39 hb => blo_ok h39 hb _ _ _
      clear hQ HD HD2
      generalize hx (bi s[k]) = A at *
      generalize hx (bi s[k1]) = E at *
      by_cases hok : 0 ≤ A ∧ 0 ≤ E
      · have h39 := H39.out hok.1
        have HN : Hid (blo (s.data.toList.drop (k + 2)) (acc ++ [UInt8.ofNat (16 * A + E).toNat]) (k + 2) = R) := by
          show _ = _
          rw [← HQ2.out]
          exact (HOk.out h39 (by omega)).symm
        have ha : 0 ≤ A := hok.1
        have he : 0 ≤ E := hok.2
        obtain ⟨a, rfl⟩ : ∃ a : Nat, A = a := ⟨A.toNat, by omega⟩
        obtain ⟨c, rfl⟩ : ∃ c : Nat, E = c := ⟨E.toNat, by omega⟩
        have HM := hid (mulFin (a := a) (c := c) (by omega) (by omega))
        have ha16 : (a : Int) < 16 := hA
        have hc16 : (c : Int) < 16 := hE
        clear HQ2 HBad HOk H39 h39 hok hA' hE'
        have HBd := hid bel.out.drew
        have u1 := wk1 hlt3 hs
        have u2 := wa16 ha16
        have u3 := wac ha16 hc16
        have u4 := wu8 ha16 hc16
        have HBO := hid (hB.out.below ((Below.refl wr.heap.size wr).drew))
        go_wp2_with (first
          | (go_at_call 56; with_reducible refine (D1.out _).mono ?_; rintro e w3 ⟨rfl, hw⟩; obtain rfl := hw.symm)
          | (go_at_call 56; with_reducible refine (D2.out _).mono ?_; rintro e w3 ⟨rfl, hw⟩; obtain rfl := hw.symm))
        go_region_held_law (fun _ => True) (exact trivial)
          (first
            | (go_at_call 56; with_reducible refine (D1.out _).mono ?_; rintro e w3 ⟨rfl, hw⟩; obtain rfl := hw.symm)
            | (go_at_call 56; with_reducible refine (D2.out _).mono ?_; rintro e w3 ⟨rfl, hw⟩; obtain rfl := hw.symm)
            | (refine lbStep _ w.heap.size _ _ _ _ acc _ _ rfl rfl rfl rfl rfl HM.out HBO.out (by omega) HBd.out.size ?_; intro v' w' O' b'; have HO' := hid O'; have B' := hid (HBd.out.trans b'); clear O' b'))
        all_goals go_wp2_with fail
        all_goals go_roundw
        all_goals first
          | exact ⟨k + 2, acc ++ [UInt8.ofNat (16 * (a : Int) + (c : Int)).toNat], by go_num, by omega, by omega, by simp; omega, HN, HO', B'⟩
          | (simp [RowKit.intOf]; omega)
      · have HZ : Hid (∀ b : Bool, (((s[k].toNat : Nat) : Int) == 39) = b → R = if b then some (acc, k1) else none) := by
          intro b hb
          cases b with
          | true =>
            rw [← HQ2.out, byte_is39 hb, blo_q, HKE.out]
            rfl
          | false =>
            rw [← HQ2.out]
            exact HBad.out (byte_ne39 hb) (by omega)
        have hcv := fun n => lb_conv (hB.out.below (rb_drewN n (Below.refl wr.heap.size wr)))
        clear HQ2 HBad HOk H39 hB
        have h2 : ((0 : Int) ≤ A ∧ ¬ (0 : Int) ≤ E) ∨ ¬ (0 : Int) ≤ A := by omega
        cases hc : (((s[k].toNat : Nat) : Int) == 39)
        all_goals have HN := hid (HZ.out _ hc)
        all_goals clear HZ hok hA hA' hE hE'
        all_goals rcases h2 with ⟨h3, h4⟩ | h3
        all_goals go_wp2_with (first
          | (go_at_call 56; with_reducible refine (D1.out _).mono ?_; rintro e w3 ⟨rfl, hw⟩; obtain rfl := hw.symm)
          | (go_at_call 56; with_reducible refine (D2.out _).mono ?_; rintro e w3 ⟨rfl, hw⟩; obtain rfl := hw.symm))
        all_goals go_quiet (fail)
        all_goals go_wp2_with fail
        all_goals refine bodyPost_ret (by simp [results, Tryz.results31, go_sem]; try rfl) rfl ?_
        all_goals exact ⟨⟨acc.toArray⟩, k1, by rw [HN.out]; rfl, fun y h => (by rw [HN.out] at h; first | (cases h; exact ⟨rfl, rfl⟩) | cases h), rb_drewN _ bel.out⟩
    · by_cases hlt : k < s.size
      · have HZ : Hid (∀ b : Bool, (((s[k].toNat : Nat) : Int) == 39) = b → R = if b then some (acc, k + 1) else none) := by
          intro b hb
          rw [← hQ.out, drop_at s hlt, drop_end s (by omega)]
          cases b with
          | true =>
            rw [byte_is39 hb, blo_q]
            rfl
          | false =>
            rw [blo_one (byte_ne39 hb)]
            rfl
        have hcv := fun n => lb_conv (hB.out.below (rb_drewN n (Below.refl wr.heap.size wr)))
        have hz1 : (k : Int) < s.size := by omega
        have hz2 : ¬ ((k : Int) + 1) < s.size := by omega
        clear hQ hB
        cases hc : (((s[k].toNat : Nat) : Int) == 39)
        all_goals have HN := hid (HZ.out _ hc)
        all_goals clear HZ
        all_goals go_wp2_with fail
        all_goals go_quiet (fail)
        all_goals go_wp2_with fail
        all_goals refine bodyPost_ret (by simp [results, Tryz.results31, go_sem]; try rfl) rfl ?_
        all_goals exact ⟨⟨acc.toArray⟩, k + 1, by rw [HN.out]; rfl, fun y h => (by rw [HN.out] at h; first | (cases h; exact ⟨rfl, rfl⟩) | cases h), rb_drewN _ bel.out⟩
      · have HN : Hid (R = none) := by
          show _ = _
          rw [← hQ.out, drop_end s (by omega)]
          rfl
        have hcv := fun n => lb_conv (hB.out.below (rb_drewN n (Below.refl wr.heap.size wr)))
        have hz1 : ¬ (k : Int) < s.size := by omega
        have hz2 : ¬ ((k : Int) + 1) < s.size := by omega
        clear hQ hB
        go_wp2_with fail
        go_quiet (fail)
        go_wp2_with fail
        refine bodyPost_ret (by simp [results, Tryz.results31, go_sem]; try rfl) rfl ?_
        exact ⟨⟨acc.toArray⟩, k + 1, by rw [HN.out]; rfl, fun y h => (by rw [HN.out] at h; cases h), rb_drewN _ bel.out⟩
end Go.Proofs.YtbaemjibaeeglaaGreatDoor
