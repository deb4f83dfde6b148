/- What the document's Only of a set of pages does. Condition: the numbers lie in another block than the set's row. -/
import Derived.Test.YtehfbdhkicdfiaaFrMake
namespace Go.Proofs.Ytehfbdhkicdfiaa
open Go.RowKit
set_option linter.unusedVariables false
set_option maxRecDepth 20000

set_option maxHeartbeats 2000000 in
theorem ronly_any (sb g : Nat) (u : List Bool) (p : Option Addr) (l : List Int) (c : Nat) (w : World) (h : FSt w sb g u) (hl : Ints w p l) (hm : l.length ≤ maxLen) (hp : l ≠ [] → ∀ b off, p = some ⟨b, off, none⟩ → b ≠ g) :
    Calls Try.prog 13 #[.pointer (some ⟨sb, 0, none⟩), .slice p l.length c] w fun e w' => e = .returned (.int .i64 (onlyE u l)) ∧ FSt w' sb g (onlyU u l) ∧ Chg (· = g) w w' ∧ w'.heap.size = w.heap.size := by
  have H := hid h
  have HL := hid hl
  have HP := hid hp
  have hul := h.len
  have hmi : (l.length : Int) ≤ 9223372036854775807 := by unfold maxLen at hm; omega
  clear h hl hp hm
  go_enter Try.func13, Try.ntmps13
  go_wp2
  go_loopw [5] (fun i wr => ∃ k : Nat, i = .int .i64 (k : Int) ∧ k ≤ l.length ∧ allHs u (l.take k) = true ∧ wr = w) (fun i _ => l.length - (RowKit.intOf i).toNat)
  case atStart => exact ⟨0, rfl, Nat.zero_le _, by simp [allHs], rfl⟩
  case round =>
    obtain ⟨k, rfl, hk, h0, hw⟩ := hrel
    subst wr
    have H0 := hid h0
    clear h0
    by_cases hx : k < l.length
    · obtain ⟨b, off, rfl, hv⟩ := HL.out.at hx
      have P := hid (rhas_any sb g u l[k] w H.out)
      have HN := hid (allHs_take_succ (u := u) hx)
      have HNo : Hid (hs u l[k] = false → allHs u l = false) := fun q => allHs_no hx q
      generalize l[k] = n at *
      cases hf : hs u n
      · rw [hf] at P
        have HE := hid (HNo.out hf)
        clear hf
        go_wp2_with (first
          | (go_at_call 21; with_reducible refine P.out.mono ?_; rintro e w3 ⟨rfl, hw⟩; subst hw)
          | fail)
        go_ret
        exact ⟨by simp only [onlyE, HE.out]; rfl, by simp only [onlyU, HE.out]; exact H.out, Chg.refl _ _, rfl⟩
      · rw [hf] at P
        have HK : Hid (allHs u (l.take (k + 1)) = true) := by show _ = _; rw [HN.out, H0.out, hf]; rfl
        clear hf
        go_wp2_with (first
          | (go_at_call 21; with_reducible refine P.out.mono ?_; rintro e w3 ⟨rfl, hw⟩; subst hw)
          | fail)
        go_roundw
        case rel => exact ⟨k + 1, by go_num, by omega, HK.out, trivial⟩
        case measure => simp [RowKit.intOf]; omega
    · obtain rfl : k = l.length := by omega
      rw [List.take_length] at H0
      go_wp2
      go_loopw [6] (fun i wq => ∃ k : Nat, i = .int .i64 (k : Int) ∧ k ≤ u.length ∧ FSt wq sb g (clr u k) ∧ Chg (· = g) w wq ∧ wq.heap.size = w.heap.size) (fun i _ => u.length - (RowKit.intOf i).toNat)
      case atStart => exact ⟨0, rfl, Nat.zero_le _, by rw [clr_zero]; exact H.out, Chg.refl _ _, rfl⟩
      case round =>
        obtain ⟨k, rfl, hk, hF, hC, hS⟩ := hrel
        have HF := hid hF
        have HC := hid hC
        have HS := hid hS
        have HLN : Hid ((clr u k).length = u.length) := clr_len hk
        obtain ⟨cap, hc⟩ := hF.hd
        rw [HLN.out] at hc
        by_cases hx : k < u.length
        · have hold := hF.at (i := k) (by rw [HLN.out]; omega)
          have hfz := hF.frozen k
          have HM := hid (hF.set k false)
          rw [clr_next hx] at HM
          generalize (clr u k)[k]'(by rw [HLN.out]; omega) = ob at *
          clear hF hC hS
          go_wp2
          go_roundw
          case rel => exact ⟨k + 1, by go_num, by omega, HM.out, HC.out.trans (set_chg _ _ _ _) (fun j _ q => q), (set_sz _ _ _).trans HS.out⟩
          case measure => simp [RowKit.intOf]; omega
        · obtain rfl : k = u.length := by omega
          rw [clr_all] at HF
          clear hF hC hS
          generalize wr = w2 at *
          go_wp2
          go_loopw [7] (fun i wq => ∃ k : Nat, i = .int .i64 (k : Int) ∧ k ≤ l.length ∧ FSt wq sb g (markAll (List.replicate u.length false) (l.take k)) ∧ Chg (· = g) w wq ∧ wq.heap.size = w.heap.size) (fun i _ => l.length - (RowKit.intOf i).toNat)
          case atStart => exact ⟨0, rfl, Nat.zero_le _, HF.out, HC.out, HS.out⟩
          case round =>
            clear HF HC HS hc
            obtain ⟨k, rfl, hk, hF, hC, hS⟩ := hrel
            have HF := hid hF
            have HC := hid hC
            have HS := hid hS
            have HLN : Hid ((markAll (List.replicate u.length false) (l.take k)).length = u.length) := by show _ = _; rw [markAll_len]; simp
            by_cases hx : k < l.length
            · obtain ⟨b, off, rfl, hv⟩ := (HL.out.chg hC HP.out).at hx
              obtain ⟨b1, b2⟩ := allHs_at H0.out hx
              have HM : Hid ((markAll (List.replicate u.length false) (l.take k)).set l[k].toNat true = markAll (List.replicate u.length false) (l.take (k + 1))) := by
                show _ = _
                rw [List.take_succ_eq_append_getElem hx, markAll_snoc]
              obtain ⟨m, hm⟩ : ∃ m : Nat, l[k] = (m : Int) := ⟨l[k].toNat, by omega⟩
              rw [hm] at hv b1 b2 HM
              have hFd := hF.below (Below.refl _ _).drew
              have HM2 : Hid (FSt (wr.drew.setCell ⟨g, m, none⟩ (.bool true)) sb g (markAll (List.replicate u.length false) (l.take (k + 1)))) := by
                have := hFd.set m true
                have q := HM.out
                simp only [Int.toNat_natCast] at q
                rw [q] at this
                exact this
              clear hm HM
              obtain ⟨cap, hc⟩ := hF.hd
              have hold := hF.at (i := m) (by rw [HLN.out]; omega)
              have hfz := hF.frozen m
              rw [HLN.out] at hc
              generalize (markAll (List.replicate u.length false) (l.take k))[m]'(by rw [HLN.out]; omega) = ob at *
              clear hF hC hS hFd
              go_wp2
              go_region
              go_wp2
              go_roundw
              case rel => exact ⟨k + 1, by go_num, by omega, HM2.out, HC.out.drew.trans (set_chg _ _ _ _) (fun j _ q => q), (set_sz _ _ _).trans HS.out⟩
              case measure => simp [RowKit.intOf]; omega
            · obtain rfl : k = l.length := by omega
              rw [List.take_length] at HF
              clear hF hC hS
              go_wp2
              go_ret
              exact ⟨by simp only [onlyE, H0.out]; rfl, by simp only [onlyU, H0.out]; exact HF.out, HC.out, HS.out⟩
end Go.Proofs.Ytehfbdhkicdfiaa
