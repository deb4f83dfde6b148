/- What (*reader).text does. Condition: the bytes lie within the reach. -/
import Derived.Test.YtpdfgifkommpdabKeysRNum
namespace Go.Proofs.Ytpdfgifkommpdab
open Go.RowKit Go.Lib Go.Sort
set_option linter.unusedVariables false

theorem b0n : ((0 : UInt8).toNat : Int) = 0 := rfl
def sliceLen : Value → Nat
  | .slice _ n _ => n
  | _ => 0
theorem own_len {w : World} {base : Nat} {v : Value} {l : List UInt8} (o : OwnB w base v l) : sliceLen v = l.length := by
  obtain ⟨p, c, rfl, _⟩ := Byts.of_own o
  rfl

/-- The ending of a text that is read. -/
def textEnd (rb : Nat) (t : Bool) (x : Except Int (List UInt8 × List UInt8)) (w : World) (e : Ending) (w' : World) : Prop :=
  Only rb w w' ∧ match x with
    | .ok r => e = .returned (.string ⟨r.1.toArray⟩) ∧ Rd w' rb t r.2
    | .error n => e = .panicked (thr n)

set_option maxHeartbeats 4000000 in
theorem rtext_any (rb : Nat) (t : Bool) (u : List UInt8) (w : World) (hR : Rd w rb t u) (hl : u.length ≤ 140737488351232) :
    Calls Try.prog 27 #[.pointer (some ⟨rb, 0, none⟩)] w (textEnd rb t (textD u) w) := by
  have HR : Hid (Rd w rb t u) := hR
  have hrb := hR.lt
  clear hR
  go_enter Try.func27, Try.ntmps27
  go_wp2
  go_loopw [3] (fun b wr => ∃ acc r, OwnB wr w.heap.size b acc ∧ Rd wr rb t r ∧ textD u = ahead acc (textD r) ∧ acc.length + r.length ≤ u.length ∧ Only rb w wr) (fun b _ => u.length + 1 - sliceLen b)
  case atStart => exact ⟨[], u, own_nil _ _, HR.out, (ahead_nil _).symm, by simp, Only.refl _ _⟩
  case round =>
    clear HR
    obtain ⟨acc, r, hO, hR, hT, hL, hN⟩ := hrel
    have hsz := hN.size
    have hsl := own_len hO
    have HO : Hid (OwnB wr w.heap.size _ acc) := hO
    have HN : Hid (Only rb w wr) := hN
    have HT : Hid (textD u = ahead acc (textD r)) := hT
    clear hO hN hT
    cases r with
    | nil =>
      have T := take_none rb t wr hR
      clear hR
      go_wp2_with (go_at_call 24; with_reducible refine T.mono ?_; rintro e w2 ⟨rfl, hw⟩; subst hw)
      refine ⟨rfl, HN.out, ?_⟩
      rw [HT.out]
      rfl
    | cons c r =>
      have hL' : acc.length + r.length + 1 ≤ u.length := by simpa [Nat.add_assoc] using hL
      have T := take_some rb t c r wr hR (by unfold maxLen; omega)
      clear hR hL
      by_cases hc : c = 0
      · subst hc
        simp only [b0n] at T
        cases r with
        | nil =>
          have E := fun w2 (R2 : Rd w2 rb t []) => ended_none rb t w2 R2
          go_wp2_with (first
            | (go_at_call 24; with_reducible refine T.mono ?_; rintro e w2 ⟨rfl, R2, O2⟩; have E2 := E w2 R2; have HO2 := hid O2; clear O2 R2)
            | (go_at_call 28; with_reducible refine E2.mono ?_; rintro e w3 ⟨rfl, hw⟩; subst hw)
            | fail)
          refine ⟨rfl, HN.out.trans HO2.out, ?_⟩
          rw [HT.out, textD_short]
          rfl
        | cons d r =>
          have hL2 : acc.length + r.length + 2 ≤ u.length := by simp at hL'; omega
          by_cases h1 : d = 1
          · subst h1
            have E := fun w2 (R2 : Rd w2 rb t (1 :: r)) => ended_some rb t 1 r w2 R2 (by unfold maxLen; omega) true (Or.inl ⟨rfl, rfl⟩)
            go_wp2_with (first
              | (go_at_call 24; with_reducible refine T.mono ?_; rintro e w2 ⟨rfl, R2, O2⟩; have E2 := E w2 R2; have HO2 := hid O2; clear O2 R2)
              | (go_at_call 28; with_reducible refine E2.mono ?_; rintro e w3 ⟨rfl, R3, O3⟩; have HO3 := hid O3; have HR3 := hid R3; clear O3 R3; have hcv := conv_own ((HO.out.only HO2.out hrb).only HO3.out hrb))
              | fail)
            go_ret
            refine ⟨(HN.out.trans HO2.out).trans HO3.out, ?_⟩
            rw [HT.out, textD_end]
            exact ⟨by simp, HR3.out⟩
          · by_cases h2 : d = 255
            · subst h2
              have E := fun w2 (R2 : Rd w2 rb t (255 :: r)) => ended_some rb t 255 r w2 R2 (by unfold maxLen; omega) false (Or.inr ⟨rfl, rfl⟩)
              go_wp2_with (first
                | (go_at_call 24; with_reducible refine T.mono ?_; rintro e w2 ⟨rfl, R2, O2⟩; have E2 := E w2 R2; have HO2 := hid O2; clear O2 R2)
                | (go_at_call 28; with_reducible refine E2.mono ?_; rintro e w3 ⟨rfl, R3, O3⟩; have HO3 := hid (HO2.out.trans O3); have HR3 := hid R3; clear O3 R3)
                | (at_builtin; refine appB w3 w.heap.size _ _ _ _ acc 0 _ rfl rfl rfl rfl rfl b0 (HO.out.only HO3.out hrb) (by omega) (Nat.le_trans hsz HO3.out.size) ?_; intro v' w' O' P' B'; have HO4 := hid O'; have HB4 := hid B'; clear O' P' B')
                | fail)
              have hsl4 := own_len HO4.out
              go_roundw
              case rel => exact ⟨acc ++ [0], r, HO4.out, HR3.out.below HB4.out hrb, by rw [HT.out, textD_zero, ahead_ahead], by simp; omega, (HN.out.trans HO3.out).then HB4.out⟩
              case measure =>
                have : (acc ++ [(0 : UInt8)]).length = acc.length + 1 := by simp
                simp
                omega
            · have n1 : d.toNat ≠ 1 := fun e => h1 (UInt8.toNat_inj.1 e)
              have n2 : d.toNat ≠ 255 := fun e => h2 (UInt8.toNat_inj.1 e)
              have E := fun w2 (R2 : Rd w2 rb t (d :: r)) => ended_bad rb t d r w2 R2 (by unfold maxLen; omega) n1 n2
              go_wp2_with (first
                | (go_at_call 24; with_reducible refine T.mono ?_; rintro e w2 ⟨rfl, R2, O2⟩; have E2 := E w2 R2; have HO2 := hid O2; clear O2 R2)
                | (go_at_call 28; with_reducible refine E2.mono ?_; rintro e w3 ⟨rfl, O3⟩; have HO3 := hid O3; clear O3)
                | fail)
              refine ⟨rfl, (HN.out.trans HO2.out).trans HO3.out, ?_⟩
              rw [HT.out, textD_bad d r h1 h2]
              rfl
      · have hz : (c.toNat : Int) ≠ 0 := fun e => hc (UInt8.toNat_inj.1 (by simpa using e))
        have hb : ((c.toNat : Int) == 0) = false := beq_eq_false_iff_ne.2 hz
        have hz' : c.toNat ≠ 0 := by omega
        have HT2 : Hid (textD u = ahead (acc ++ [c]) (textD r)) := by
          show _ = _
          rw [HT.out, textD_one c r hc, ahead_ahead]
        clear HT
        go_wp2_with (first
          | (go_at_call 24; with_reducible refine T.mono ?_; rintro e w2 ⟨rfl, R2, O2⟩; have HO2 := hid O2; have HR2 := hid R2; clear O2 R2)
          | (at_builtin; refine appB w2 w.heap.size _ _ _ _ acc c _ rfl rfl rfl rfl rfl rfl (HO.out.only HO2.out hrb) (by omega) (Nat.le_trans hsz HO2.out.size) ?_; intro v' w' O' P' B'; have HO4 := hid O'; have HB4 := hid B'; clear O' P' B')
          | fail)
        have hsl4 := own_len HO4.out
        go_roundw
        case rel => exact ⟨acc ++ [c], r, HO4.out, HR2.out.below HB4.out hrb, HT2.out, by simp; omega, (HN.out.trans HO2.out).then HB4.out⟩
        case measure =>
          have : (acc ++ [c]).length = acc.length + 1 := by simp
          simp
          omega
end Go.Proofs.Ytpdfgifkommpdab
