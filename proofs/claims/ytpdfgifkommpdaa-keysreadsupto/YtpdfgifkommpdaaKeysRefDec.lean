/- What the document's own Decode answers: the same as keys.Decode. Condition: the bytes lie within the reach, thirty-two times. -/
import Derived.Test.YtpdfgifkommpdaaKeysRefText
import Derived.Test.YtpdfgifkommpdaaKeysRef
namespace Go.Proofs.Ytpdfgifkommpdaa
open Go.RowKit Go.Lib Go.Sort
set_option linter.unusedVariables false

theorem refValue_any (p : Option Addr) (u : List UInt8) (cap : Nat) (w : World) (hu : u ≠ []) (rB : Byts w p u) (hl : u.length ≤ 140737488351232) :
    Calls Try.prog 30 #[.slice p u.length cap] w (rvEnd u (valD u) w) := by
  cases u with
  | nil => exact absurd rfl hu
  | cons c u =>
    have hl' : u.length + 1 ≤ 140737488351232 := by simpa using hl
    have hm : u.length + 1 ≤ maxLen := by unfold maxLen; omega
    rcases rB with h | ⟨b, off, rfl, hcells⟩
    · cases h
    have c0 : w.cell? ⟨b, off, none⟩ = some (.int .u8 (c.toNat : Int)) := hcells 0 (by simp)
    simp only [valD]
    by_cases h1 : c.toNat = 1
    · rw [if_pos h1]
      exact rv_null b off cap c u w c0 hm h1
    rw [if_neg h1]
    by_cases h2 : c.toNat = 2
    · rw [if_pos h2]
      cases u with
      | nil => exact rv_bool_none b off cap c w c0 h2
      | cons d u =>
        have c1 : w.cell? ⟨b, off + 1, none⟩ = some (.int .u8 (d.toNat : Int)) := hcells 1 (by simp)
        simp only []
        by_cases hd : 1 < d.toNat
        · rw [if_pos hd]
          exact rv_bool_bad b off cap c d u w c0 c1 (by simpa using hm) h2 hd
        · rw [if_neg hd]
          exact rv_bool b off cap c d u w c0 c1 (by simpa using hm) h2 (by omega)
    rw [if_neg h2]
    by_cases h3 : c.toNat = 3
    · rw [if_pos h3]
      by_cases h8 : u.length < 8
      · rw [if_pos h8]
        exact rv_int_none b off cap c u w c0 h3 h8
      · rw [if_neg h8]
        exact rv_int b off cap c u w hcells hm h3 (by omega)
    rw [if_neg h3]
    by_cases h4 : c.toNat = 4 ∨ c.toNat = 5
    · rw [if_pos h4]
      exact rv_text b off cap c u w hcells hl' _ (by rcases h4 with h | h <;> rw [h] <;> simp) _ rfl
    · rw [if_neg h4]
      exact rv_bad b off cap c u w c0 hm (by omega)

theorem Byts.drop {w : World} {b off : Nat} {l : List UInt8} (h : Byts w (some ⟨b, off, none⟩) l) (k : Nat) : Byts w (some ⟨b, off + k, none⟩) (l.drop k) := by
  rcases h with h | ⟨b', off', hp, hc⟩
  · left; rw [h]; simp
  · simp only [Option.some.injEq, Addr.mk.injEq, and_true] at hp
    obtain ⟨rfl, rfl⟩ := hp
    refine Or.inr ⟨b, off + k, rfl, fun i hi => ?_⟩
    have hi' : k + i < l.length := by simp at hi; omega
    rw [List.getElem_drop, Nat.add_assoc]
    exact hc (k + i) hi'

theorem textD_err : ∀ (n : Nat) (u : List UInt8), u.length ≤ n → ∀ e, textD u = .error e → e ≠ 0
  | 0, u, hn, e, h => by
    obtain rfl : u = [] := List.length_eq_zero_iff.1 (by omega)
    simp [textD] at h
    omega
  | n + 1, [], hn, e, h => by
    simp [textD] at h
    omega
  | n + 1, c :: u, hn, e, h => by
    by_cases hc : c = 0
    · subst hc
      cases u with
      | nil => rw [textD_short] at h; cases h; decide
      | cons d l =>
        by_cases h1 : d = 1
        · subst h1; rw [textD_end] at h; cases h
        · by_cases h2 : d = 255
          · subst h2
            rw [textD_zero] at h
            cases hx : textD l with
            | ok x => rw [hx] at h; cases h
            | error e' => rw [hx] at h; cases h; exact textD_err n l (by simp at hn; omega) _ hx
          · rw [textD_bad d l h1 h2] at h; cases h; decide
    · rw [textD_one c u hc] at h
      cases hx : textD u with
      | ok x => rw [hx] at h; cases h
      | error e' => rw [hx] at h; cases h; exact textD_err n u (by simpa using hn) _ hx
theorem valD_err {u : List UInt8} {e : Int} (h : valD u = .error e) : e ≠ 0 := by
  cases u with
  | nil => simp [valD] at h; omega
  | cons c u =>
    simp only [valD] at h
    split at h
    · cases h
    · split at h
      · cases u with
        | nil => cases h; decide
        | cons d l =>
          simp only [] at h
          split at h
          · cases h; decide
          · cases h
      · split at h
        · split at h
          · cases h; decide
          · cases h
        · split at h
          · cases hx : textD u with
            | ok x => rw [hx] at h; cases h
            | error e' => rw [hx] at h; cases h; exact textD_err u.length u (Nat.le_refl _) _ hx
          · cases h; decide

set_option maxHeartbeats 8000000 in
theorem refDecode_any (p q : Option Addr) (l : List UInt8) (ds : List Bool) (c d : Nat) (w : World) (hc : l.length ≤ c) (rB : Byts w p l) (rD : Bits w q ds) (hD : ds.length ≤ maxLen) (hl : l.length * 32 ≤ 140737488351232) :
    Calls Try.prog 13 #[.slice p l.length c, .slice q ds.length d] w (decEnd (decL l ds) w) := by
  have HB0 : Hid (Byts w p l) := rB
  have HD : Hid (Bits w q ds) := rD
  clear rB rD
  generalize hres : decL l ds = res
  have HRes : Hid (res = decL l ds) := hres.symm
  clear hres
  go_enter Try.func13, Try.ntmps13
  go_wp2
  go_loopw [0, 6] (fun b v wr => ∃ acc r p' c', b = .slice p' (List.length r) c' ∧ Byts w p' r ∧ r.length ≤ c' ∧ OwnV wr w.heap.size v acc ∧ res = upon acc (decL r (ds.drop acc.length)) ∧ acc.length + r.length ≤ l.length ∧ Below w.heap.size w wr) (fun _ v _ => l.length + 1 - sliceLen v)
  case atStart => exact ⟨[], l, p, c, rfl, HB0.out, hc, ownV_nil _ _, by rw [upon_nil]; exact HRes.out, by simp, Below.refl _ _⟩
  case round =>
    clear HRes HB0
    obtain ⟨acc, r, p', c', rfl, rB, hrc, hO, hT, hL, hB⟩ := hrel
    obtain ⟨pv, cv, rfl, rv, _, hmv⟩ := ownV_slice hO
    have hsz := hB.size
    have HO : Hid (OwnV wr w.heap.size _ acc) := hO
    have HT : Hid (res = upon acc (decL r (ds.drop acc.length))) := hT
    have HB : Hid (Below w.heap.size w wr) := hB
    have HR : Hid (Byts w p' r) := rB
    clear hO hT hB rB rv hmv
    by_cases hr : r = []
    · subst hr
      simp only [List.length_nil]
      go_wp2
      go_returns
      refine ⟨HB.out, ?_⟩
      rw [HT.out, decL_nil]
      exact ⟨_, rfl, by simpa using HO.out⟩
    · have hpos : 0 < r.length := List.length_pos_iff.2 hr
      have TU := turned_any q ds d acc.length wr hD (by unfold maxLen; omega) (HD.out.below HB.out)
      rw [← head_drop] at TU
      have hnx := fun v u h => upon_ok acc r ds v u hr h
      have hbx := fun e h => upon_bad acc r ds e hr h
      obtain ⟨b0', o0', rfl, hcell⟩ := HR.out.at (i := 0) hpos
      generalize ht' : (ds.drop acc.length).headD false = t' at *
      clear hcell
      have FL := flip_any (some ⟨b0', o0', none⟩) r c' wr (by omega) (HR.out.below HB.out)
      unfold flipEnd at FL
      cases hv : valD (r.map (tb t')) with
      | error e =>
        have HE : Hid (res = .error e) := HT.out.trans (hbx e hv)
        have RV := fun p c w (rB : Byts w p (r.map (tb t'))) => refValue_any p (r.map (tb t')) c w (by simpa using hr) rB (by simp; omega)
        simp only [List.length_map] at RV
        rw [hv] at RV
        unfold rvEnd at RV
        simp only [] at RV
        have hen : Hid (e ≠ 0) := valD_err hv
        have hen' : (e != 0) = true := bne_iff_ne.2 hen.out
        clear hnx hbx HT hv
        cases t'
        · rw [tb_false_map'] at RV
          have RV0 := RV _ c' wr (HR.out.below HB.out)
          go_wp2_with (first
            | (go_at_call 25; with_reducible refine TU.mono ?_; rintro e w2 ⟨rfl, hw⟩; subst hw)
            | (go_at_call 30; with_reducible refine RV0.mono ?_; rintro e w3 ⟨B3, rfl⟩; have HB3 := hid (HB.out.trans (B3.mono hsz)); clear B3)
            | fail)
          go_returns
          refine ⟨HB3.out.trans (by have B := Below.refl w.heap.size w3; have hs3 := HB3.out.size; go_grown), ?_⟩
          rw [HE.out]
          rfl
        · go_wp2_with (first
            | (go_at_call 25; with_reducible refine TU.mono ?_; rintro e w2 ⟨rfl, hw⟩; subst hw)
            | (go_at_call 26; with_reducible refine FL.mono ?_; rintro e w2 ⟨v2, rfl, O2, B2⟩; obtain ⟨p2, c2, hv2, r2, _, _⟩ := Byts.of_own O2; subst hv2; rw [List.length_map]; have RV2 := RV p2 c2 w2 r2; have HB2 := hid (HB.out.trans (B2.mono hsz)); clear O2 B2 r2)
            | (go_at_call 30; with_reducible refine RV2.mono ?_; rintro e w3 ⟨B3, rfl⟩; have HB3 := hid (HB2.out.trans (B3.mono HB2.out.size)); clear B3)
            | fail)
          go_returns
          refine ⟨HB3.out.trans (by have B := Below.refl w.heap.size w3; have hs3 := HB3.out.size; go_grown), ?_⟩
          rw [HE.out]
          rfl
      | ok x =>
        obtain ⟨⟨xk, xn, xt⟩, u⟩ := x
        have HE : Hid (res = upon (acc ++ [⟨xk, xn, xt⟩]) (decL (u.map (tb t')) (ds.drop (acc ++ [(⟨xk, xn, xt⟩ : Val)]).length))) := HT.out.trans (hnx _ _ hv)
        obtain ⟨k, e1, e2, e3, _⟩ := valD_rest _ _ _ hv
        have hum : u.map (tb t') = r.drop k := by
          rw [e1, List.map_drop, map_tb_tb]
        rw [hum] at HE
        have hkl : k ≤ r.length := by simpa using e2
        have RV := fun p c w (rB : Byts w p (r.map (tb t'))) => refValue_any p (r.map (tb t')) c w (by simpa using hr) rB (by simp; omega)
        have hlen : ((r.map (tb t')).length : Int) - u.length = (k : Int) := by
          rw [e1]
          simp
          omega
        rw [hv] at RV
        unfold rvEnd at RV
        simp only [] at RV
        rw [hlen] at RV
        simp only [List.length_map] at RV
        have HR2 : Hid (Byts w (some ⟨b0', o0' + k, none⟩) (r.drop k)) := HR.out.drop k
        have hdl : (r.drop k).length = r.length - k := List.length_drop
        clear hnx hbx HT hv e1 e2 hum hlen
        cases t'
        · rw [tb_false_map'] at RV
          have RV0 := RV _ c' wr (HR.out.below HB.out)
          go_wp2_with (first
            | (go_at_call 25; with_reducible refine TU.mono ?_; rintro e w2 ⟨rfl, hw⟩; subst hw)
            | (go_at_call 30; with_reducible refine RV0.mono ?_; rintro e w3 ⟨B3, rfl⟩; have HB3 := hid B3; have hs3 := B3.size; clear B3)
            | (at_builtin; refine appV (w3.alloc (.cells #[.int .i64 xk, .int .i64 xn, .string xt] 43)) w.heap.size _ _ _ _ acc xk xn xt rfl rfl rfl rfl (by simp) ((HO.out.below HB3.out).alloc _) (by omega) (by simp; omega) ?_; intro v' w' O' B' S'; have HO4 := hid O'; have HB4 := hid (((Below.refl w.heap.size w3).alloc (by omega) _).trans B'); clear O' B')
            | fail)
          all_goals
            go_roundw
            case rel => exact ⟨acc ++ [⟨xk, xn, xt⟩], r.drop k, _, _, by rw [hdl], by first | exact HR2.out | (split <;> first | exact HR2.out | exact Or.inl (List.drop_of_length_le (by omega))), by rw [hdl]; omega, HO4.out, HE.out, by rw [hdl]; simp; omega, (HB.out.trans (HB3.out.mono hsz)).trans HB4.out⟩
            case measure =>
              simp [sliceLen] at *
              omega
        · go_wp2_with (first
            | (go_at_call 25; with_reducible refine TU.mono ?_; rintro e w2 ⟨rfl, hw⟩; subst hw)
            | (go_at_call 26; with_reducible refine FL.mono ?_; rintro e w2 ⟨v2, rfl, O2, B2⟩; obtain ⟨p2, c2, hv2, r2, _, _⟩ := Byts.of_own O2; subst hv2; rw [List.length_map]; have RV2 := RV p2 c2 w2 r2; have HB2 := hid B2; clear O2 B2 r2)
            | (go_at_call 30; with_reducible refine RV2.mono ?_; rintro e w3 ⟨B3, rfl⟩; have HB3 := hid (HB2.out.trans (B3.mono HB2.out.size)); have hs3 := HB3.out.size; clear B3)
            | (at_builtin; refine appV (w3.alloc (.cells #[.int .i64 xk, .int .i64 xn, .string xt] 43)) w.heap.size _ _ _ _ acc xk xn xt rfl rfl rfl rfl (by simp) ((HO.out.below HB3.out).alloc _) (by omega) (by simp; omega) ?_; intro v' w' O' B' S'; have HO4 := hid O'; have HB4 := hid (((Below.refl w.heap.size w3).alloc (by omega) _).trans B'); clear O' B')
            | fail)
          all_goals
            go_roundw
            case rel => exact ⟨acc ++ [⟨xk, xn, xt⟩], r.drop k, _, _, by rw [hdl], by first | exact HR2.out | (split <;> first | exact HR2.out | exact Or.inl (List.drop_of_length_le (by omega))), by rw [hdl]; omega, HO4.out, HE.out, by rw [hdl]; simp; omega, (HB.out.trans (HB3.out.mono hsz)).trans HB4.out⟩
            case measure =>
              simp [sliceLen] at *
              omega
end Go.Proofs.Ytpdfgifkommpdaa
