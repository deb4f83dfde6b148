/- What Only, New and Clone do, the project's and the document's. Condition: the numbers handed to Only lie in another block than the set's row. -/
import Derived.Test.YtehfbdhkicdfiaaFrRef
namespace Go.Proofs.Ytehfbdhkicdfiaa
open Go.RowKit
set_option linter.unusedVariables false
set_option maxRecDepth 20000

/-! ### A row cleared up to a place -/
def clr (u : List Bool) (k : Nat) : List Bool := List.replicate k false ++ u.drop k
theorem clr_zero (u : List Bool) : clr u 0 = u := by simp [clr]
theorem clr_all (u : List Bool) : clr u u.length = List.replicate u.length false := by simp [clr]
theorem clr_len {u : List Bool} {k : Nat} (h : k ≤ u.length) : (clr u k).length = u.length := by simp [clr]; omega
theorem clr_next {u : List Bool} {k : Nat} (h : k < u.length) : (clr u k).set k false = clr u (k + 1) := by
  apply List.ext_getElem?
  intro i
  rw [List.getElem?_set]
  unfold clr
  by_cases h1 : k = i
  · subst h1
    rw [if_pos rfl, if_pos (by simp; omega), List.getElem?_append_left (by simp), List.getElem?_replicate, if_pos (by omega)]
  · rw [if_neg h1]
    by_cases h2 : i < k
    · rw [List.getElem?_append_left (by simpa using h2), List.getElem?_append_left (by simp; omega), List.getElem?_replicate, List.getElem?_replicate, if_pos h2, if_pos (by omega)]
    · rw [List.getElem?_append_right (by simp; omega), List.getElem?_append_right (by simp; omega)]
      simp only [List.length_replicate, List.getElem?_drop]
      congr 1
      omega
theorem FSt.cleared {sb g : Nat} {u : List Bool} : ∀ (n o : Nat) (w : World), FSt w sb g (clr u o) → o + n = u.length → FSt (w.setCells g o (List.replicate n (.bool false))) sb g (clr u (o + n)) ∧ Chg (· = g) w (w.setCells g o (List.replicate n (.bool false))) ∧ (w.setCells g o (List.replicate n (.bool false))).heap.size = w.heap.size
  | 0, o, w, h, _ => ⟨h, Chg.refl _ _, rfl⟩
  | n + 1, o, w, h, e => by
    have h1 := h.set o false
    rw [clr_next (by omega)] at h1
    obtain ⟨a, b, c⟩ := FSt.cleared n (o + 1) _ h1 (by omega)
    rw [show o + 1 + n = o + (n + 1) by omega] at a
    exact ⟨a, (set_chg w g o _).trans b (fun j _ q => q), c.trans (set_sz _ _ _)⟩
theorem zeroBool (w : World) : (zeroValue 4).run Try.prog w = .ok (.bool false) w := by kernel_rfl
theorem clear_any {sb g : Nat} {u : List Bool} {w : World} (h : FSt w sb g u) (cap : Nat) :
    ∃ w2, (∀ ty, (Builtin.clear_ #[41] ty #[.slice (some ⟨g, 0, none⟩) u.length cap]).run Try.prog w = .ok (.tuple #[]) w2) ∧ FSt w2 sb g (List.replicate u.length false) ∧ Chg (· = g) w w2 ∧ w2.heap.size = w.heap.size := by
  by_cases h0 : u.length = 0
  · refine ⟨w, fun ty => ?_, ?_, Chg.refl _ _, rfl⟩
    · rw [h0]
      simp [Builtin.clear_, run_underlying Try.underlying41]
    · obtain rfl : u = [] := List.eq_nil_of_length_eq_zero h0
      exact h
  · obtain ⟨a, b, c⟩ := FSt.cleared (u := u) u.length 0 w (by rw [clr_zero]; exact h) (by omega)
    rw [Nat.zero_add, clr_all] at a
    refine ⟨_, fun ty => ?_, a, b, c⟩
    refine Lib.run_clear_slice w _ _ ty (.bool false) Try.underlying41 zeroBool rfl rfl g 0 u.length cap (by omega) (fun j hj => ?_) (fun j hj => h.frozen _)
    rw [Nat.zero_add, h.at hj]
    rfl

/-! ### Numbers in memory -/
def Ints (w : World) (p : Option Addr) (l : List Int) : Prop := l = [] ∨ ∃ b off, p = some ⟨b, off, none⟩ ∧ ∀ i (h : i < l.length), w.cell? ⟨b, off + i, none⟩ = some (.int .i64 l[i])
theorem Ints.below {w w' : World} {p : Option Addr} {l : List Int} (h : Ints w p l) (B : Below w.heap.size w w') : Ints w' p l := by
  rcases h with h | ⟨b, off, hp, hc⟩
  · exact Or.inl h
  · exact Or.inr ⟨b, off, hp, fun i hi => (World.cell?_of_block (w := w) (a := ⟨b, off + i, none⟩) (B.block b (cell_lt (hc i hi)))).trans (hc i hi)⟩
theorem Ints.chg {F : Nat → Prop} {w w' : World} {p : Option Addr} {l : List Int} (h : Ints w p l) (c : Chg F w w') (hn : l ≠ [] → ∀ b off, p = some ⟨b, off, none⟩ → ¬ F b) : Ints w' p l := by
  rcases h with h | ⟨b, off, hp, hc⟩
  · exact Or.inl h
  · exact Or.inr ⟨b, off, hp, fun i hi => c.cell (hc i hi) (hn (by rintro rfl; simp at hi) b off hp)⟩
theorem Ints.at {w : World} {p : Option Addr} {l : List Int} (h : Ints w p l) {k : Nat} (hk : k < l.length) : ∃ b off, p = some ⟨b, off, none⟩ ∧ w.cell? ⟨b, off + k, none⟩ = some (.int .i64 l[k]) := by
  rcases h with rfl | ⟨b, off, hp, hc⟩
  · simp at hk
  · exact ⟨b, off, hp, hc k hk⟩

set_option maxHeartbeats 2000000 in
theorem only_any (sb g : Nat) (u : List Bool) (p : Option Addr) (l : List Int) (c : Nat) (w : World) (h : FSt w sb g u) (hl : Ints w p l) (hm : l.length ≤ maxLen) (hp : l ≠ [] → ∀ b off, p = some ⟨b, off, none⟩ → b ≠ g) :
    Calls Try.prog 12 #[.pointer (some ⟨sb, 0, none⟩), .slice p l.length c] w fun e w' => e = .returned (.int .i64 (onlyE u l)) ∧ FSt w' sb g (onlyU u l) ∧ Chg (· = g) w w' ∧ w'.heap.size = w.heap.size := by
  have H := hid h
  have HL := hid hl
  have HP := hid hp
  have hmi : (l.length : Int) ≤ 9223372036854775807 := by unfold maxLen at hm; omega
  clear h hl hp hm
  go_enter Try.func12, Try.ntmps12
  go_wp2
  go_loopw [11] (fun i wr => ∃ k : Nat, i = .int .i64 (k : Int) ∧ k ≤ l.length ∧ allHs u (l.take k) = true ∧ wr = w) (fun i _ => l.length - (RowKit.intOf i).toNat)
  case atStart => exact ⟨0, rfl, Nat.zero_le _, by simp [allHs], rfl⟩
  case round =>
    obtain ⟨k, rfl, hk, h0, hw⟩ := hrel
    subst wr
    have H0 := hid h0
    clear h0
    by_cases hx : k < l.length
    · obtain ⟨b, off, rfl, hv⟩ := HL.out.at hx
      have P := hid (has_any sb g u l[k] w H.out)
      have HN := hid (allHs_take_succ (u := u) hx)
      have HNo : Hid (hs u l[k] = false → allHs u l = false) := fun q => allHs_no hx q
      generalize l[k] = n at *
      cases hf : hs u n
      · rw [hf] at P
        have HE := hid (HNo.out hf)
        clear hf
        go_wp2_with (first
          | (go_at_call 20; with_reducible refine P.out.mono ?_; rintro e w3 ⟨rfl, hw⟩; subst hw)
          | fail)
        go_ret
        exact ⟨by simp only [onlyE, HE.out]; rfl, by simp only [onlyU, HE.out]; exact H.out, Chg.refl _ _, rfl⟩
      · rw [hf] at P
        have HK : Hid (allHs u (l.take (k + 1)) = true) := by show _ = _; rw [HN.out, H0.out, hf]; rfl
        clear hf
        go_wp2_with (first
          | (go_at_call 20; with_reducible refine P.out.mono ?_; rintro e w3 ⟨rfl, hw⟩; subst hw)
          | fail)
        go_roundw
        case rel => exact ⟨k + 1, by go_num, by omega, HK.out, trivial⟩
        case measure => simp [RowKit.intOf]; omega
    · obtain rfl : k = l.length := by omega
      rw [List.take_length] at H0
      obtain ⟨cap, hc⟩ := H.out.hd
      obtain ⟨w2, hcl, F2, C2, S2⟩ := clear_any H.out cap
      have HF2 := hid F2
      have HC2 := hid C2
      have HS2 := hid S2
      clear F2 C2 S2
      go_wp2_with (simp only [hcl])
      clear hcl
      go_loopw [26] (fun i wq => ∃ k : Nat, i = .int .i64 (k : Int) ∧ k ≤ l.length ∧ FSt wq sb g (markAll (List.replicate u.length false) (l.take k)) ∧ Chg (· = g) w wq ∧ wq.heap.size = w.heap.size) (fun i _ => l.length - (RowKit.intOf i).toNat)
      case atStart => exact ⟨0, rfl, Nat.zero_le _, HF2.out, HC2.out, HS2.out⟩
      case round =>
        clear HF2 HC2 HS2 hc
        obtain ⟨k, rfl, hk, hF, hC, hS⟩ := hrel
        have HF := hid hF
        have HC := hid hC
        have HS := hid hS
        have HLN : Hid ((markAll (List.replicate u.length false) (l.take k)).length = u.length) := by show _ = _; rw [markAll_len]; simp
        by_cases hx : k < l.length
        · obtain ⟨b, off, rfl, hv⟩ := (HL.out.chg hC HP.out).at hx
          obtain ⟨b1, b2⟩ := allHs_at H0.out hx
          have HM : Hid ((markAll (List.replicate u.length false) (l.take k)).set l[k].toNat true = markAll (List.replicate u.length false) (l.take (k + 1))) := by
            show _ = _
            rw [List.take_succ_eq_append_getElem hx, markAll_snoc]
          obtain ⟨m, hm⟩ : ∃ m : Nat, l[k] = (m : Int) := ⟨l[k].toNat, by omega⟩
          rw [hm] at hv b1 b2 HM
          have HM2 : Hid (FSt (wr.setCell ⟨g, m, none⟩ (.bool true)) sb g (markAll (List.replicate u.length false) (l.take (k + 1)))) := by
            have := hF.set m true
            have q := HM.out
            simp only [Int.toNat_natCast] at q
            rw [q] at this
            exact this
          clear hm HM
          obtain ⟨cap, hc⟩ := hF.hd
          have hold := hF.at (i := m) (by rw [HLN.out]; omega)
          have hfz := hF.frozen m
          rw [HLN.out] at hc
          generalize (markAll (List.replicate u.length false) (l.take k))[m]'(by rw [HLN.out]; omega) = ob at *
          clear hF hC hS
          go_wp2
          go_roundw
          case rel => exact ⟨k + 1, by go_num, by omega, HM2.out, HC.out.trans (set_chg _ _ _ _) (fun j _ q => q), (set_sz _ _ _).trans HS.out⟩
          case measure => simp [RowKit.intOf]; omega
        · obtain rfl : k = l.length := by omega
          rw [List.take_length] at HF
          clear hF hC hS
          go_wp2
          go_ret
          exact ⟨by simp only [onlyE, H0.out]; rfl, by simp only [onlyU, H0.out]; exact HF.out, HC.out, HS.out⟩
end Go.Proofs.Ytehfbdhkicdfiaa
