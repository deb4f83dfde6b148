/- What catalog.Name and the document's Name answer. Condition: the text lies within the reach. -/
import Derived.Test.YtfkjneakmcnhaaaCnKey
namespace Go.Proofs.Ytfkjneakmcnhaaa
open Go.RowKit Go.Lib
set_option linter.unusedVariables false
set_option maxRecDepth 20000

/-- Is it a right name? -/
def NmOk (s : ByteArray) : Prop := 0 < s.size ∧ s.size ≤ 24 ∧ kw s.data.toList = false ∧ ∀ k (h : k < s.size), nam (s[k]'h).toNat = true ∧ (k = 0 → dig (s[k]'h).toNat = false)

set_option maxHeartbeats 4000000 in
theorem name_any (s : ByteArray) (r : Int) (w : World) (hs : s.size ≤ 140737488351232) (h0 : NmOk s → r = 0) (h3 : ¬ NmOk s → r = 3) :
    Calls Try.prog 5 #[.string s] w fun e w' => e = .returned (.int .i64 r) ∧ w' = w := by
  have K := fun w => keyword_any s w
  by_cases hz : s.size = 0
  · obtain rfl := h3 (fun h => by have := h.1; omega)
    clear h0 h3
    have e0 : ((s.size : Int) == 0) = true := by rw [hz]; rfl
    go_enter Try.func5, Try.ntmps5
    go_wp2_with fail
    go_ret
    exact ⟨rfl, rfl⟩
  by_cases hb : 24 < s.size
  · obtain rfl := h3 (fun h => by have := h.2.1; omega)
    clear h0 h3
    have hb' : (24 : Int) < s.size := by omega
    go_enter Try.func5, Try.ntmps5
    go_wp2_with fail
    go_ret
    exact ⟨rfl, rfl⟩
  have hp : 0 < s.size := by omega
  have D := fun w => digit_any (s[0]'hp).toNat w
  have e0 : ((s.size : Int) == 0) = false := beq_eq_false_iff_ne.2 (by omega)
  have e1 : ¬ (24 : Int) < s.size := by omega
  by_cases hd : dig (s[0]'hp).toNat = true
  · obtain rfl := h3 (fun h => by have := (h.2.2.2 0 hp).2 rfl; rw [hd] at this; cases this)
    clear h0 h3
    rw [hd] at D
    go_enter Try.func5, Try.ntmps5
    go_wp2_with (go_at_call 12; with_reducible refine (D _).mono ?_; rintro e w2 ⟨rfl, hw⟩; subst hw)
    go_ret
    exact ⟨rfl, rfl⟩
  have hd' : dig (s[0]'hp).toNat = false := by simpa using hd
  rw [hd'] at D
  by_cases hk : kw s.data.toList = true
  · obtain rfl := h3 (fun h => by have := h.2.2.1; rw [hk] at this; cases this)
    clear h0 h3
    rw [hk] at K
    go_enter Try.func5, Try.ntmps5
    go_wp2_with (first
      | (go_at_call 12; with_reducible refine (D _).mono ?_; rintro e w2 ⟨rfl, hw⟩; subst hw)
      | (go_at_call 13; with_reducible refine (K _).mono ?_; rintro e w2 ⟨rfl, hw⟩; subst hw))
    go_ret
    exact ⟨rfl, rfl⟩
  have hk' : kw s.data.toList = false := by simpa using hk
  rw [hk'] at K
  have H0 : Hid ((∀ k (h : k < s.size), nam (s[k]'h).toNat = true) → r = 0) := fun h => h0 ⟨hp, by omega, hk', fun k hk => ⟨h k hk, fun e => by subst e; exact hd'⟩⟩
  have H3 : Hid (∀ k (h : k < s.size), nam (s[k]'h).toNat = false → r = 3) := fun k h hn => h3 (fun q => by have := (q.2.2.2 k h).1; rw [hn] at this; cases this)
  clear h0 h3 hd hd' hk hk' hz hb
  go_enter Try.func5, Try.ntmps5
  go_wp2_with (first
    | (go_at_call 12; with_reducible refine (D _).mono ?_; rintro e w2 ⟨rfl, hw⟩; replace hw := hw.symm; subst hw)
    | (go_at_call 13; with_reducible refine (K _).mono ?_; rintro e w2 ⟨rfl, hw⟩; replace hw := hw.symm; subst hw))
  clear D K
  go_loopw [23] (fun i wr => wr = w ∧ ∃ k : Nat, k ≤ s.size ∧ i = .int .i64 k ∧ ∀ j (h : j < s.size), j < k → nam (s[j]'h).toNat = true) (fun i _ => s.size - (RowKit.intOf i).toNat)
  case atStart => exact ⟨rfl, 0, Nat.zero_le _, rfl, fun j h hj => absurd hj (Nat.not_lt_zero _)⟩
  case round =>
    obtain ⟨rfl, k, hks, rfl, hA⟩ := hrel
    have HA := hid hA
    clear hA
    by_cases hx : k < s.size
    · have N := fun w => named_any (s[k]'hx).toNat w
      cases hn : nam (s[k]'hx).toNat
      · rw [hn] at N
        obtain rfl := H3.out k hx hn
        clear H0 H3 HA
        go_wp2_with (go_at_call 14; with_reducible refine (N _).mono ?_; rintro e w2 ⟨rfl, hw⟩; subst hw)
        go_ret
        exact ⟨rfl, rfl⟩
      · rw [hn] at N
        go_wp2_with (go_at_call 14; with_reducible refine (N _).mono ?_; rintro e w2 ⟨rfl, hw⟩; subst hw)
        go_roundw
        case rel => exact ⟨trivial, k + 1, by omega, by go_num, fun j h hj => by
          by_cases e : j = k
          · subst e; exact hn
          · exact HA.out j h (by omega)⟩
        case measure => simp [RowKit.intOf]; omega
    · obtain rfl := H0.out (fun j h => HA.out j h (by omega))
      clear H0 H3 HA
      go_wp2_with fail
      go_ret
      exact ⟨rfl, rfl⟩

/-- May this byte stand there? -/
def wd (k : Nat) (c : Int) : Bool := nam c && (k != 0 || !dig c)

theorem wd_iff (k : Nat) (c : Int) : wd k c = true ↔ ((97 ≤ c ∧ c ≤ 122) ∨ c = 95 ∨ (48 ≤ c ∧ c ≤ 57 ∧ k ≠ 0)) := by
  simp only [wd, nam, dig, Bool.and_eq_true, Bool.or_eq_true, Bool.not_eq_true', Bool.and_eq_false_iff, decide_eq_true_eq, decide_eq_false_iff_not, beq_iff_eq, bne_iff_ne]
  omega

set_option maxHeartbeats 4000000 in
theorem word_any (s : ByteArray) (b : Bool) (w : World) (hs : s.size ≤ 140737488351232) (h0 : (0 < s.size ∧ ∀ k (h : k < s.size), wd k (s[k]'h).toNat = true) ↔ b = true) :
    Calls Try.prog 15 #[.string s] w fun e w' => e = .returned (.bool b) ∧ w' = w := by
  have H0 := hid h0
  clear h0
  go_enter Try.func15, Try.ntmps15
  go_wp2
  go_loopw [3] (fun i wr => wr = w ∧ ∃ k : Nat, k ≤ s.size ∧ i = .int .i64 k ∧ ∀ j (h : j < s.size), j < k → wd j (s[j]'h).toNat = true) (fun i _ => s.size - (RowKit.intOf i).toNat)
  case atStart => exact ⟨rfl, 0, Nat.zero_le _, rfl, fun j h hj => absurd hj (Nat.not_lt_zero _)⟩
  case round =>
    obtain ⟨rfl, k, hks, rfl, hA⟩ := hrel
    have HA := hid hA
    clear hA
    by_cases hx : k < s.size
    · have HN : Hid (wd k (s[k]'hx).toNat = true → ∀ j (h : j < s.size), j < k + 1 → wd j (s[j]'h).toNat = true) := fun hn j h hj => by
        by_cases e : j = k
        · subst e; exact hn
        · exact HA.out j h (by omega)
      have HF : Hid (wd k (s[k]'hx).toNat = false → b = false) := fun hn => by
        cases b
        · rfl
        · have := (H0.out.2 rfl).2 k hx
          rw [hn] at this
          cases this
      clear H0 HA
      have HI := hid (wd_iff k (s[k]'hx).toNat)
      have hcl : (97 ≤ ((s[k]'hx).toNat : Int) ∧ ((s[k]'hx).toNat : Int) ≤ 122) ∨ ((s[k]'hx).toNat : Int) = 95 ∨ (48 ≤ ((s[k]'hx).toNat : Int) ∧ ((s[k]'hx).toNat : Int) ≤ 57) ∨ (¬ (97 ≤ ((s[k]'hx).toNat : Int) ∧ ((s[k]'hx).toNat : Int) ≤ 122) ∧ ¬ ((s[k]'hx).toNat : Int) = 95 ∧ ¬ (48 ≤ ((s[k]'hx).toNat : Int) ∧ ((s[k]'hx).toNat : Int) ≤ 57)) := by omega
      rcases hcl with ⟨c1, c2⟩ | c1 | ⟨c1, c2⟩ | ⟨c1, c2, c3⟩
      · have HN' := hid (HN.out (HI.out.2 (Or.inl ⟨c1, c2⟩)))
        clear HN HF HI
        go_wp2_with fail
        go_roundw
        case rel => exact ⟨trivial, k + 1, by omega, by go_num, HN'.out⟩
        case measure => simp [RowKit.intOf]; omega
      · have HN' := hid (HN.out (HI.out.2 (Or.inr (Or.inl c1))))
        clear HN HF HI
        go_wp2_with fail
        go_roundw
        case rel => exact ⟨trivial, k + 1, by omega, by go_num, HN'.out⟩
        case measure => simp [RowKit.intOf]; omega
      · have d1 : (((s[k]'hx).toNat : Int) != 95) = true := bne_iff_ne.2 (by omega)
        by_cases hk : k = 0
        · obtain rfl := HF.out (Bool.eq_false_iff.2 (fun h => by have := HI.out.1 h; omega))
          subst hk
          clear HN HF HI
          go_wp2_with fail
          go_ret
          exact ⟨rfl, rfl⟩
        · have HN' := hid (HN.out (HI.out.2 (Or.inr (Or.inr ⟨c1, c2, hk⟩))))
          have hk' : ((k : Int) == 0) = false := beq_eq_false_iff_ne.2 (by omega)
          clear HN HF HI
          go_wp2_with fail
          go_roundw
          case rel => exact ⟨trivial, k + 1, by omega, by go_num, HN'.out⟩
          case measure => simp [RowKit.intOf]; omega
      · have d1 : (((s[k]'hx).toNat : Int) != 95) = true := bne_iff_ne.2 c2
        obtain rfl := HF.out (Bool.eq_false_iff.2 (fun h => by have := HI.out.1 h; omega))
        clear HN HF HI
        rcases Int.lt_or_le ((s[k]'hx).toNat : Int) 48 with c4 | c4
        · go_wp2_with fail
          all_goals go_ret
          all_goals exact ⟨rfl, rfl⟩
        · have c5 : (57 : Int) < ((s[k]'hx).toNat : Int) := by omega
          rcases Int.lt_or_le ((s[k]'hx).toNat : Int) 97 with c6 | c6
          · go_wp2_with fail
            all_goals go_ret
            all_goals exact ⟨rfl, rfl⟩
          · have c7 : (122 : Int) < ((s[k]'hx).toNat : Int) := by omega
            go_wp2_with fail
            all_goals go_ret
            all_goals exact ⟨rfl, rfl⟩
    · have HB : Hid (decide (0 < s.size) = b) := by
        show _ = _
        cases hb : b
        · exact decide_eq_false (fun h => by
            have := H0.out.1 ⟨h, fun j hj => HA.out j hj (by omega)⟩
            rw [hb] at this
            cases this)
        · exact decide_eq_true (H0.out.2 hb).1
      clear H0 HA
      go_wp2_with fail
      go_ret
      exact ⟨congrArg (fun b => Ending.returned (.bool b)) HB.out, rfl⟩

theorem wd_two (k : Nat) (c : Int) : wd k c = true ↔ nam c = true ∧ (k = 0 → dig c = false) := by
  unfold wd
  cases nam c <;> cases dig c <;> simp

theorem nmOk_iff (s : ByteArray) : NmOk s ↔ (0 < s.size ∧ ∀ k (h : k < s.size), wd k (s[k]'h).toNat = true) ∧ s.size ≤ 24 ∧ kw s.data.toList = false := by
  unfold NmOk
  constructor
  · rintro ⟨h1, h2, h3, h4⟩
    exact ⟨⟨h1, fun k h => (wd_two _ _).2 (h4 k h)⟩, h2, h3⟩
  · rintro ⟨⟨h1, h4⟩, h2, h3⟩
    exact ⟨h1, h2, h3, fun k h => (wd_two _ _).1 (h4 k h)⟩

set_option maxHeartbeats 1000000 in
theorem rname_any (s : ByteArray) (r : Int) (w : World) (hs : s.size ≤ 140737488351232) (h0 : NmOk s → r = 0) (h3 : ¬ NmOk s → r = 3) :
    Calls Try.prog 6 #[.string s] w fun e w' => e = .returned (.int .i64 r) ∧ w' = w := by
  rw [nmOk_iff] at h0 h3
  have K := fun w => rkeyword_any s w
  obtain ⟨b, hb⟩ : ∃ b : Bool, (0 < s.size ∧ ∀ k (h : k < s.size), wd k (s[k]'h).toNat = true) ↔ b = true := by
    by_cases h : (0 < s.size ∧ ∀ k (h : k < s.size), wd k (s[k]'h).toNat = true)
    · exact ⟨true, by simp [h]⟩
    · exact ⟨false, by simp [h]⟩
  have W := fun w => word_any s b w hs hb
  rw [hb] at h0 h3
  clear hb
  cases b
  · obtain rfl := h3 (fun h => by cases h.1)
    clear h0 h3
    go_enter Try.func6, Try.ntmps6
    go_wp2_with (go_at_call 15; with_reducible refine (W _).mono ?_; rintro e w2 ⟨rfl, hw⟩; subst hw)
    go_ret
    exact ⟨rfl, rfl⟩
  by_cases hl : 24 < s.size
  · obtain rfl := h3 (fun h => by have := h.2.1; omega)
    clear h0 h3
    have hb' : (24 : Int) < s.size := by omega
    go_enter Try.func6, Try.ntmps6
    go_wp2_with (go_at_call 15; with_reducible refine (W _).mono ?_; rintro e w2 ⟨rfl, hw⟩; subst hw)
    go_ret
    exact ⟨rfl, rfl⟩
  have e1 : ¬ (24 : Int) < s.size := by omega
  cases hk : kw s.data.toList
  · obtain rfl := h0 ⟨rfl, by omega, hk⟩
    rw [hk] at K
    clear h0 h3 hk
    go_enter Try.func6, Try.ntmps6
    go_wp2_with (first
      | (go_at_call 15; with_reducible refine (W _).mono ?_; rintro e w2 ⟨rfl, hw⟩; subst hw)
      | (go_at_call 16; with_reducible refine (K _).mono ?_; rintro e w2 ⟨rfl, hw⟩; subst hw))
    go_ret
    exact ⟨rfl, rfl⟩
  · obtain rfl := h3 (fun h => by have := h.2.2; rw [hk] at this; cases this)
    rw [hk] at K
    clear h0 h3 hk
    go_enter Try.func6, Try.ntmps6
    go_wp2_with (first
      | (go_at_call 15; with_reducible refine (W _).mono ?_; rintro e w2 ⟨rfl, hw⟩; subst hw)
      | (go_at_call 16; with_reducible refine (K _).mono ?_; rintro e w2 ⟨rfl, hw⟩; subst hw))
    go_ret
    exact ⟨rfl, rfl⟩
end Go.Proofs.Ytfkjneakmcnhaaa
