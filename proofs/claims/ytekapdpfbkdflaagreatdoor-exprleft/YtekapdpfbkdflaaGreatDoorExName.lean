/- What catalog.Name answers. Condition: the text lies within the reach. -/
import Derived.Test.YtekapdpfbkdflaaGreatDoorExMem
namespace Go.Proofs.YtekapdpfbkdflaaGreatDoor
open Go.RowKit Go.Lib
set_option linter.unusedVariables false
set_option maxRecDepth 20000

theorem kw_mem {l x : List UInt8} (h : (l == x) = true) (hx : x ∈ kws) : true = kw l := (List.any_eq_true.2 ⟨x, hx, h⟩).symm
theorem kw_none {l : List UInt8} (h0 : (l == [115, 101, 108, 101, 99, 116]) = false) (h1 : (l == [100, 105, 115, 116, 105, 110, 99, 116]) = false) (h2 : (l == [102, 114, 111, 109]) = false) (h3 : (l == [106, 111, 105, 110]) = false) (h4 : (l == [111, 110]) = false) (h5 : (l == [119, 104, 101, 114, 101]) = false) (h6 : (l == [103, 114, 111, 117, 112]) = false) (h7 : (l == [98, 121]) = false) (h8 : (l == [104, 97, 118, 105, 110, 103]) = false) (h9 : (l == [111, 114, 100, 101, 114]) = false) (h10 : (l == [97, 115, 99]) = false) (h11 : (l == [100, 101, 115, 99]) = false) (h12 : (l == [108, 105, 109, 105, 116]) = false) (h13 : (l == [111, 102, 102, 115, 101, 116]) = false) (h14 : (l == [97, 115]) = false) (h15 : (l == [105, 110, 115, 101, 114, 116]) = false) (h16 : (l == [105, 110, 116, 111]) = false) (h17 : (l == [118, 97, 108, 117, 101, 115]) = false) (h18 : (l == [117, 112, 100, 97, 116, 101]) = false) (h19 : (l == [115, 101, 116]) = false) (h20 : (l == [100, 101, 108, 101, 116, 101]) = false) (h21 : (l == [99, 114, 101, 97, 116, 101]) = false) (h22 : (l == [116, 97, 98, 108, 101]) = false) (h23 : (l == [117, 110, 105, 113, 117, 101]) = false) (h24 : (l == [105, 110, 100, 101, 120]) = false) (h25 : (l == [100, 114, 111, 112]) = false) (h26 : (l == [110, 111, 116]) = false) (h27 : (l == [110, 117, 108, 108]) = false) (h28 : (l == [105, 115]) = false) (h29 : (l == [97, 110, 100]) = false) (h30 : (l == [111, 114]) = false) (h31 : (l == [116, 114, 117, 101]) = false) (h32 : (l == [102, 97, 108, 115, 101]) = false) (h33 : (l == [98, 101, 103, 105, 110]) = false) (h34 : (l == [99, 111, 109, 109, 105, 116]) = false) (h35 : (l == [114, 111, 108, 108, 98, 97, 99, 107]) = false) (h36 : (l == [116, 111]) = false) (h37 : (l == [115, 97, 118, 101, 112, 111, 105, 110, 116]) = false) (h38 : (l == [114, 101, 108, 101, 97, 115, 101]) = false) (h39 : (l == [105, 110, 116]) = false) (h40 : (l == [116, 101, 120, 116]) = false) (h41 : (l == [98, 108, 111, 98]) = false) (h42 : (l == [98, 111, 111, 108]) = false) : false = kw l := by
  simp only [kw, kws, List.any_cons, List.any_nil, h0, h1, h2, h3, h4, h5, h6, h7, h8, h9, h10, h11, h12, h13, h14, h15, h16, h17, h18, h19, h20, h21, h22, h23, h24, h25, h26, h27, h28, h29, h30, h31, h32, h33, h34, h35, h36, h37, h38, h39, h40, h41, h42, Bool.or_false]

set_option maxHeartbeats 1000000 in
theorem cdigit_any (c : Int) (w : World) :
    Calls Tryz.prog 132 #[.int .u8 c] w fun e w' => e = .returned (.bool (dig c)) ∧ w' = w := by
  unfold dig
  go_enter Tryz.func132, Tryz.ntmps132
  go_wp2
  all_goals go_ret
  all_goals refine ⟨?_, rfl⟩
  all_goals (simp_all; try omega)

set_option maxHeartbeats 1000000 in
theorem cnamed_any (c : Int) (w : World) :
    Calls Tryz.prog 134 #[.int .u8 c] w fun e w' => e = .returned (.bool (nam c)) ∧ w' = w := by
  have D := fun w => cdigit_any c w
  unfold nam
  generalize dig c = d at *
  go_enter Tryz.func134, Tryz.ntmps134
  go_wp2_with (go_at_call 132; with_reducible refine (D _).mono ?_; rintro e w2 ⟨rfl, hw⟩; subst hw)
  all_goals go_ret
  all_goals refine ⟨?_, rfl⟩
  all_goals (simp_all; try omega)

set_option maxHeartbeats 4000000 in
theorem keyword_any (s : ByteArray) (w : World) :
    Calls Tryz.prog 133 #[.string s] w fun e w' => e = .returned (.bool (kw s.data.toList)) ∧ w' = w := by
  obtain ⟨⟨l⟩⟩ := s
  show Calls _ _ _ _ fun e w' => e = .returned (.bool (kw l)) ∧ w' = w
  obtain ⟨K, HK⟩ : ∃ K, Hid (kw l = K) := ⟨_, rfl⟩
  rw [HK.out]
  go_enter Tryz.func133, Tryz.ntmps133
  go_wp2
  all_goals go_ret
  all_goals first
    | (exfalso; rename_i a b; exact absurd (a.symm.trans b) (by decide))
    | (exact ⟨congrArg (fun b => Ending.returned (.bool b)) ((kw_mem (by assumption) (by decide +kernel)).trans HK.out), rfl⟩)
    | (exact ⟨congrArg (fun b => Ending.returned (.bool b)) ((kw_none (by assumption) (by assumption) (by assumption) (by assumption) (by assumption) (by assumption) (by assumption) (by assumption) (by assumption) (by assumption) (by assumption) (by assumption) (by assumption) (by assumption) (by assumption) (by assumption) (by assumption) (by assumption) (by assumption) (by assumption) (by assumption) (by assumption) (by assumption) (by assumption) (by assumption) (by assumption) (by assumption) (by assumption) (by assumption) (by assumption) (by assumption) (by assumption) (by assumption) (by assumption) (by assumption) (by assumption) (by assumption) (by assumption) (by assumption) (by assumption) (by assumption) (by assumption) (by assumption)).trans HK.out), rfl⟩)
/-- Is it a right name? -/
def NmOk (s : ByteArray) : Prop := 0 < s.size ∧ s.size ≤ 24 ∧ kw s.data.toList = false ∧ ∀ k (h : k < s.size), nam (s[k]'h).toNat = true ∧ (k = 0 → dig (s[k]'h).toNat = false)

set_option maxHeartbeats 4000000 in
theorem name_any (s : ByteArray) (r : Int) (w : World) (hs : s.size ≤ 140737488351232) (h0 : NmOk s → r = 0) (h3 : ¬ NmOk s → r = 3) :
    Calls Tryz.prog 116 #[.string s] w fun e w' => e = .returned (.int .i64 r) ∧ w' = w := by
  have K := fun w => keyword_any s w
  by_cases hz : s.size = 0
  · obtain rfl := h3 (fun h => by have := h.1; omega)
    clear h0 h3
    have e0 : ((s.size : Int) == 0) = true := by rw [hz]; rfl
    go_enter Tryz.func116, Tryz.ntmps116
    go_wp2_with fail
    go_ret
    exact ⟨rfl, rfl⟩
  by_cases hb : 24 < s.size
  · obtain rfl := h3 (fun h => by have := h.2.1; omega)
    clear h0 h3
    have hb' : (24 : Int) < s.size := by omega
    go_enter Tryz.func116, Tryz.ntmps116
    go_wp2_with fail
    go_ret
    exact ⟨rfl, rfl⟩
  have hp : 0 < s.size := by omega
  have D := fun w => cdigit_any (s[0]'hp).toNat w
  have e0 : ((s.size : Int) == 0) = false := beq_eq_false_iff_ne.2 (by omega)
  have e1 : ¬ (24 : Int) < s.size := by omega
  by_cases hd : dig (s[0]'hp).toNat = true
  · obtain rfl := h3 (fun h => by have := (h.2.2.2 0 hp).2 rfl; rw [hd] at this; cases this)
    clear h0 h3
    rw [hd] at D
    go_enter Tryz.func116, Tryz.ntmps116
    go_wp2_with (go_at_call 132; with_reducible refine (D _).mono ?_; rintro e w2 ⟨rfl, hw⟩; subst hw)
    go_ret
    exact ⟨rfl, rfl⟩
  have hd' : dig (s[0]'hp).toNat = false := by simpa using hd
  rw [hd'] at D
  by_cases hk : kw s.data.toList = true
  · obtain rfl := h3 (fun h => by have := h.2.2.1; rw [hk] at this; cases this)
    clear h0 h3
    rw [hk] at K
    go_enter Tryz.func116, Tryz.ntmps116
    go_wp2_with (first
      | (go_at_call 132; with_reducible refine (D _).mono ?_; rintro e w2 ⟨rfl, hw⟩; subst hw)
      | (go_at_call 133; with_reducible refine (K _).mono ?_; rintro e w2 ⟨rfl, hw⟩; subst hw))
    go_ret
    exact ⟨rfl, rfl⟩
  have hk' : kw s.data.toList = false := by simpa using hk
  rw [hk'] at K
  have H0 : Hid ((∀ k (h : k < s.size), nam (s[k]'h).toNat = true) → r = 0) := fun h => h0 ⟨hp, by omega, hk', fun k hk => ⟨h k hk, fun e => by subst e; exact hd'⟩⟩
  have H3 : Hid (∀ k (h : k < s.size), nam (s[k]'h).toNat = false → r = 3) := fun k h hn => h3 (fun q => by have := (q.2.2.2 k h).1; rw [hn] at this; cases this)
  clear h0 h3 hd hd' hk hk' hz hb
  go_enter Tryz.func116, Tryz.ntmps116
  go_wp2_with (first
    | (go_at_call 132; with_reducible refine (D _).mono ?_; rintro e w2 ⟨rfl, hw⟩; replace hw := hw.symm; subst hw)
    | (go_at_call 133; with_reducible refine (K _).mono ?_; rintro e w2 ⟨rfl, hw⟩; replace hw := hw.symm; subst hw))
  clear D K
  go_loopw [23] (fun i wr => wr = w ∧ ∃ k : Nat, k ≤ s.size ∧ i = .int .i64 k ∧ ∀ j (h : j < s.size), j < k → nam (s[j]'h).toNat = true) (fun i _ => s.size - (RowKit.intOf i).toNat)
  case atStart => exact ⟨rfl, 0, Nat.zero_le _, rfl, fun j h hj => absurd hj (Nat.not_lt_zero _)⟩
  case round =>
    obtain ⟨rfl, k, hks, rfl, hA⟩ := hrel
    have HA := hid hA
    clear hA
    by_cases hx : k < s.size
    · have N := fun w => cnamed_any (s[k]'hx).toNat w
      cases hn : nam (s[k]'hx).toNat
      · rw [hn] at N
        obtain rfl := H3.out k hx hn
        clear H0 H3 HA
        go_wp2_with (go_at_call 134; with_reducible refine (N _).mono ?_; rintro e w2 ⟨rfl, hw⟩; subst hw)
        go_ret
        exact ⟨rfl, rfl⟩
      · rw [hn] at N
        go_wp2_with (go_at_call 134; with_reducible refine (N _).mono ?_; rintro e w2 ⟨rfl, hw⟩; subst hw)
        go_roundw
        case rel => exact ⟨trivial, k + 1, by omega, by go_num, fun j h hj => by
          by_cases e : j = k
          · subst e; exact hn
          · exact HA.out j h (by omega)⟩
        case measure => simp [RowKit.intOf]; omega
    · obtain rfl := H0.out (fun j h => HA.out j h (by omega))
      clear H0 H3 HA
      go_wp2_with fail
      go_ret
      exact ⟨rfl, rfl⟩

theorem nmB_iff (l : List UInt8) : nmB l = true ↔ NmOk ⟨⟨l⟩⟩ := by
  unfold nmB NmOk
  have hsz : (⟨⟨l⟩⟩ : ByteArray).size = l.length := rfl
  have hat : ∀ k (h : k < (⟨⟨l⟩⟩ : ByteArray).size), (⟨⟨l⟩⟩ : ByteArray)[k]'h = l[k]'h := fun k h => rfl
  simp only [Bool.and_eq_true, decide_eq_true_eq, Bool.not_eq_true', List.all_eq_true]
  constructor
  · rintro ⟨h1, h2, h3, h4, h5⟩
    refine ⟨h1, h2, h4, fun k h => ⟨?_, fun e => ?_⟩⟩
    · rw [hat]; exact h5 _ (List.getElem_mem _)
    · subst e
      rw [hat]
      have : l.headD 48 = l[0]'h := by cases l with | nil => simp at h1 | cons a r => rfl
      rw [this] at h3
      exact h3
  · rintro ⟨h1, h2, h4, h5⟩
    refine ⟨h1, h2, ?_, h4, fun c hc => ?_⟩
    · have h := (h5 0 h1).2 rfl
      rw [hat] at h
      have : l.headD 48 = l[0]'h1 := by
        cases l with
        | nil => exact absurd h1 (by decide)
        | cons a r => rfl
      rw [this]
      exact h
    · obtain ⟨k, hk, rfl⟩ := List.getElem_of_mem hc
      exact (h5 k hk).1
/-- Name, over a list of letters. -/
theorem xname_any (l : List UInt8) (w : World) (hs : l.length ≤ 140737488351232) :
    Calls Tryz.prog 116 #[.string ⟨l.toArray⟩] w fun e w' => e = .returned (.int .i64 (if nmB l then 0 else 3)) ∧ w' = w := by
  refine name_any ⟨⟨l⟩⟩ _ w hs (fun h => ?_) (fun h => ?_)
  · rw [if_pos ((nmB_iff l).2 h)]
  · rw [if_neg (fun q => h ((nmB_iff l).1 q))]
end Go.Proofs.YtekapdpfbkdflaaGreatDoor
