/- What the lexer's symbolSize and symbol answer, and the document's symbol. Condition: the text lies within the reach. What the lexer's sizeOf answers: how many bytes at a text's beginning are such ones. Condition: the text lies within the reach; the function that is handed in tells of each byte. -/
import Derived.Test.YtekapdpfbkdflaaGreatDoorLxSmall
namespace Go.Proofs.YtekapdpfbkdflaaGreatDoor
open Go.RowKit Go.Lib Go.Sort
set_option linter.unusedVariables false
set_option maxRecDepth 20000

/-- A text's first byte. -/
theorem data_cons {s : ByteArray} (h : 0 < s.size) : s.data.toList = s[0] :: s.data.toList.drop 1 := by
  obtain ⟨⟨l⟩⟩ := s
  cases l with
  | nil => simp [ByteArray.size] at h
  | cons c l => rfl
theorem ext_toList (s : ByteArray) (a b : Nat) : (s.extract a b).toList = (s.data.toList.drop a).take (b - a) := by
  rw [ByteArray.toList_eq]
  simp [List.extract]
theorem ext_data (s : ByteArray) (a b : Nat) : (s.extract a b).data.toList = (s.data.toList.drop a).take (b - a) := by
  simp [List.extract]
theorem sym_text {s : ByteArray} (h : 0 < s.size) (m : Nat) (hm : m = min 2 s.size) : sym s.data.toList = if is2 (s.extract 0 m).toList then 2 else if is1 (s[0].toNat : Int) then 1 else 0 := by
  rw [ext_toList]
  have e := data_cons h
  have hl : s.data.toList.length = s.size := by simp
  have e2 : (s.data.toList.drop 0).take (m - 0) = s[0] :: (s.data.toList.drop 1).take 1 := by
    rw [List.drop_zero, Nat.sub_zero]
    have : s.data.toList.take m = (s[0] :: s.data.toList.drop 1).take m := by rw [← e]
    rw [this]
    by_cases h2 : s.size = 1
    · have : m = 1 := by omega
      subst this
      have : s.data.toList.drop 1 = [] := List.drop_eq_nil_of_le (by omega)
      rw [this]
      rfl
    · have : m = 2 := by omega
      subst this
      rfl
  rw [e2]
  have : sym s.data.toList = sym (s[0] :: s.data.toList.drop 1) := by rw [← e]
  rw [this]
  rfl

set_option maxHeartbeats 4000000 in
theorem symSize_any (s : ByteArray) (w : World) (h : 0 < s.size) (hs : s.size ≤ 140737488351232) :
    Calls Tryz.prog 58 #[.string s] w fun e w' => e = .returned (.int .i64 (sym s.data.toList)) ∧ w' = w := by
  obtain ⟨m, hm⟩ : ∃ m, m = min 2 s.size := ⟨_, rfl⟩
  have HS := hid (sym_text h m hm)
  generalize sym s.data.toList = R at *
  have h12 : s.size = 1 ∨ 2 ≤ s.size := by omega
  rcases h12 with h1 | h2
  · obtain rfl : m = 1 := by omega
    have hz : (0 : Int) < (s.size : Int) := by omega
    clear hm
    go_enter Tryz.func58, Tryz.ntmps58
    go_wp2
    all_goals go_ret
    all_goals refine ⟨?_, rfl⟩
    all_goals first
      | (exfalso; exact Bool.noConfusion ((show ((s.extract 0 1).toList == [60, 62]) = true by assumption).symm.trans (show ((s.extract 0 1).toList == [60, 62]) = false by assumption)))
      | (exfalso; exact Bool.noConfusion ((show ((s.extract 0 1).toList == [60, 61]) = true by assumption).symm.trans (show ((s.extract 0 1).toList == [60, 61]) = false by assumption)))
      | (exfalso; exact Bool.noConfusion ((show ((s.extract 0 1).toList == [62, 61]) = true by assumption).symm.trans (show ((s.extract 0 1).toList == [62, 61]) = false by assumption)))
      | (exfalso; exact Bool.noConfusion ((show ((s.extract 0 1).toList == [124, 124]) = true by assumption).symm.trans (show ((s.extract 0 1).toList == [124, 124]) = false by assumption)))
      | (rw [HS.out, is2_none (by assumption) (by assumption) (by assumption) (by assumption), is1_none (by assumption) (by assumption) (by assumption) (by assumption) (by assumption) (by assumption) (by assumption) (by assumption) (by assumption) (by assumption) (by assumption) (by assumption) (by assumption)]; rfl)
      | (rw [HS.out, is2_none (by assumption) (by assumption) (by assumption) (by assumption), is1_mem (by assumption) (by decide +kernel)]; rfl)
      | (rw [HS.out, is2_mem (by assumption) (by decide +kernel)]; rfl)
  · obtain rfl : m = 2 := by omega
    have hz : (2 : Int) ≤ (s.size : Int) := by omega
    clear hm
    go_enter Tryz.func58, Tryz.ntmps58
    go_wp2
    all_goals go_ret
    all_goals refine ⟨?_, rfl⟩
    all_goals first
      | (exfalso; exact Bool.noConfusion ((show ((s.extract 0 2).toList == [60, 62]) = true by assumption).symm.trans (show ((s.extract 0 2).toList == [60, 62]) = false by assumption)))
      | (exfalso; exact Bool.noConfusion ((show ((s.extract 0 2).toList == [60, 61]) = true by assumption).symm.trans (show ((s.extract 0 2).toList == [60, 61]) = false by assumption)))
      | (exfalso; exact Bool.noConfusion ((show ((s.extract 0 2).toList == [62, 61]) = true by assumption).symm.trans (show ((s.extract 0 2).toList == [62, 61]) = false by assumption)))
      | (exfalso; exact Bool.noConfusion ((show ((s.extract 0 2).toList == [124, 124]) = true by assumption).symm.trans (show ((s.extract 0 2).toList == [124, 124]) = false by assumption)))
      | (rw [HS.out, is2_none (by assumption) (by assumption) (by assumption) (by assumption), is1_none (by assumption) (by assumption) (by assumption) (by assumption) (by assumption) (by assumption) (by assumption) (by assumption) (by assumption) (by assumption) (by assumption) (by assumption) (by assumption)]; rfl)
      | (rw [HS.out, is2_none (by assumption) (by assumption) (by assumption) (by assumption), is1_mem (by assumption) (by decide +kernel)]; rfl)
      | (rw [HS.out, is2_mem (by assumption) (by decide +kernel)]; rfl)

/-- The parts of what is read at the front. -/
def fk : Option (Tk × Nat) → Int
  | none => 0
  | some x => x.1.k
def fs : Option (Tk × Nat) → List UInt8
  | none => []
  | some x => x.1.s
def fn : Option (Tk × Nat) → Int
  | none => 0
  | some x => x.1.n
def fz : Option (Tk × Nat) → Nat
  | none => 0
  | some x => x.2
/-- What a function that reads a word at the front answers. -/
def fstV (X : Option (Tk × Nat)) : Value := .tuple #[.agg #[.int .i64 (fk X), .string ⟨(fs X).toArray⟩, .int .i64 0, .int .i64 (fn X)], .int .i64 (fz X : Int)]

set_option maxHeartbeats 1000000 in
theorem xsymbol_any (s : ByteArray) (w : World) (h : 0 < s.size) (hs : s.size ≤ 140737488351232) :
    Calls Tryz.prog 33 #[.string s] w fun e w' => e = .returned (fstV (if sym s.data.toList = 0 then none else some (⟨5, s.data.toList.take (sym s.data.toList), 0⟩, sym s.data.toList))) ∧ Below w.heap.size w w' := by
  have C := hid (fun w => symSize_any s w h hs)
  have hle := sym_le s.data.toList
  rw [show s.data.toList.length = s.size by simp] at hle
  have HX : Hid (∀ m, s.extract 0 m = ⟨(s.data.toList.take m).toArray⟩) := fun m => by
    have := ext_data s 0 m
    rw [List.drop_zero, Nat.sub_zero] at this
    rw [← this]
  generalize sym s.data.toList = m at *
  by_cases hm : m = 0
  · subst hm
    go_enter Tryz.func33, Tryz.ntmps33
    go_wp2_with (go_at_call 58; with_reducible refine (C.out _).mono ?_; rintro e w2 ⟨rfl, hw⟩; subst hw)
    refine bodyPost_ret (by simp [results, Tryz.results33, go_sem]; try rfl) rfl ?_
    exact ⟨rfl, by go_grown⟩
  · rw [if_neg hm]
    have hm0 : ((m : Int) == 0) = false := beq_eq_false_iff_ne.2 (by omega)
    have HM : Hid (m ≠ 0) := hm
    clear hm
    go_enter Tryz.func33, Tryz.ntmps33
    go_wp2_with (go_at_call 58; with_reducible refine (C.out _).mono ?_; rintro e w2 ⟨rfl, hw⟩; subst hw)
    refine bodyPost_ret (by simp [results, Tryz.results33, go_sem]; try rfl) rfl ?_
    refine ⟨?_, by go_grown⟩
    show _ = Ending.returned (.tuple #[.agg #[.int .i64 5, .string ⟨(s.data.toList.take m).toArray⟩, .int .i64 0, .int .i64 0], .int .i64 m])
    rw [← HX.out m]
end Go.Proofs.YtekapdpfbkdflaaGreatDoor
namespace Go.Proofs.YtekapdpfbkdflaaGreatDoor
open Go.RowKit Go.Lib Go.Sort
set_option linter.unusedVariables false
set_option maxRecDepth 20000

theorem data_at (s : ByteArray) {k : Nat} (h : k < s.size) : s.data.toList[k]? = some s[k] := by
  simp [h]; rfl
theorem drop_at (s : ByteArray) {k : Nat} (h : k < s.size) : s.data.toList.drop k = s[k] :: s.data.toList.drop (k + 1) := by
  have h' : k < s.data.toList.length := by simpa using h
  rw [List.drop_eq_getElem_cons h']
  rfl
theorem drop_end (s : ByteArray) {k : Nat} (h : s.size ≤ k) : s.data.toList.drop k = [] := List.drop_eq_nil_of_le (by simpa using h)
theorem cntW_hit {p : UInt8 → Bool} {c : UInt8} {r : List UInt8} (h : p c = true) : cntW p (c :: r) = cntW p r + 1 := by rw [cntW, if_pos h]
theorem cntW_miss {p : UInt8 → Bool} {c : UInt8} {r : List UInt8} (h : p c = false) : cntW p (c :: r) = 0 := by rw [cntW, if_neg (by simp [h])]

set_option maxHeartbeats 1000000 in
theorem sizeOf_digit (s : ByteArray) (w : World) (hs : s.size ≤ 140737488351232) :
    Calls Tryz.prog 53 #[.string s, .func (.func 27) #[] #[]] w fun e w' => e = .returned (.int .i64 (cntW isD s.data.toList)) ∧ w' = w := by
  have HE : Hid (cntW isD s.data.toList = 0 + cntW isD (s.data.toList.drop 0)) := by simp [Hid]
  obtain ⟨R, HR⟩ : ∃ R, Hid (cntW isD s.data.toList = R) := ⟨_, rfl⟩
  rw [HR.out] at HE ⊢
  go_enter Tryz.func53, Tryz.ntmps53
  go_wp2
  go_loopw [5] (fun i wr => ∃ k : Nat, k ≤ s.size ∧ i = .int .i64 k ∧ Hid (R = k + cntW isD (s.data.toList.drop k)) ∧ wr = w) (fun i _ => s.size - (intOf i).toNat)
  case atStart => exact ⟨0, Nat.zero_le _, rfl, HE, rfl⟩
  case round =>
    obtain ⟨k, hk, rfl, hT, rfl⟩ := hrel
    by_cases hlt : k < s.size
    · have HD := hid (drop_at s hlt)
      have C := hid (fun w => xdigit_any (s[k].toNat : Int) w)
      have HC : Hid (isD s[k] = dig (s[k].toNat : Int)) := rfl
      have hkz : (k : Int) < s.size := by omega
      cases hb : dig (s[k].toNat : Int) with
      | true =>
        rw [hb] at C HC
        have HN : Hid (R = (k + 1) + cntW isD (s.data.toList.drop (k + 1))) := by
          show _ = _
          rw [hT.out, HD.out, cntW_hit HC.out]
          omega
        clear hT hb HC HD HE
        go_wp2_with (go_at_call 27; with_reducible refine (C.out _).mono ?_; rintro e w2 ⟨rfl, hw⟩; subst hw)
        go_roundw
        case rel => exact ⟨k + 1, by omega, by go_num, HN, trivial⟩
        case measure => simp [intOf]; omega
      | false =>
        rw [hb] at C HC
        have HN : Hid (R = k) := by
          show _ = _
          rw [hT.out, HD.out, cntW_miss HC.out]
          omega
        clear hT hb HC HD HE
        go_wp2_with (go_at_call 27; with_reducible refine (C.out _).mono ?_; rintro e w2 ⟨rfl, hw⟩; subst hw)
        go_ret
        exact ⟨by rw [HN.out]; rfl, rfl⟩
    · have HN : Hid (R = k) := by
        show _ = _
        rw [hT.out, drop_end s (by omega)]
        rfl
      have hkz : ¬ (k : Int) < s.size := by omega
      clear hT HE
      go_wp2_with fail
      go_ret
      exact ⟨by rw [HN.out]; rfl, rfl⟩

set_option maxHeartbeats 1000000 in
theorem sizeOf_word (s : ByteArray) (w : World) (hs : s.size ≤ 140737488351232) :
    Calls Tryz.prog 53 #[.string s, .func (.func 56) #[] #[]] w fun e w' => e = .returned (.int .i64 (cntW isW s.data.toList)) ∧ w' = w := by
  have HE : Hid (cntW isW s.data.toList = 0 + cntW isW (s.data.toList.drop 0)) := by simp [Hid]
  obtain ⟨R, HR⟩ : ∃ R, Hid (cntW isW s.data.toList = R) := ⟨_, rfl⟩
  rw [HR.out] at HE ⊢
  go_enter Tryz.func53, Tryz.ntmps53
  go_wp2
  go_loopw [5] (fun i wr => ∃ k : Nat, k ≤ s.size ∧ i = .int .i64 k ∧ Hid (R = k + cntW isW (s.data.toList.drop k)) ∧ wr = w) (fun i _ => s.size - (intOf i).toNat)
  case atStart => exact ⟨0, Nat.zero_le _, rfl, HE, rfl⟩
  case round =>
    obtain ⟨k, hk, rfl, hT, rfl⟩ := hrel
    by_cases hlt : k < s.size
    · have HD := hid (drop_at s hlt)
      have C := hid (fun w => xword_any (s[k].toNat : Int) w)
      have HC : Hid (isW s[k] = wrd (s[k].toNat : Int)) := rfl
      have hkz : (k : Int) < s.size := by omega
      cases hb : wrd (s[k].toNat : Int) with
      | true =>
        rw [hb] at C HC
        have HN : Hid (R = (k + 1) + cntW isW (s.data.toList.drop (k + 1))) := by
          show _ = _
          rw [hT.out, HD.out, cntW_hit HC.out]
          omega
        clear hT hb HC HD HE
        go_wp2_with (go_at_call 56; with_reducible refine (C.out _).mono ?_; rintro e w2 ⟨rfl, hw⟩; subst hw)
        go_roundw
        case rel => exact ⟨k + 1, by omega, by go_num, HN, trivial⟩
        case measure => simp [intOf]; omega
      | false =>
        rw [hb] at C HC
        have HN : Hid (R = k) := by
          show _ = _
          rw [hT.out, HD.out, cntW_miss HC.out]
          omega
        clear hT hb HC HD HE
        go_wp2_with (go_at_call 56; with_reducible refine (C.out _).mono ?_; rintro e w2 ⟨rfl, hw⟩; subst hw)
        go_ret
        exact ⟨by rw [HN.out]; rfl, rfl⟩
    · have HN : Hid (R = k) := by
        show _ = _
        rw [hT.out, drop_end s (by omega)]
        rfl
      have hkz : ¬ (k : Int) < s.size := by omega
      clear hT HE
      go_wp2_with fail
      go_ret
      exact ⟨by rw [HN.out]; rfl, rfl⟩

end Go.Proofs.YtekapdpfbkdflaaGreatDoor
