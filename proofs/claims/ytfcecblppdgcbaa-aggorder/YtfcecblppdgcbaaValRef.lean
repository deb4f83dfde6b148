/- What the document's own texts and Compare answer. Condition: a text's length is Go's (at most maxLen). -/
import Derived.Test.YtfcecblppdgcbaaValWalks
import Derived.Deep.QuietTactic
import Derived.BigQuiet
namespace Go.Proofs.Ytfcecblppdgcbaa
open Go.RowKit Go.Lib
set_option linter.unusedVariables false
set_option maxRecDepth 20000

theorem compareBytes_drop : ∀ (k : Nat) (a b : List UInt8), a.take k = b.take k → compareBytes a b = compareBytes (a.drop k) (b.drop k)
  | 0, _, _, _ => rfl
  | _ + 1, [], [], _ => rfl
  | _ + 1, [], y :: b, h => by simp at h
  | _ + 1, x :: a, [], h => by simp at h
  | k + 1, x :: a, y :: b, h => by
    simp only [List.take_succ_cons, List.cons.injEq] at h
    obtain ⟨rfl, h⟩ := h
    rw [List.drop_succ_cons, List.drop_succ_cons, ← compareBytes_drop k a b h]
    show (if x < x then -1 else if x < x then 1 else compareBytes a b : Int) = _
    rw [if_neg (UInt8.lt_irrefl x), if_neg (UInt8.lt_irrefl x)]

theorem drop_at (s : ByteArray) (k : Nat) (h : k < s.size) : s.data.toList.drop k = s[k] :: s.data.toList.drop (k + 1) := by
  rw [List.drop_eq_getElem_cons (by simpa using h)]; rfl
theorem take_snoc (s : ByteArray) (k : Nat) (h : k < s.size) : s.data.toList.take (k + 1) = s.data.toList.take k ++ [s[k]] := by
  rw [List.take_succ_eq_append_getElem (by simpa using h)]; rfl

theorem texts_lt (a b : ByteArray) (k : Nat) (ha : k < a.size) (hb : k < b.size) (h : a.data.toList.take k = b.data.toList.take k) (hl : (a[k].toNat : Int) < b[k].toNat) : compareBytes a.data.toList b.data.toList = -1 := by
  rw [compareBytes_drop k _ _ h, drop_at a k ha, drop_at b k hb]
  show (if a[k] < b[k] then -1 else if a[k] > b[k] then 1 else _ : Int) = _
  rw [if_pos (UInt8.lt_iff_toNat_lt.2 (by omega))]
theorem texts_gt (a b : ByteArray) (k : Nat) (ha : k < a.size) (hb : k < b.size) (h : a.data.toList.take k = b.data.toList.take k) (hl : (b[k].toNat : Int) < a[k].toNat) : compareBytes a.data.toList b.data.toList = 1 := by
  rw [compareBytes_drop k _ _ h, drop_at a k ha, drop_at b k hb]
  show (if a[k] < b[k] then -1 else if a[k] > b[k] then 1 else _ : Int) = _
  rw [if_neg (fun q => by have := UInt8.lt_iff_toNat_lt.1 q; omega), if_pos (UInt8.lt_iff_toNat_lt.2 (by omega))]
theorem texts_same (a b : ByteArray) (k : Nat) (ha : k < a.size) (hb : k < b.size) (h : a.data.toList.take k = b.data.toList.take k) (hl : ¬ (a[k].toNat : Int) < b[k].toNat) (hg : ¬ (b[k].toNat : Int) < a[k].toNat) : a.data.toList.take (k + 1) = b.data.toList.take (k + 1) := by
  rw [take_snoc a k ha, take_snoc b k hb, h, UInt8.toNat_inj.1 (show a[k].toNat = b[k].toNat by omega)]
theorem texts_end (a b : ByteArray) (k : Nat) (hka : k ≤ a.size) (hkb : k ≤ b.size) (hk : ¬ (k < a.size ∧ k < b.size)) (h : a.data.toList.take k = b.data.toList.take k) : compareBytes a.data.toList b.data.toList = cmpI a.size b.size := by
  rw [compareBytes_drop k _ _ h]
  have la : (a.data.toList.drop k).length = a.size - k := by simp
  have lb : (b.data.toList.drop k).length = b.size - k := by simp
  revert la lb
  cases a.data.toList.drop k <;> cases b.data.toList.drop k <;> intro la lb
  · exact (cmpI_eq (by simp at la lb; omega)).symm
  · exact (cmpI_lt (by simp at la lb; omega)).symm
  · exact (cmpI_gt (by simp at la lb; omega)).symm
  · simp at la lb; omega

set_option maxHeartbeats 1000000 in
theorem texts_any (a b : ByteArray) (w : World) (hA : a.size ≤ maxLen) (hB : b.size ≤ maxLen) :
    Calls Try.prog 24 #[.string a, .string b] w fun e w' => e = .returned (.int .i64 (compareBytes a.data.toList b.data.toList)) ∧ ∃ n, w' = w.drewN n := by
  unfold maxLen at hA hB
  go_enter Try.func24, Try.ntmps24
  go_wp2
  go_loopw [5] (fun i wr => ∃ k : Nat, k ≤ a.size ∧ k ≤ b.size ∧ i = .int .i64 k ∧ a.data.toList.take k = b.data.toList.take k ∧ ∃ n, wr = w.drewN n) (fun i _ => a.size - (intOf i).toNat)
  case atStart => exact ⟨0, Nat.zero_le _, Nat.zero_le _, rfl, rfl, 0, rfl⟩
  case round =>
    obtain ⟨k, hka, hkb, rfl, heq, n, rfl⟩ := hrel
    have HE : Hid (a.data.toList.take k = b.data.toList.take k) := heq
    clear heq
    by_cases ha : k < a.size
    · by_cases hb : k < b.size
      · by_cases hl : (a[k].toNat : Int) < b[k].toNat
        · go_wp2
          go_quiet (fail)
          go_wp2
          go_ret
          exact ⟨ret_int (texts_lt a b k ha hb HE.out hl).symm, _, World.drewN_drewN ..⟩
        · by_cases hg : (b[k].toNat : Int) < a[k].toNat
          · go_wp2
            go_quiet (fail)
            go_wp2
            go_quiet (fail)
            go_wp2
            go_ret
            exact ⟨ret_int (texts_gt a b k ha hb HE.out hg).symm, _, by simp only [World.drewN_drewN]; rfl⟩
          · go_wp2
            go_quiet (fail)
            go_wp2
            go_quiet (fail)
            go_wp2
            go_roundw
            case rel => exact ⟨k + 1, by omega, by omega, by go_num, texts_same a b k ha hb HE.out (by omega) (by omega), _, rfl⟩
            case measure => simp [intOf]; omega
      · have he := texts_end a b k hka hkb (by omega) HE.out
        have H2 : Hid (compareBytes a.data.toList b.data.toList = cmpI a.size b.size) := he
        clear he
        go_wp2
        all_goals
          go_ret
          exact ⟨ret_int (by rw [H2.out]; first | exact (cmpI_lt (by omega)).symm | exact (cmpI_gt (by omega)).symm | exact (cmpI_eq (by omega)).symm), n, rfl⟩
    · have he := texts_end a b k hka hkb (by omega) HE.out
      have H2 : Hid (compareBytes a.data.toList b.data.toList = cmpI a.size b.size) := he
      clear he
      go_wp2
      all_goals
        go_ret
        exact ⟨ret_int (by rw [H2.out]; first | exact (cmpI_lt (by omega)).symm | exact (cmpI_gt (by omega)).symm | exact (cmpI_eq (by omega)).symm), n, rfl⟩

set_option maxHeartbeats 1000000 in
theorem refCompare_any (a b : Val) (w : World) (hA : a.s.size ≤ maxLen) (hB : b.s.size ≤ maxLen) :
    Calls Try.prog 17 #[a.v, b.v] w fun e w' => e = .returned (.int .i64 (cmpV a b)) ∧ Below w.heap.size w w' := by
  obtain ⟨k1, n1, s1⟩ := a
  obtain ⟨k2, n2, s2⟩ := b
  unfold Val.v
  simp only [] at hA hB
  by_cases hk1 : k1 < k2
  · have hf : cmpV ⟨k1, n1, s1⟩ ⟨k2, n2, s2⟩ = -1 := by rw [cmpV_kind (by simp only []; omega), cmpI_lt hk1]
    rw [hf]
    clear hf
    go_enter Try.func17, Try.ntmps17
    go_wp2
    go_ret
    exact ⟨rfl, by go_grown⟩
  by_cases hk2 : k2 < k1
  · have hf : cmpV ⟨k1, n1, s1⟩ ⟨k2, n2, s2⟩ = 1 := by rw [cmpV_kind (by simp only []; omega), cmpI_gt hk2]
    rw [hf]
    clear hf
    go_enter Try.func17, Try.ntmps17
    go_wp2
    go_ret
    exact ⟨rfl, by go_grown⟩
  obtain rfl : k1 = k2 := by omega
  clear hk1 hk2
  by_cases h34 : k1 = 3 ∨ k1 = 4
  · have hf : cmpV ⟨k1, n1, s1⟩ ⟨k1, n2, s2⟩ = compareBytes s1.data.toList s2.data.toList := cmpV_text rfl h34
    rw [hf]
    clear hf
    rcases h34 with rfl | rfl
    all_goals
      go_enter Try.func17, Try.ntmps17
      go_wp2_with (go_at_call 24; refine (texts_any _ _ _ hA hB).mono ?_; rintro e w' ⟨rfl, nq, rfl⟩)
      go_ret
      exact ⟨rfl, Below.trans (b := (w.alloc _).alloc _) (by go_grown) ⟨rfl, rfl, rfl, Nat.le_refl _, fun _ _ => rfl⟩⟩
  have e3 : (k1 == 3) = false := beq_eq_false_iff_ne.2 (by omega)
  have e4 : (k1 == 4) = false := beq_eq_false_iff_ne.2 (by omega)
  by_cases h12 : k1 = 1 ∨ k1 = 2
  · have hf : cmpV ⟨k1, n1, s1⟩ ⟨k1, n2, s2⟩ = cmpI n1 n2 := cmpV_num rfl h12
    rw [hf]
    clear hf e3 e4 h34
    by_cases g1 : n1 < n2
    · rw [cmpI_lt g1]
      have e5 : (n1 == n2) = false := beq_eq_false_iff_ne.2 (by omega)
      rcases h12 with rfl | rfl
      all_goals
        go_enter Try.func17, Try.ntmps17
        go_wp2
        go_ret
        exact ⟨rfl, by go_grown⟩
    · by_cases g2 : n2 < n1
      · rw [cmpI_gt g2]
        have e5 : (n1 == n2) = false := beq_eq_false_iff_ne.2 (by omega)
        rcases h12 with rfl | rfl
        all_goals
          go_enter Try.func17, Try.ntmps17
          go_wp2
          go_ret
          exact ⟨rfl, by go_grown⟩
      · obtain rfl : n1 = n2 := by omega
        rw [cmpI_eq rfl]
        clear g1 g2
        rcases h12 with rfl | rfl
        all_goals
          go_enter Try.func17, Try.ntmps17
          go_wp2
          go_ret
          exact ⟨rfl, by go_grown⟩
  · have hf : cmpV ⟨k1, n1, s1⟩ ⟨k1, n2, s2⟩ = 0 := cmpV_none rfl (by simp only []; omega) (by simp only []; omega) (by simp only []; omega) (by simp only []; omega)
    rw [hf]
    have e1 : (k1 != 1) = true := bne_iff_ne.2 (by omega)
    have e2 : (k1 != 2) = true := bne_iff_ne.2 (by omega)
    clear hf h12 h34
    go_enter Try.func17, Try.ntmps17
    go_wp2
    go_ret
    exact ⟨rfl, by go_grown⟩
end Go.Proofs.Ytfcecblppdgcbaa
