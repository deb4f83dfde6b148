/- What the law's Seen answers of what Tokens answers as its error. Condition: the library's variable errorType holds what its text lays. The words of a text: their places, texts and numbers; what Tokens answers, as its callers see it. Conditions: the library's variables hold what their text lays. -/
import Derived.Test.YtblkhlhhlalbkaaGreatDoorLxAs
import Derived.Test.YtblkhlhhlalbkaaGreatDoorLD
import Derived.Test.YtblkhlhhlalbkaaGreatDoorLA
namespace Go.Proofs.YtblkhlhhlalbkaaGreatDoor
open Go.RowKit Go.Lib Go.Sort
set_option linter.unusedVariables false
set_option maxRecDepth 20000

theorem assert_err (v : Value) (w : World) : (Instr.typeAssert (.iface 35 v) 87 35 true).run Tryz.prog w = .ok (.tuple #[v, .bool true]) w := by kernel_rfl
end Go.Proofs.YtblkhlhhlalbkaaGreatDoor
namespace Go.Proofs.YtblkhlhhlalbkaaGreatDoor
open Go.RowKit Go.Lib Go.Sort
set_option linter.unusedVariables false
set_option maxRecDepth 20000

theorem toks_place : ∀ (f : Nat) (l : List UInt8) (i : Nat) (xs : List (Tk × Nat)), toks f l i = .ok xs → ∀ x ∈ xs, x.2 < i + l.length
  | 0, _, _, xs, h, x, hx => by simp only [toks, Except.ok.injEq] at h; subst h; simp at hx
  | f + 1, [], i, xs, h, x, hx => by simp only [toks, Except.ok.injEq] at h; subst h; simp at hx
  | f + 1, c :: r, i, xs, h, x, hx => by
    rw [toks] at h
    by_cases hb : blk (bi c) = true
    · rw [if_pos hb] at h
      have := toks_place f r _ xs h x hx
      simp at this ⊢
      omega
    · rw [if_neg hb] at h
      by_cases hR : isR (c :: r) = true
      · rw [if_pos hR] at h
        have := toks_place f _ _ xs h x hx
        have hle := cntW_le notLF (c :: r)
        rw [List.length_drop] at this
        omega
      · rw [if_neg hR] at h
        cases h1 : first1 (c :: r) with
        | none => rw [h1] at h; simp at h
        | some y =>
          obtain ⟨t, k⟩ := y
          have hk := first1_ge h1
          rw [h1] at h
          simp only [] at h
          cases h2 : toks f ((c :: r).drop k) (i + k) with
          | error j => rw [h2] at h; simp [Except.map] at h
          | ok ys =>
            rw [h2] at h
            simp only [Except.map, Except.ok.injEq] at h
            subst h
            rcases List.mem_cons.1 hx with rfl | hx
            · simp
            · have := toks_place f _ _ ys h2 x hx
              rw [List.length_drop] at this
              omega
theorem toks_len : ∀ (f : Nat) (l : List UInt8) (i : Nat) (xs : List (Tk × Nat)), toks f l i = .ok xs → xs.length ≤ l.length
  | 0, _, _, xs, h => by simp only [toks, Except.ok.injEq] at h; subst h; simp
  | f + 1, [], i, xs, h => by simp only [toks, Except.ok.injEq] at h; subst h; simp
  | f + 1, c :: r, i, xs, h => by
    rw [toks] at h
    by_cases hb : blk (bi c) = true
    · rw [if_pos hb] at h
      have := toks_len f r _ xs h
      simp
      omega
    · rw [if_neg hb] at h
      by_cases hR : isR (c :: r) = true
      · rw [if_pos hR] at h
        have := toks_len f _ _ xs h
        rw [List.length_drop] at this
        omega
      · rw [if_neg hR] at h
        cases h1 : first1 (c :: r) with
        | none => rw [h1] at h; simp at h
        | some y =>
          obtain ⟨t, k⟩ := y
          have hk := first1_ge h1
          rw [h1] at h
          simp only [] at h
          cases h2 : toks f ((c :: r).drop k) (i + k) with
          | error j => rw [h2] at h; simp [Except.map] at h
          | ok ys =>
            rw [h2] at h
            simp only [Except.map, Except.ok.injEq] at h
            subst h
            have := toks_len f _ _ ys h2
            rw [List.length_drop] at this
            have hk1 := hk.1
            simp only [List.length_cons] at this ⊢
            omega
theorem lexR_ok {l : List UInt8} {xs : List (Tk × Nat)} (h : lexR l = .ok xs) : l.length ≤ 16384 ∧ toksOf l = .ok xs := by
  unfold lexR at h
  split at h
  · cases h
  · cases ht : toksOf l with
    | error j => rw [ht] at h; cases h
    | ok ys => rw [ht] at h; cases h; exact ⟨by omega, rfl⟩
theorem lexR_of {l : List UInt8} {xs : List (Tk × Nat)} (hl : l.length ≤ 16384) (h : toksOf l = .ok xs) : lexR l = .ok xs := by
  unfold lexR
  rw [if_neg (by omega), h]
  rfl

theorem first1_slen {l : List UInt8} {t : Tk} {k : Nat} (h : first1 l = some (t, k)) : t.s.length ≤ l.length := by
  cases l with
  | nil => simp [first1] at h
  | cons c r =>
    rw [first1_cons] at h
    split at h
    · rw [Option.map_eq_some_iff] at h
      obtain ⟨x, hx, e⟩ := h
      cases e
      have := quo_ge _ _ _ _ hx
      simp at this ⊢
      omega
    · split at h
      · rw [Option.map_eq_some_iff] at h
        obtain ⟨v, hv, e⟩ := h
        cases e
        simp
      · split at h
        · rw [Option.map_eq_some_iff] at h
          obtain ⟨x, hx, e⟩ := h
          cases e
          have := blo_ge _ _ _ _ hx
          have hl : ((c :: r).drop 2).length ≤ (c :: r).length := by rw [List.length_drop]; omega
          rw [List.length_drop] at this
          simp only [List.length_nil] at this
          rename_i hX
          have h2 : 2 ≤ (c :: r).length := by
            cases r with
            | nil => simp [isX] at hX
            | cons d r => simp
          show x.1.length ≤ _
          omega
        · split at h
          · cases h
            show (toLowerA ((c :: r).take _)).length ≤ _
            simp only [toLowerA, List.length_map, List.length_take]
            omega
          · split at h
            · cases h
            · cases h
              show ((c :: r).take _).length ≤ _
              rw [List.length_take]
              omega
theorem toks_slen : ∀ (f : Nat) (l : List UInt8) (i : Nat) (xs : List (Tk × Nat)), toks f l i = .ok xs → ∀ x ∈ xs, x.1.s.length ≤ l.length
  | 0, _, _, xs, h, x, hx => by simp only [toks, Except.ok.injEq] at h; subst h; simp at hx
  | f + 1, [], i, xs, h, x, hx => by simp only [toks, Except.ok.injEq] at h; subst h; simp at hx
  | f + 1, c :: r, i, xs, h, x, hx => by
    rw [toks] at h
    by_cases hb : blk (bi c) = true
    · rw [if_pos hb] at h
      have := toks_slen f r _ xs h x hx
      simp
      omega
    · rw [if_neg hb] at h
      by_cases hR : isR (c :: r) = true
      · rw [if_pos hR] at h
        have := toks_slen f _ _ xs h x hx
        rw [List.length_drop] at this
        omega
      · rw [if_neg hR] at h
        cases h1 : first1 (c :: r) with
        | none => rw [h1] at h; simp at h
        | some y =>
          obtain ⟨t, k⟩ := y
          rw [h1] at h
          simp only [] at h
          cases h2 : toks f ((c :: r).drop k) (i + k) with
          | error j => rw [h2] at h; simp [Except.map] at h
          | ok ys =>
            rw [h2] at h
            simp only [Except.map, Except.ok.injEq] at h
            subst h
            rcases List.mem_cons.1 hx with rfl | hx
            · exact first1_slen h1
            · have := toks_slen f _ _ ys h2 x hx
              rw [List.length_drop] at this
              omega
theorem xtok_ok (s : ByteArray) (xs : List (Tk × Nat)) (w : World) (hs : s.size ≤ 140737488351232) (hw : Rdy w) (h : lexR s.data.toList = .ok xs) :
    Calls Tryz.prog 56 #[.string s] w fun e w' => ∃ p c, e = .returned (.tuple #[.slice p xs.length c, .nilIface]) ∧ TR w' p xs ∧ xs.length ≤ maxLen ∧ Below w.heap.size w w' := by
  have C := xtokens_any s w hs hw
  rw [h] at C
  refine C.mono ?_
  rintro e w' ⟨hb, v, rfl, hO⟩
  obtain ⟨p, c, rfl, hm, hT⟩ := TR.of_own hO
  exact ⟨p, c, rfl, hT, hm, hb⟩
theorem xtok_err (s : ByteArray) (i : Nat) (n : Int) (w : World) (hs : s.size ≤ 140737488351232) (hw : Rdy w) (h : lexR s.data.toList = .error (i, n)) :
    Calls Tryz.prog 56 #[.string s] w fun e w' => ∃ b, e = .returned (.tuple #[.slice none 0 0, .iface 100 (.pointer (some ⟨b, 0, none⟩))]) ∧ w'.cell? ⟨b, 0, none⟩ = some (.int .i64 (i : Int)) ∧ w'.cell? ⟨b, 1, none⟩ = some (.iface 35 (.int .i64 n)) ∧ Below w.heap.size w w' := by
  have C := xtokens_any s w hs hw
  rw [h] at C
  refine C.mono ?_
  rintro e w' ⟨hb, b, rfl, h0, h1⟩
  exact ⟨b, rfl, h0, h1, hb⟩

end Go.Proofs.YtblkhlhhlalbkaaGreatDoor
