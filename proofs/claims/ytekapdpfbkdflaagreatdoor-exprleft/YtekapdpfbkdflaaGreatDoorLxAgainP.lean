/- Plain mathematics: words that are written are the same words. No program is named here. No conditions. -/
import Derived.Test.YtekapdpfbkdflaaGreatDoorLxBlankP
import Derived.Test.YtekapdpfbkdflaaGreatDoorLitPlain
import Derived.Test.YtekapdpfbkdflaaGreatDoorValHex
namespace Go.Proofs.YtekapdpfbkdflaaGreatDoor
open Go.Lib
set_option linter.unusedVariables false
set_option maxRecDepth 20000

/-- A word as it is written. -/
def prT (t : Tk) : List UInt8 :=
  if t.k = 1 ∨ t.k = 5 then t.s else if t.k = 2 then itoa t.n else if t.k = 3 then 39 :: (rep t.s ++ [39]) else 88 :: 39 :: (hexL t.s ++ [39])
/-- What holds of the words that are read. -/
def GoodT (t : Tk) : Prop :=
  (t.k = 1 ∧ t.n = 0 ∧ (∃ c r, t.s = c :: r ∧ ltr (bi c) = true) ∧ (∀ c ∈ t.s, isW c = true ∧ lowerB c = c)) ∨
  (t.k = 2 ∧ t.s = [] ∧ 0 ≤ t.n ∧ t.n ≤ 9223372036854775807) ∨
  (t.k = 3 ∧ t.n = 0) ∨ (t.k = 4 ∧ t.n = 0) ∨
  (t.k = 5 ∧ t.n = 0 ∧ ((∃ c, t.s = [c] ∧ is1 (bi c) = true) ∨ is2 t.s = true))

theorem isW_lower_fin : ∀ i : Fin 256, isW (UInt8.ofNat i.val) = true → isW (lowerB (UInt8.ofNat i.val)) = true ∧ lowerB (lowerB (UInt8.ofNat i.val)) = lowerB (UInt8.ofNat i.val) := by decide +kernel
theorem isW_lower (c : UInt8) : isW c = true → isW (lowerB c) = true ∧ lowerB (lowerB c) = lowerB c := by
  have h := isW_lower_fin ⟨c.toNat, c.toNat_lt⟩
  have e : UInt8.ofNat (⟨c.toNat, c.toNat_lt⟩ : Fin 256).val = c := by simp
  rw [e] at h
  exact h
theorem ltr_lower_fin : ∀ i : Fin 256, ltr (bi (UInt8.ofNat i.val)) = true → ltr (bi (lowerB (UInt8.ofNat i.val))) = true := by decide +kernel
theorem ltr_lower (c : UInt8) : ltr (bi c) = true → ltr (bi (lowerB c)) = true := by
  have h := ltr_lower_fin ⟨c.toNat, c.toNat_lt⟩
  have e : UInt8.ofNat (⟨c.toNat, c.toNat_lt⟩ : Fin 256).val = c := by simp
  rw [e] at h
  exact h
theorem cntW_allP (p : UInt8 → Bool) : ∀ (l : List UInt8), ∀ c ∈ l.take (cntW p l), p c = true
  | [], c, h => by simp at h
  | d :: r, c, h => by
    by_cases hd : p d = true
    · rw [cntW, if_pos hd, List.take_succ_cons] at h
      rcases List.mem_cons.1 h with rfl | h
      · exact hd
      · exact cntW_allP p r c h
    · rw [cntW, if_neg hd] at h
      simp at h
theorem cntW_stop (p : UInt8 → Bool) (d : UInt8) (hd : p d = false) (s : List UInt8) : ∀ (l : List UInt8), (∀ c ∈ l, p c = true) → cntW p (l ++ d :: s) = l.length
  | [], _ => by simp [cntW, hd]
  | c :: r, h => by
    simp only [List.cons_append, cntW]
    rw [if_pos (h c (by simp)), cntW_stop p d hd s r (fun x hx => h x (List.mem_cons_of_mem _ hx))]
    rfl
theorem first1_good {l : List UInt8} {t : Tk} {k : Nat} (h : first1 l = some (t, k)) : GoodT t := by
  cases l with
  | nil => simp [first1] at h
  | cons c r =>
    rw [first1_cons] at h
    split at h
    · rw [Option.map_eq_some_iff] at h
      obtain ⟨x, _, e⟩ := h
      cases e
      exact Or.inr (Or.inr (Or.inl ⟨rfl, rfl⟩))
    · split at h
      · rw [Option.map_eq_some_iff] at h
        obtain ⟨v, hv, e⟩ := h
        cases e
        refine Or.inr (Or.inl ⟨rfl, rfl, ?_, ?_⟩)
        · unfold numD at hv
          split at hv
          · cases hv; exact Int.natCast_nonneg _
          · cases hv
        · unfold numD at hv
          split at hv
          · rename_i hle; cases hv; show ((valD 0 _ : Nat) : Int) ≤ _; omega
          · cases hv
      · split at h
        · rw [Option.map_eq_some_iff] at h
          obtain ⟨x, _, e⟩ := h
          cases e
          exact Or.inr (Or.inr (Or.inr (Or.inl ⟨rfl, rfl⟩)))
        · split at h
          · rename_i hl
            cases h
            have hw : isW c = true := by unfold isW wrd; rw [hl]; rfl
            refine Or.inl ⟨rfl, rfl, ?_, fun x hx => ?_⟩
            · refine ⟨lowerB c, toLowerA (r.take (cntW isW r)), ?_, ltr_lower c hl⟩
              show toLowerA ((c :: r).take (cntW isW (c :: r))) = _
              rw [cntW, if_pos hw, List.take_succ_cons]
              rfl
            · obtain ⟨y, hy, rfl⟩ := List.mem_map.1 hx
              exact isW_lower y (cntW_allP isW _ y hy)
          · split at h
            · cases h
            · rename_i hs
              cases h
              refine Or.inr (Or.inr (Or.inr (Or.inr ⟨rfl, rfl, ?_⟩)))
              show (∃ d, (c :: r).take (sym (c :: r)) = [d] ∧ _) ∨ is2 ((c :: r).take (sym (c :: r))) = true
              have e : sym (c :: r) = if is2 (c :: r.take 1) then 2 else if is1 (bi c) then 1 else 0 := rfl
              by_cases h2 : is2 (c :: r.take 1) = true
              · right
                rw [e, if_pos h2]
                exact h2
              · left
                rw [if_neg h2] at e
                by_cases h1 : is1 (bi c) = true
                · rw [if_pos h1] at e
                  rw [e]
                  exact ⟨c, rfl, h1⟩
                · rw [if_neg h1] at e
                  exact absurd e hs

theorem toks_good : ∀ (f : Nat) (l : List UInt8) (i : Nat) (xs : List (Tk × Nat)), toks f l i = .ok xs → ∀ x ∈ xs, GoodT x.1
  | 0, _, _, xs, h, x, hx => by simp only [toks, Except.ok.injEq] at h; subst h; simp at hx
  | f + 1, [], i, xs, h, x, hx => by simp only [toks, Except.ok.injEq] at h; subst h; simp at hx
  | f + 1, c :: r, i, xs, h, x, hx => by
    rw [toks] at h
    by_cases hb : blk (bi c) = true
    · rw [if_pos hb] at h
      exact toks_good f r _ xs h x hx
    · rw [if_neg hb] at h
      by_cases hR : isR (c :: r) = true
      · rw [if_pos hR] at h
        exact toks_good f _ _ xs h x hx
      · rw [if_neg hR] at h
        cases h1 : first1 (c :: r) with
        | none => rw [h1] at h; simp at h
        | some y =>
          obtain ⟨t, k⟩ := y
          rw [h1] at h
          simp only [] at h
          cases h2 : toks f ((c :: r).drop k) (i + k) with
          | error j => rw [h2] at h; simp [Except.map] at h
          | ok ys =>
            rw [h2] at h
            simp only [Except.map, Except.ok.injEq] at h
            subst h
            rcases List.mem_cons.1 hx with rfl | hx
            · exact first1_good h1
            · exact toks_good f _ _ ys h2 x hx

theorem isW_32 : isW 32 = false := by decide
theorem isD_32 : isD 32 = false := by decide
theorem ltr_facts_fin : ∀ i : Fin 256, ltr (bi (UInt8.ofNat i.val)) = true → (bi (UInt8.ofNat i.val) == 39) = false ∧ dig (bi (UInt8.ofNat i.val)) = false ∧ blk (bi (UInt8.ofNat i.val)) = false ∧ (bi (UInt8.ofNat i.val) == 45) = false := by decide +kernel
theorem ltr_facts (c : UInt8) : ltr (bi c) = true → (bi c == 39) = false ∧ dig (bi c) = false ∧ blk (bi c) = false ∧ (bi c == 45) = false := by
  have h := ltr_facts_fin ⟨c.toNat, c.toNat_lt⟩
  have e : UInt8.ofNat (⟨c.toNat, c.toNat_lt⟩ : Fin 256).val = c := by simp
  rw [e] at h
  exact h
theorem isW_39_fin : ∀ i : Fin 256, isW (UInt8.ofNat i.val) = true → (bi (UInt8.ofNat i.val) == 39) = false := by decide +kernel
theorem isW_39 (c : UInt8) : isW c = true → (bi c == 39) = false := by
  have h := isW_39_fin ⟨c.toNat, c.toNat_lt⟩
  have e : UInt8.ofNat (⟨c.toNat, c.toNat_lt⟩ : Fin 256).val = c := by simp
  rw [e] at h
  exact h
theorem dig_facts_fin : ∀ i : Fin 256, isD (UInt8.ofNat i.val) = true → (bi (UInt8.ofNat i.val) == 39) = false ∧ blk (bi (UInt8.ofNat i.val)) = false ∧ (bi (UInt8.ofNat i.val) == 45) = false := by decide +kernel
theorem dig_facts (c : UInt8) : isD c = true → (bi c == 39) = false ∧ blk (bi c) = false ∧ (bi c == 45) = false := by
  have h := dig_facts_fin ⟨c.toNat, c.toNat_lt⟩
  have e : UInt8.ofNat (⟨c.toNat, c.toNat_lt⟩ : Fin 256).val = c := by simp
  rw [e] at h
  exact h
theorem one_facts_fin : ∀ i : Fin 256, is1 (bi (UInt8.ofNat i.val)) = true → (bi (UInt8.ofNat i.val) == 39) = false ∧ dig (bi (UInt8.ofNat i.val)) = false ∧ blk (bi (UInt8.ofNat i.val)) = false ∧ ltr (bi (UInt8.ofNat i.val)) = false ∧ (bi (UInt8.ofNat i.val) == 120) = false ∧ (bi (UInt8.ofNat i.val) == 88) = false ∧ is2 [(UInt8.ofNat i.val), 32] = false := by decide +kernel
theorem one_facts (c : UInt8) : is1 (bi c) = true → (bi c == 39) = false ∧ dig (bi c) = false ∧ blk (bi c) = false ∧ ltr (bi c) = false ∧ (bi c == 120) = false ∧ (bi c == 88) = false ∧ is2 [c, 32] = false := by
  have h := one_facts_fin ⟨c.toNat, c.toNat_lt⟩
  have e : UInt8.ofNat (⟨c.toNat, c.toNat_lt⟩ : Fin 256).val = c := by simp
  rw [e] at h
  exact h
theorem lower_id : ∀ (l : List UInt8), (∀ c ∈ l, lowerB c = c) → toLowerA l = l
  | [], _ => rfl
  | c :: r, h => by
    show lowerB c :: toLowerA r = c :: r
    rw [h c (by simp), lower_id r (fun x hx => h x (List.mem_cons_of_mem _ hx))]
theorem valD_app : ∀ (l r : List UInt8) (n : Nat), valD n (l ++ r) = valD (valD n l) r
  | [], r, n => rfl
  | c :: l, r, n => valD_app l r _
theorem valD_dec : ∀ (k n : Nat), n ≤ k → valD 0 (decDigits n) = n ∧ (∀ c ∈ decDigits n, isD c = true) ∧ decDigits n ≠ [] := by
  intro k
  induction k with
  | zero =>
    intro n hn
    obtain rfl : n = 0 := by omega
    rw [decDigits_one (by omega)]
    exact ⟨by decide, by decide, by simp⟩
  | succ k ih =>
    intro n hn
    by_cases h : n < 10
    · rw [decDigits_one h]
      have hx : n = 0 ∨ n = 1 ∨ n = 2 ∨ n = 3 ∨ n = 4 ∨ n = 5 ∨ n = 6 ∨ n = 7 ∨ n = 8 ∨ n = 9 := by omega
      rcases hx with rfl | rfl | rfl | rfl | rfl | rfl | rfl | rfl | rfl | rfl <;> exact ⟨by decide, by decide, by simp⟩
    · obtain ⟨h1, h2, h3⟩ := ih (n / 10) (by omega)
      have e : decDigits n = decDigits (n / 10) ++ [UInt8.ofNat (48 + n % 10)] := by rw [decDigits, dif_neg h]
      rw [e]
      have hd : (UInt8.ofNat (48 + n % 10)).toNat = 48 + n % 10 := by rw [UInt8.toNat_ofNat']; omega
      refine ⟨?_, fun c hc => ?_, by simp⟩
      · rw [valD_app, h1]
        show 10 * (n / 10) + ((UInt8.ofNat (48 + n % 10)).toNat - 48) = n
        rw [hd]
        omega
      · rcases List.mem_append.1 hc with hc | hc
        · exact h2 c hc
        · obtain rfl : c = UInt8.ofNat (48 + n % 10) := by simpa using hc
          unfold isD dig bi
          rw [hd]
          simp
          omega
theorem quo_rep (s : List UInt8) : ∀ (x acc : List UInt8) (i : Nat), quo (rep x ++ 39 :: 32 :: s) acc i = some (acc ++ x, i + (rep x).length + 1)
  | [], acc, i => by
    show quo (39 :: 32 :: s) acc i = _
    rw [quo, if_pos rfl, if_neg (by decide)]
    simp [rep]
  | c :: r, acc, i => by
    by_cases hc : c = 39
    · subst hc
      have e : rep (39 :: r) = 39 :: 39 :: rep r := by simp [rep]
      rw [e]
      show quo (39 :: 39 :: (rep r ++ 39 :: 32 :: s)) acc i = _
      rw [quo, if_pos rfl, if_pos rfl, quo_rep s r]
      simp
      omega
    · have e : rep (c :: r) = c :: rep r := by simp [rep, hc]
      rw [e]
      show quo (c :: (rep r ++ 39 :: 32 :: s)) acc i = _
      have hne : ∃ d q, rep r ++ 39 :: 32 :: s = d :: q := by
        cases rep r with
        | nil => exact ⟨_, _, rfl⟩
        | cons d q => exact ⟨_, _, rfl⟩
      obtain ⟨d, q, hdq⟩ := hne
      have := quo_rep s r (acc ++ [c]) (i + 1)
      rw [hdq] at this ⊢
      rw [quo, if_neg hc, this]
      simp
      omega
theorem hexd_hx : ∀ n : Fin 16, hx (bi (hexd n.val)) = (n.val : Int) ∧ hexd n.val ≠ 39 := by decide +kernel
theorem hex_back_fin : ∀ i : Fin 256, UInt8.ofNat (16 * (((UInt8.ofNat i.val).toNat / 16 : Nat) : Int) + (((UInt8.ofNat i.val).toNat % 16 : Nat) : Int)).toNat = (UInt8.ofNat i.val) := by decide +kernel
theorem hex_back (c : UInt8) : UInt8.ofNat (16 * ((c.toNat / 16 : Nat) : Int) + ((c.toNat % 16 : Nat) : Int)).toNat = c := by
  have h := hex_back_fin ⟨c.toNat, c.toNat_lt⟩
  have e : UInt8.ofNat (⟨c.toNat, c.toNat_lt⟩ : Fin 256).val = c := by simp
  rw [e] at h
  exact h
theorem blo_hex (s : List UInt8) : ∀ (x acc : List UInt8) (i : Nat), blo (hexL x ++ 39 :: s) acc i = some (acc ++ x, i + (hexL x).length + 1)
  | [], acc, i => by
    show blo (39 :: s) acc i = _
    cases s <;> (rw [blo, if_pos rfl]; simp [hexL])
  | c :: r, acc, i => by
    have hc := c.toNat_lt
    have h1 := hexd_hx ⟨c.toNat / 16, by omega⟩
    have h2 := hexd_hx ⟨c.toNat % 16, by omega⟩
    show blo (hexd (c.toNat / 16) :: hexd (c.toNat % 16) :: (hexL r ++ 39 :: s)) acc i = _
    simp only [] at h1 h2
    rw [blo, if_neg h1.2, h1.1, h2.1, if_neg (by omega), blo_hex s r, hex_back c]
    simp [hexL]
    omega

/-- A word that is written, with a blank behind it, is read. -/
theorem first1_back (s : List UInt8) {t : Tk} (h : GoodT t) : first1 (prT t ++ 32 :: s) = some (t, (prT t).length) ∧ (∃ c r, prT t = c :: r ∧ blk (bi c) = false) ∧ isR (prT t ++ 32 :: s) = false := by
  obtain ⟨tk, ts, tn⟩ := t
  rcases h with ⟨rfl, rfl, ⟨c, r, rfl, hl⟩, ha⟩ | ⟨rfl, rfl, h0, h1⟩ | ⟨rfl, rfl⟩ | ⟨rfl, rfl⟩ | ⟨rfl, rfl, hs⟩
  · try simp only [] at *
    have e : prT ⟨1, c :: r, 0⟩ = c :: r := rfl
    obtain ⟨f1, f2, f3, f4⟩ := ltr_facts c hl
    rw [e]
    refine ⟨?_, ⟨c, r, rfl, f3⟩, ?_⟩
    · have hcnt := cntW_stop isW 32 isW_32 s (c :: r) (fun x hx => (ha x hx).1)
      have hX : isX (c :: r ++ 32 :: s) = false := by
        cases r with
        | nil => simp [isX, bi]
        | cons d r =>
          have := isW_39 d (ha d (by simp)).1
          simp only [List.cons_append, isX, this, Bool.and_false]
      rw [show c :: r ++ 32 :: s = c :: (r ++ 32 :: s) from rfl, first1_cons, f1, f2]
      rw [show c :: (r ++ 32 :: s) = c :: r ++ 32 :: s from rfl, hX, hl, hcnt]
      simp only [Bool.false_eq_true, if_false, if_true]
      rw [take_app _ _ _ (Nat.le_refl _), List.take_length, lower_id _ (fun x hx => (ha x hx).2)]
    · cases r with
      | nil => simp [isR, f4]
      | cons d r => simp only [List.cons_append, isR, f4, Bool.false_and]
  · try simp only [] at *
    obtain ⟨n, rfl⟩ : ∃ n : Nat, tn = n := ⟨tn.toNat, by omega⟩
    obtain ⟨d1, d2, d3⟩ := valD_dec n n (Nat.le_refl _)
    have e : prT ⟨2, [], (n : Int)⟩ = decDigits n := by
      show itoa (n : Int) = _
      unfold itoa
      rw [if_neg (by omega)]
      rfl
    rw [e]
    cases hd : decDigits n with
    | nil => exact absurd hd d3
    | cons c r =>
      rw [hd] at d1 d2
      obtain ⟨f1, f2, f3⟩ := dig_facts c (d2 c (by simp))
      refine ⟨?_, ⟨c, r, rfl, f2⟩, ?_⟩
      · have hcnt := cntW_stop isD 32 isD_32 s (c :: r) d2
        rw [show c :: r ++ 32 :: s = c :: (r ++ 32 :: s) from rfl, first1_cons, f1, show dig (bi c) = true from d2 c (by simp)]
        rw [show c :: (r ++ 32 :: s) = c :: r ++ 32 :: s from rfl, hcnt]
        simp only [Bool.false_eq_true, if_false, if_true]
        rw [take_app _ _ _ (Nat.le_refl _), List.take_length]
        unfold numD
        rw [d1, if_pos (by omega)]
        rfl
      · cases r with
        | nil => simp [isR, f3]
        | cons d r => simp only [List.cons_append, isR, f3, Bool.false_and]
  · try simp only [] at *
    have e : prT ⟨3, ts, 0⟩ = 39 :: (rep ts ++ [39]) := rfl
    rw [e]
    refine ⟨?_, ⟨39, rep ts ++ [39], rfl, by decide⟩, ?_⟩
    · have : 39 :: (rep ts ++ [39]) ++ 32 :: s = 39 :: (rep ts ++ 39 :: 32 :: s) := by simp
      rw [this, first1_cons, if_pos (by decide), quo_rep s ts [] 1]
      simp
      omega
    · cases rep ts <;> rfl
  · try simp only [] at *
    have e : prT ⟨4, ts, 0⟩ = 88 :: 39 :: (hexL ts ++ [39]) := rfl
    rw [e]
    refine ⟨?_, ⟨88, 39 :: (hexL ts ++ [39]), rfl, by decide⟩, by rfl⟩
    have : 88 :: 39 :: (hexL ts ++ [39]) ++ 32 :: s = 88 :: 39 :: (hexL ts ++ 39 :: 32 :: s) := by simp
    rw [this, first1_cons, if_neg (by decide), if_neg (by decide), if_pos (by rfl)]
    show (blo (hexL ts ++ 39 :: 32 :: s) [] 2).map _ = _
    rw [blo_hex (32 :: s) ts [] 2]
    simp
    omega
  · try simp only [] at *
    have e : prT ⟨5, ts, 0⟩ = ts := rfl
    rw [e]
    rcases hs with ⟨c, rfl, h1⟩ | h2
    · obtain ⟨f1, f2, f3, f4, f5, f6, f7⟩ := one_facts c h1
      refine ⟨?_, ⟨c, [], rfl, f3⟩, ?_⟩
      · have hX : isX (c :: 32 :: s) = false := by simp [isX, bi]
        show first1 (c :: 32 :: s) = _
        have hs1 : sym (c :: 32 :: s) = 1 := by
          show (if is2 [c, 32] then 2 else if is1 (bi c) then 1 else 0) = 1
          rw [f7, h1]
          rfl
        rw [first1_cons, f1, f2, hX, f4, hs1]
        rfl
      · simp [isR, bi]
    · obtain ⟨x, hx, he⟩ := List.any_eq_true.1 h2
      obtain rfl : ts = x := by simpa using he
      simp only [twos2, List.mem_cons, List.not_mem_nil, or_false] at hx
      rcases hx with rfl | rfl | rfl | rfl
      all_goals exact ⟨rfl, ⟨_, _, rfl, by decide⟩, rfl⟩

/-- Words, written one behind the other. -/
def wrT : List (Tk × Nat) → List UInt8
  | [] => []
  | x :: r => prT x.1 ++ 32 :: wrT r
theorem toks_back : ∀ (xs : List (Tk × Nat)), (∀ x ∈ xs, GoodT x.1) → ∀ (F i : Nat), (wrT xs).length < F → ∃ ys, toks F (wrT xs) i = .ok ys ∧ ys.map (·.1) = xs.map (·.1)
  | [], _, F, i, hF => by
    cases F with
    | zero => omega
    | succ G => exact ⟨[], rfl, rfl⟩
  | x :: r, h, 0, i, hF => by omega
  | x :: r, h, 1, i, hF => by simp [wrT] at hF
  | x :: r, h, G + 2, i, hF => by
    obtain ⟨h1, ⟨c, q, hc, hb⟩, hR⟩ := first1_back (wrT r) (h x (by simp))
    have hlen : (wrT (x :: r)).length = (prT x.1).length + (wrT r).length + 1 := by simp [wrT]; omega
    have hp : 0 < (prT x.1).length := by rw [hc]; simp
    rw [hlen] at hF
    obtain ⟨ys, hy1, hy2⟩ := toks_back r (fun y hy => h y (List.mem_cons_of_mem _ hy)) G (i + (prT x.1).length + 1) (by omega)
    refine ⟨(x.1, i) :: ys, ?_, by simp [hy2]⟩
    show toks (G + 1 + 1) (prT x.1 ++ 32 :: wrT r) i = _
    have e : prT x.1 ++ 32 :: wrT r = c :: (q ++ 32 :: wrT r) := by rw [hc]; rfl
    rw [e, toks, ← e, if_neg (by simp [hb]), hR, h1]
    simp only [Bool.false_eq_true, if_false]
    rw [drop_app _ _ _ (Nat.le_refl _), List.drop_length, List.nil_append, toks, if_pos (by decide), hy1]
    rfl
theorem toksOf_back {l : List UInt8} {xs : List (Tk × Nat)} (h : toksOf l = .ok xs) : ∃ ys, toksOf (wrT xs) = .ok ys ∧ ys.map (·.1) = xs.map (·.1) :=
  toks_back xs (toks_good _ _ _ _ h) _ _ (by omega)
end Go.Proofs.YtekapdpfbkdflaaGreatDoor
