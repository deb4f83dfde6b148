/- Different right values are written differently, as plain mathematics. No conditions. -/
import Derived.Test.YtlhknlbofcflcaaDoorValLit
import Derived.Test.YtlhknlbofcflcaaDoorValOrder
namespace Go.Proofs.YtlhknlbofcflcaaDoor
open Go.Lib

def dval (l : List UInt8) : Nat := l.foldl (fun acc c => acc * 10 + (c.toNat - 48)) 0
theorem dval_snoc (l : List UInt8) (c : UInt8) : dval (l ++ [c]) = dval l * 10 + (c.toNat - 48) := by simp [dval, List.foldl_append]
theorem digit_toNat (d : Nat) (h : d < 10) : (UInt8.ofNat (48 + d)).toNat = 48 + d := by simp [UInt8.toNat_ofNat']; omega

theorem decDigits_facts : ∀ (f u : Nat), u < f → dval (decDigits u) = u ∧ (∀ c ∈ decDigits u, 48 ≤ c.toNat ∧ c.toNat ≤ 57) ∧ decDigits u ≠ []
  | 0, _, h => absurd h (Nat.not_lt_zero _)
  | f + 1, u, h => by
    by_cases h10 : u < 10
    · rw [decDigits_one h10]
      have := digit_toNat u h10
      refine ⟨by simp [dval]; omega, ?_, by simp⟩
      intro c hc
      simp only [List.mem_cons, List.not_mem_nil, or_false] at hc
      subst hc
      omega
    · have ih := decDigits_facts f (u / 10) (by omega)
      have hd := digit_toNat (u % 10) (by omega)
      rw [decDigits, dif_neg h10]
      refine ⟨by rw [dval_snoc, ih.1, hd]; omega, ?_, by simp⟩
      intro c hc
      rcases List.mem_append.1 hc with hc | hc
      · exact ih.2.1 c hc
      · simp only [List.mem_cons, List.not_mem_nil, or_false] at hc
        subst hc
        omega
theorem decDigits_inj {u v : Nat} (h : decDigits u = decDigits v) : u = v := by
  rw [← (decDigits_facts (u + 1) u (Nat.lt_succ_self _)).1, h, (decDigits_facts (v + 1) v (Nat.lt_succ_self _)).1]
theorem decDigits_head (u : Nat) : ∃ c t, decDigits u = c :: t ∧ 48 ≤ c.toNat ∧ c.toNat ≤ 57 := by
  obtain ⟨_, h2, h3⟩ := decDigits_facts (u + 1) u (Nat.lt_succ_self _)
  cases hd : decDigits u with
  | nil => exact absurd hd h3
  | cons c t => exact ⟨c, t, rfl, (h2 c (by rw [hd]; simp)).1, (h2 c (by rw [hd]; simp)).2⟩

/-- How a number begins. -/
theorem itoa_head (n : Int) : ∃ c t, itoa n = c :: t ∧ ((n < 0 ∧ c = 45) ∨ (0 ≤ n ∧ 48 ≤ c.toNat ∧ c.toNat ≤ 57)) := by
  unfold itoa
  by_cases h : n < 0
  · rw [if_pos h]; exact ⟨45, _, rfl, Or.inl ⟨h, rfl⟩⟩
  · rw [if_neg h]
    obtain ⟨c, t, e, h1, h2⟩ := decDigits_head n.toNat
    exact ⟨c, t, e, Or.inr ⟨by omega, h1, h2⟩⟩
theorem itoa_inj {m n : Int} (h : itoa m = itoa n) : m = n := by
  obtain ⟨c, t, e1, h1⟩ := itoa_head m
  obtain ⟨d, u, e2, h2⟩ := itoa_head n
  have hcd : c = d := by rw [e1, e2] at h; exact (List.cons.inj h).1
  subst hcd
  unfold itoa at h
  rcases h1 with ⟨a1, b1⟩ | ⟨a1, b1⟩ <;> rcases h2 with ⟨a2, b2⟩ | ⟨a2, b2⟩
  · rw [if_pos a1, if_pos a2] at h
    have := decDigits_inj (List.cons.inj h).2
    omega
  · subst b1; simp at b2
  · subst b2; simp at b1
  · rw [if_neg (by omega), if_neg (by omega)] at h
    have := decDigits_inj h
    omega

theorem hexd_inj : ∀ (a b : Fin 16), hexd a.val = hexd b.val → a = b := by decide
theorem hexL_inj : ∀ (a b : List UInt8), hexL a = hexL b → a = b
  | [], [], _ => rfl
  | [], c :: l, h => by simp [hexL] at h
  | c :: l, [], h => by simp [hexL] at h
  | c :: l, d :: m, h => by
    simp only [hexL, List.cons.injEq] at h
    obtain ⟨h1, h2, h3⟩ := h
    have hc := c.toNat_lt
    have hd := d.toNat_lt
    have e1 := hexd_inj ⟨c.toNat / 16, by omega⟩ ⟨d.toNat / 16, by omega⟩ h1
    have e2 := hexd_inj ⟨c.toNat % 16, by omega⟩ ⟨d.toNat % 16, by omega⟩ h2
    simp only [Fin.mk.injEq] at e1 e2
    rw [UInt8.toNat_inj.1 (show c.toNat = d.toNat by omega), hexL_inj l m h3]

/-- What a right value is written as, kind by kind. -/
theorem litV_right {a : Val} (h : checkV a = 0) :
    (a.k = 0 ∧ a.n = 0 ∧ a.s.data.toList = [] ∧ litV a = [78, 85, 76, 76]) ∨
    (a.k = 1 ∧ (a.n = 0 ∧ litV a = [70, 65, 76, 83, 69] ∨ a.n = 1 ∧ litV a = [84, 82, 85, 69]) ∧ a.s.data.toList = []) ∨
    (a.k = 2 ∧ a.s.data.toList = [] ∧ litV a = itoa a.n) ∨
    (a.k = 3 ∧ a.n = 0 ∧ litV a = 39 :: (rep a.s.data.toList ++ [39])) ∨
    (a.k = 4 ∧ a.n = 0 ∧ litV a = 88 :: 39 :: (hexL a.s.data.toList ++ [39])) := by
  obtain ⟨hk, hr⟩ := checkV_zero h
  have hl : litV a = if a.k = 1 then (if a.n = 0 then [70, 65, 76, 83, 69] else [84, 82, 85, 69]) else if a.k = 2 then itoa a.n else if a.k = 3 then 39 :: (rep a.s.data.toList ++ [39]) else if a.k = 4 then 88 :: 39 :: (hexL a.s.data.toList ++ [39]) else [78, 85, 76, 76] := if_neg (by omega)
  simp only [Val.right, Bool.or_eq_true, Bool.and_eq_true, beq_iff_eq, List.isEmpty_iff] at hr
  rcases hr with ((⟨⟨h1, h2⟩, h3⟩ | ⟨⟨h1, h2⟩, h3⟩) | ⟨h1, h3⟩) | ⟨h1, h2⟩
  · refine Or.inl ⟨h1, h2, h3, ?_⟩
    rw [hl, if_neg (by omega), if_neg (by omega), if_neg (by omega), if_neg (by omega)]
  · refine Or.inr (Or.inl ⟨h1, ?_, h3⟩)
    rw [hl, if_pos h1]
    rcases h2 with h2 | h2
    · exact Or.inl ⟨h2, if_pos h2⟩
    · exact Or.inr ⟨h2, if_neg (by omega)⟩
  · refine Or.inr (Or.inr (Or.inl ⟨h1, h3, ?_⟩))
    rw [hl, if_neg (by omega), if_pos h1]
  · rcases h1 with h1 | h1
    · refine Or.inr (Or.inr (Or.inr (Or.inl ⟨h1, h2, ?_⟩)))
      rw [hl, if_neg (by omega), if_neg (by omega), if_pos h1]
    · refine Or.inr (Or.inr (Or.inr (Or.inr ⟨h1, h2, ?_⟩)))
      rw [hl, if_neg (by omega), if_neg (by omega), if_neg (by omega), if_pos h1]

theorem bytes_eq {a b : ByteArray} (h : a.data.toList = b.data.toList) : a = b := by
  obtain ⟨⟨x⟩⟩ := a
  obtain ⟨⟨y⟩⟩ := b
  simp only [] at h
  rw [h]
theorem val_eq {a b : Val} (h1 : a.k = b.k) (h2 : a.n = b.n) (h3 : a.s.data.toList = b.s.data.toList) : a = b := by
  have := bytes_eq h3
  cases a
  cases b
  simp_all

/-- How what is written begins: it tells the kind. -/
theorem litV_head {a : Val} (h : checkV a = 0) : ∃ c t, litV a = c :: t ∧ ((a.k = 0 ∧ c = 78) ∨ (a.k = 1 ∧ (c = 70 ∨ c = 84)) ∨ (a.k = 2 ∧ (c = 45 ∨ (48 ≤ c.toNat ∧ c.toNat ≤ 57))) ∨ (a.k = 3 ∧ c = 39) ∨ (a.k = 4 ∧ c = 88)) := by
  rcases litV_right h with ⟨h1, _, _, e⟩ | ⟨h1, ⟨_, e⟩ | ⟨_, e⟩, _⟩ | ⟨h1, _, e⟩ | ⟨h1, _, e⟩ | ⟨h1, _, e⟩
  · exact ⟨_, _, e, Or.inl ⟨h1, rfl⟩⟩
  · exact ⟨_, _, e, Or.inr (Or.inl ⟨h1, Or.inl rfl⟩)⟩
  · exact ⟨_, _, e, Or.inr (Or.inl ⟨h1, Or.inr rfl⟩)⟩
  · obtain ⟨c, t, e', hc⟩ := itoa_head a.n
    exact ⟨c, t, e.trans e', Or.inr (Or.inr (Or.inl ⟨h1, hc.imp (fun x => x.2) (fun x => x.2)⟩))⟩
  · exact ⟨_, _, e, Or.inr (Or.inr (Or.inr (Or.inl ⟨h1, rfl⟩)))⟩
  · exact ⟨_, _, e, Or.inr (Or.inr (Or.inr (Or.inr ⟨h1, rfl⟩)))⟩

theorem litV_inj {a b : Val} (ha : checkV a = 0) (hb : checkV b = 0) (h : litV a = litV b) : a = b := by
  obtain ⟨c, t, e1, h1⟩ := litV_head ha
  obtain ⟨d, u, e2, h2⟩ := litV_head hb
  have hcd : c = d := by rw [e1, e2] at h; exact (List.cons.inj h).1
  subst hcd
  have hk : a.k = b.k := by
    rcases h1 with ⟨p, rfl⟩ | ⟨p, rfl | rfl⟩ | ⟨p, rfl | hc⟩ | ⟨p, rfl⟩ | ⟨p, rfl⟩ <;> rcases h2 with ⟨q, hq⟩ | ⟨q, hq⟩ | ⟨q, hq⟩ | ⟨q, hq⟩ | ⟨q, hq⟩ <;> first | omega | (exfalso; revert hq; simp; done) | (exfalso; subst hq; simp at hc; done) | (exfalso; rcases hq with rfl | rfl <;> simp at hc; done)
  clear h1 h2 e1 e2
  rcases litV_right ha with ⟨h1, hn, hs, e⟩ | ⟨h1, ⟨hn, e⟩ | ⟨hn, e⟩, hs⟩ | ⟨h1, hs, e⟩ | ⟨h1, hn, e⟩ | ⟨h1, hn, e⟩ <;> rcases litV_right hb with ⟨g1, gn, gs, f⟩ | ⟨g1, ⟨gn, f⟩ | ⟨gn, f⟩, gs⟩ | ⟨g1, gs, f⟩ | ⟨g1, gn, f⟩ | ⟨g1, gn, f⟩ <;> first
    | omega
    | exact val_eq hk (by omega) (by rw [hs, gs])
    | (exfalso; rw [e, f] at h; simp at h; done)
    | exact val_eq hk (itoa_inj (by rw [← e, ← f]; exact h)) (by rw [hs, gs])
    | exact val_eq hk (by omega) (rep_inj _ _ (by rw [e, f] at h; exact (List.append_inj' (List.cons.inj h).2 rfl).1))
    | exact val_eq hk (by omega) (hexL_inj _ _ (by rw [e, f] at h; exact (List.append_inj' (List.cons.inj (List.cons.inj h).2).2 rfl).1))
end Go.Proofs.YtlhknlbofcflcaaDoor
