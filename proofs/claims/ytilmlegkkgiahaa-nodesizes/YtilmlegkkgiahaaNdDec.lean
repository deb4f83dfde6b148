/- What a load is, in plain words: it is read as a right node just if that node is written as it. No conditions. -/
import Derived.Test.YtilmlegkkgiahaaNdRead
namespace Go.Proofs.Ytilmlegkkgiahaa
open Go.RowKit Go.Lib
set_option linter.unusedVariables false

theorem p1_sound {l r : List UInt8} {a : Nat} (h : p1 l = some (a, r)) : l = UInt8.ofNat a :: r := by
  cases l with
  | nil => cases h
  | cons x t =>
    simp only [p1, Option.some.injEq, Prod.mk.injEq] at h
    obtain ⟨rfl, rfl⟩ := h
    simp
theorem p2_sound {l r : List UInt8} {a : Nat} (h : p2 l = some (a, r)) : l = le2 a ++ r := by
  match l, h with
  | x :: y :: t, h =>
    simp only [p2, Option.some.injEq, Prod.mk.injEq] at h
    obtain ⟨rfl, rfl⟩ := h
    have hx := UInt8.toNat_lt x
    have hy := UInt8.toNat_lt y
    have e1 : (x.toNat + 256 * y.toNat) % 256 = x.toNat := by omega
    have e2 : (x.toNat + 256 * y.toNat) / 256 = y.toNat := by omega
    simp [le2, e1, e2]
theorem tk_sound {n : Nat} {l a r : List UInt8} (h : tk n l = some (a, r)) : l = a ++ r := by
  unfold tk at h
  split at h
  · cases h; exact (List.take_append_drop n l).symm
  · cases h
theorem bind_some_of {α β : Type} {x : Option α} {f : α → Option β} {b : β} (h : x.bind f = some b) : ∃ a, x = some a ∧ f a = some b := by
  cases x with
  | none => cases h
  | some a => exact ⟨a, rfl, h⟩
theorem map_some_of {α β : Type} {x : Option α} {f : α → β} {b : β} (h : x.map f = some b) : ∃ a, x = some a ∧ f a = b := by
  cases x with
  | none => cases h
  | some a => exact ⟨a, rfl, Option.some.inj h⟩
theorem pKey_sound {l k r : List UInt8} (h : pKey l = some (k, r)) : l = UInt8.ofNat k.length :: (k ++ r) := by
  obtain ⟨⟨a, q⟩, h1, h2⟩ := bind_some_of h
  simp only at h2
  have e := tk_len h2
  rw [p1_sound h1, tk_sound h2, e]
theorem pCell_sound {l r : List UInt8} {c : Cl} (h : pCell l = some (c, r)) (hc : c.ok = true) : l = encCl c ++ r := by
  obtain ⟨⟨k, r1⟩, h1, h2⟩ := bind_some_of h
  obtain ⟨⟨s, r2⟩, h3, h4⟩ := bind_some_of h2
  simp only at h3 h4
  have hp := Cl.ok_parts hc
  split at h4
  · rename_i hs
    obtain ⟨⟨o, r3⟩, h5, h6⟩ := map_some_of h4
    simp only [Prod.mk.injEq] at h6
    obtain ⟨rfl, rfl⟩ := h6
    rw [pKey_sound h1, p2_sound h3, p2_sound h5]
    have ho : ¬ ((o : Int) = 0) := by
      intro e
      rcases hp.2 with ⟨_, _, q⟩ | ⟨q, _⟩
      · simp only [List.length_nil] at q; omega
      · simp only at q; omega
    unfold encCl
    simp only []
    rw [if_neg ho]
    simp
  · obtain ⟨⟨v, r3⟩, h5, h6⟩ := map_some_of h4
    simp only [Prod.mk.injEq] at h6
    obtain ⟨rfl, rfl⟩ := h6
    rw [pKey_sound h1, p2_sound h3, tk_sound h5]
    simp [encCl]
theorem pCells_sound : ∀ (n : Nat) (l r : List UInt8) (cs : List Cl), pCells n l = some (cs, r) → cs.all Cl.ok = true → l = encCells cs ++ r ∧ cs.length = n
  | 0, l, r, cs, h, _ => by
    simp only [pCells, Option.some.injEq, Prod.mk.injEq] at h
    obtain ⟨rfl, rfl⟩ := h
    exact ⟨rfl, rfl⟩
  | n + 1, l, r, cs, h, hc => by
    unfold pCells at h
    obtain ⟨⟨c, r1⟩, h1, h2⟩ := bind_some_of h
    obtain ⟨⟨t, r2⟩, h3, h4⟩ := map_some_of h2
    simp only [Prod.mk.injEq] at h4
    obtain ⟨rfl, rfl⟩ := h4
    simp only [List.all_cons, Bool.and_eq_true] at hc
    obtain ⟨e, el⟩ := pCells_sound n _ _ _ h3 hc.2
    refine ⟨?_, by simp [el]⟩
    rw [pCell_sound h1 hc.1]
    simp only at e
    rw [e]
    simp [encCells]
theorem pKids_sound : ∀ (n : Nat) (l r : List UInt8) (ks : List (List UInt8)) (ds : List Int), pKids n l = some ((ks, ds), r) → l = encKids ks ds ++ r ∧ ks.length = n ∧ ds.length = n
  | 0, l, r, ks, ds, h => by
    simp only [pKids, Option.some.injEq, Prod.mk.injEq] at h
    obtain ⟨⟨rfl, rfl⟩, rfl⟩ := h
    exact ⟨rfl, rfl, rfl⟩
  | n + 1, l, r, ks, ds, h => by
    unfold pKids at h
    obtain ⟨⟨k, r1⟩, h1, h2⟩ := bind_some_of h
    obtain ⟨⟨d, r2⟩, h3, h4⟩ := bind_some_of h2
    obtain ⟨⟨⟨t, u⟩, r3⟩, h5, h6⟩ := map_some_of h4
    simp only [Prod.mk.injEq] at h6
    obtain ⟨⟨rfl, rfl⟩, rfl⟩ := h6
    obtain ⟨e, e1, e2⟩ := pKids_sound n _ _ _ _ h5
    refine ⟨?_, by simp [e1], by simp [e2]⟩
    simp only at h3 e
    rw [pKey_sound h1, p2_sound h3, e]
    simp [encKids]
theorem ofNat1 : UInt8.ofNat 1 = 1 := rfl
theorem ofNat2 : UInt8.ofNat 2 = 2 := rfl
theorem pNode_sound {l r : List UInt8} {n : Nd} (h : pNode l = some (n, r)) (hr : n.right) : l = n.enc ++ r := by
  obtain ⟨⟨t, r0⟩, h1, h2⟩ := bind_some_of h
  simp only at h2
  rw [p1_sound h1]
  split at h2
  · rename_i ht
    subst ht
    obtain ⟨⟨c, r1⟩, h3, h4⟩ := bind_some_of h2
    obtain ⟨⟨cs, r2⟩, h5, h6⟩ := map_some_of h4
    simp only [Prod.mk.injEq] at h6
    obtain ⟨rfl, rfl⟩ := h6
    have hf := hr.1
    simp only [Nd.fields, if_true, Bool.and_eq_true] at hf
    obtain ⟨e, el⟩ := pCells_sound _ _ _ _ h5 hf.2.2.2.1
    simp only at e el
    rw [p2_sound h3, e, ofNat1]
    simp [Nd.enc, el]
  · split at h2
    · rename_i _ ht
      subst ht
      obtain ⟨⟨c, r1⟩, h3, h4⟩ := bind_some_of h2
      obtain ⟨⟨d, r2⟩, h5, h6⟩ := bind_some_of h4
      obtain ⟨⟨⟨ks, ds⟩, r3⟩, h7, h8⟩ := map_some_of h6
      simp only [Prod.mk.injEq] at h8
      obtain ⟨rfl, rfl⟩ := h8
      obtain ⟨e, e1, e2⟩ := pKids_sound _ _ _ _ _ h7
      simp only at e e1 h5
      rw [p2_sound h3, p2_sound h5, e, ofNat2]
      simp [Nd.enc, e1]
    · cases h2
theorem pNode_enc {n : Nd} (h : n.right) (r : List UInt8) : pNode (n.enc ++ r) = some (n, r) := by
  have hp := parse_enc h r
  cases hl : n.leaf with
  | true =>
    have e : n.enc ++ r = 1 :: (le2 n.cells.length ++ encCells n.cells ++ r) := by simp [Nd.enc, hl]
    rw [e] at hp ⊢
    unfold parse at hp
    unfold pNode pLeaf
    simp only [p1, Option.bind_some] at hp ⊢
    rw [if_pos (show (1 : UInt8).toNat = 1 from rfl)]
    rw [← hp]
    congr 1
  | false =>
    have e : n.enc ++ r = 2 :: (le2 n.keys.length ++ (le2 (n.kids.headD 0).toNat ++ encKids n.keys n.kids.tail) ++ r) := by simp [Nd.enc, hl]
    rw [e] at hp ⊢
    unfold parse at hp
    unfold pNode pInner
    simp only [p1, Option.bind_some] at hp ⊢
    rw [if_neg (show ¬ (2 : UInt8).toNat = 1 by decide), if_pos (show (2 : UInt8).toNat = 2 from rfl)]
    rw [← hp]
    congr 1
theorem all_noughts {r : List UInt8} (h : r.all (· == 0) = true) : r = List.replicate r.length 0 := by
  rw [List.eq_replicate_iff]
  refine ⟨rfl, fun b hb => ?_⟩
  have := List.all_eq_true.1 h b hb
  simpa using this
/-- A load that is read is what the node that is read is written as. -/
theorem decN_sound {l : List UInt8} {n : Nd} (h : decN l = some n) : n.right ∧ n.load = l := by
  unfold decN at h
  split at h
  · rename_i hl
    obtain ⟨⟨m, r⟩, h1, h2⟩ := bind_some_of h
    simp only at h2
    split at h2
    · rename_i hz
      cases h2
      obtain ⟨⟨m', r'⟩, h3, h4⟩ := bind_some_of h1
      simp only at h4
      split at h4
      · rename_i he
        cases h4
        have hr := (Nd.right_iff _).2 he
        have e := pNode_sound h3 hr
        refine ⟨hr, ?_⟩
        unfold Nd.load padTo
        have : 508 - n.enc.length = r.length := by rw [e] at hl; simp at hl; omega
        rw [this, ← all_noughts hz, e]
      · cases h4
    · cases h2
  · cases h
theorem decN_load {n : Nd} (h : n.right) : decN n.load = some n := by
  unfold decN
  rw [if_pos (Nd.load_len h)]
  unfold pDec Nd.load padTo
  rw [pNode_enc h]
  simp only [Option.bind_some]
  rw [if_pos ((Nd.right_iff n).1 h)]
  simp
theorem decN_iff {l : List UInt8} {n : Nd} : decN l = some n ↔ n.right ∧ n.load = l :=
  ⟨decN_sound, fun ⟨h, e⟩ => by rw [← e]; exact decN_load h⟩
end Go.Proofs.Ytilmlegkkgiahaa
