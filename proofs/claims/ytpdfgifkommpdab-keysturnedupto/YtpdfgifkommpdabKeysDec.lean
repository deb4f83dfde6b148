/- Plain mathematics of keys: how bytes are read as values and rows. No conditions. -/
import Derived.Test.YtpdfgifkommpdabKeysPlain
namespace Go.Proofs.Ytpdfgifkommpdab

/-- The number that bytes are, the highest first. -/
def numN (l : List UInt8) : Nat := l.foldl (fun a c => a * 256 + c.toNat) 0
theorem numN_snoc (l : List UInt8) (c : UInt8) : numN (l ++ [c]) = numN l * 256 + c.toNat := by simp [numN, List.foldl_append]
theorem foldN : ∀ (l : List UInt8) (a : Nat), l.foldl (fun a c => a * 256 + c.toNat) a < (a + 1) * 256 ^ l.length
  | [], a => by simp
  | c :: l, a => by
    have h := foldN l (a * 256 + c.toNat)
    have hc := UInt8.toNat_lt c
    simp only [List.foldl_cons, List.length_cons]
    refine Nat.lt_of_lt_of_le h ?_
    rw [Nat.pow_succ, Nat.mul_comm (256 ^ l.length) 256, ← Nat.mul_assoc]
    exact Nat.mul_le_mul_right _ (by omega)
theorem numN_lt (l : List UInt8) : numN l < 256 ^ l.length := by
  have := foldN l 0
  simpa [numN] using this

/-- A text at the front of bytes, and what is left; or the error. -/
def textD : List UInt8 → Except Int (List UInt8 × List UInt8)
  | [] => .error 1
  | [c] => if c = 0 then .error 1 else .error 1
  | c :: d :: l => if c = 0 then (if d = 1 then .ok ([], l) else if d = 255 then (match textD l with | .ok r => .ok (0 :: r.1, r.2) | .error e => .error e) else .error 3)
      else (match textD (d :: l) with | .ok r => .ok (c :: r.1, r.2) | .error e => .error e)

/-- With what was read ahead. -/
def ahead (pre : List UInt8) : Except Int (List UInt8 × List UInt8) → Except Int (List UInt8 × List UInt8)
  | .ok r => .ok (pre ++ r.1, r.2)
  | .error e => .error e
theorem ahead_nil (x : Except Int (List UInt8 × List UInt8)) : ahead [] x = x := by cases x <;> rfl
theorem ahead_snoc (pre : List UInt8) (c : UInt8) (x : Except Int (List UInt8 × List UInt8)) : ahead pre (match x with | .ok r => .ok (c :: r.1, r.2) | .error e => .error e) = ahead (pre ++ [c]) x := by
  cases x <;> simp [ahead]
theorem textD_one (c : UInt8) (l : List UInt8) (h : c ≠ 0) : textD (c :: l) = ahead [c] (textD l) := by
  cases l with
  | nil => simp [textD, ahead]
  | cons d l =>
    conv => lhs; unfold textD
    rw [if_neg h]
    cases textD (d :: l) <;> rfl
theorem textD_end (l : List UInt8) : textD (0 :: 1 :: l) = .ok ([], l) := by simp [textD]
theorem textD_zero (l : List UInt8) : textD (0 :: 255 :: l) = ahead [0] (textD l) := by
  conv => lhs; unfold textD
  simp
  cases textD l <;> rfl
theorem textD_short : textD [0] = .error 1 := by simp [textD]
theorem textD_bad (d : UInt8) (l : List UInt8) (h1 : d ≠ 1) (h2 : d ≠ 255) : textD (0 :: d :: l) = .error 3 := by
  unfold textD
  simp [h1, h2]
theorem ahead_ahead (a b : List UInt8) (x : Except Int (List UInt8 × List UInt8)) : ahead a (ahead b x) = ahead (a ++ b) x := by cases x <;> simp [ahead]

/-- A value at the front of bytes, and what is left; or the error. -/
def valD : List UInt8 → Except Int (Val × List UInt8)
  | [] => .error 1
  | c :: u =>
    if c.toNat = 1 then .ok (⟨0, 0, ⟨#[]⟩⟩, u)
    else if c.toNat = 2 then (match u with | [] => .error 1 | d :: r => if 1 < d.toNat then .error 3 else .ok (⟨1, (d.toNat : Int), ⟨#[]⟩⟩, r))
    else if c.toNat = 3 then (if u.length < 8 then .error 1 else .ok (⟨2, (numN (u.take 8) : Int) - 9223372036854775808, ⟨#[]⟩⟩, u.drop 8))
    else if c.toNat = 4 ∨ c.toNat = 5 then (match textD u with | .ok r => .ok (⟨(c.toNat : Int) - 1, 0, ⟨r.1.toArray⟩⟩, r.2) | .error e => .error e)
    else .error 5

/-- What is left is a part at the end. -/
theorem textD_rest : ∀ (n : Nat) (u : List UInt8), u.length ≤ n → ∀ r, textD u = .ok r → ∃ k, r.2 = u.drop k ∧ k ≤ u.length ∧ r.1.length + 2 ≤ k
  | 0, u, hn, r, h => by
    obtain rfl : u = [] := List.length_eq_zero_iff.1 (by omega)
    simp [textD] at h
  | n + 1, [], hn, r, h => by simp [textD] at h
  | n + 1, c :: u, hn, r, h => by
    by_cases hc : c = 0
    · subst hc
      cases u with
      | nil => rw [textD_short] at h; cases h
      | cons d l =>
        by_cases h1 : d = 1
        · subst h1
          rw [textD_end] at h
          cases h
          exact ⟨2, rfl, by simp, by simp⟩
        · by_cases h2 : d = 255
          · subst h2
            rw [textD_zero] at h
            cases hx : textD l with
            | error e => rw [hx] at h; cases h
            | ok x =>
              rw [hx] at h
              obtain ⟨k, e1, e2, e3⟩ := textD_rest n l (by simp at hn; omega) x hx
              cases h
              exact ⟨k + 2, by simpa using e1, by simp; omega, by simp; omega⟩
          · rw [textD_bad d l h1 h2] at h; cases h
    · rw [textD_one c u hc] at h
      cases hx : textD u with
      | error e => rw [hx] at h; cases h
      | ok x =>
        rw [hx] at h
        obtain ⟨k, e1, e2, e3⟩ := textD_rest n u (by simpa using hn) x hx
        cases h
        exact ⟨k + 1, by simpa using e1, by simp; omega, by simp; omega⟩

theorem valD_rest (u : List UInt8) (v : Val) (r : List UInt8) (h : valD u = .ok (v, r)) : ∃ k, r = u.drop k ∧ k ≤ u.length ∧ 1 ≤ k ∧ v.s.size + 1 ≤ k := by
  cases u with
  | nil => simp [valD] at h
  | cons c u =>
    simp only [valD] at h
    split at h
    · cases h; exact ⟨1, rfl, by simp, by simp, (by decide : (⟨#[]⟩ : ByteArray).size + 1 ≤ 1)⟩
    · split at h
      · cases u with
        | nil => cases h
        | cons d l =>
          simp only [] at h
          split at h
          · cases h
          · cases h; exact ⟨2, rfl, by simp, by simp, (by decide : (⟨#[]⟩ : ByteArray).size + 1 ≤ 2)⟩
      · split at h
        · split at h
          · cases h
          · cases h; exact ⟨9, rfl, by simp; omega, by simp, (by decide : (⟨#[]⟩ : ByteArray).size + 1 ≤ 9)⟩
        · split at h
          · cases hx : textD u with
            | error e => rw [hx] at h; cases h
            | ok x =>
              rw [hx] at h
              obtain ⟨k, e1, e2, e3⟩ := textD_rest u.length u (Nat.le_refl _) x hx
              cases h
              refine ⟨k + 1, by simpa using e1, by simp; omega, by simp, ?_⟩
              simp [ByteArray.size]
              omega
          · cases h

/-- A row that bytes are, or the error; so many places at most. -/
def decR : Nat → List UInt8 → List Bool → Except Int (List Val)
  | _, [], _ => .ok []
  | 0, _ :: _, _ => .error 0
  | n + 1, c :: l, ds => match valD ((c :: l).map (tb (ds.headD false))) with
    | .error e => .error e
    | .ok (v, r) => match decR n (r.map (tb (ds.headD false))) ds.tail with
      | .error e => .error e
      | .ok vs => .ok (v :: vs)

theorem map_tb_tb (t : Bool) (l : List UInt8) : (l.map (tb t)).map (tb t) = l := by
  rw [List.map_map]
  conv => rhs; rw [← List.map_id l]
  exact List.map_congr_left (fun c _ => tb_tb t c)

/-- So many places are enough. -/
theorem decR_fuel : ∀ (n m : Nat) (l : List UInt8) (ds : List Bool), l.length ≤ n → l.length ≤ m → decR n l ds = decR m l ds
  | n, m, [], ds, _, _ => by cases n <;> cases m <;> rfl
  | 0, m, c :: l, ds, h, _ => by simp at h
  | n + 1, 0, c :: l, ds, _, h => by simp at h
  | n + 1, m + 1, c :: l, ds, hn, hm => by
    unfold decR
    cases hv : valD ((c :: l).map (tb (ds.headD false))) with
    | error e => rfl
    | ok x =>
      obtain ⟨v, r⟩ := x
      obtain ⟨k, e1, e2, e3, _⟩ := valD_rest _ _ _ hv
      have hr : r.length ≤ l.length := by rw [e1]; simp; omega
      simp only []
      rw [decR_fuel n m (r.map (tb (ds.headD false))) ds.tail (by simp at hn ⊢; omega) (by simp at hm ⊢; omega)]

/-- The row that bytes are, or the error. -/
def decL (l : List UInt8) (ds : List Bool) : Except Int (List Val) := decR l.length l ds
theorem decL_nil (ds : List Bool) : decL [] ds = .ok [] := rfl
theorem decL_bad (l : List UInt8) (ds : List Bool) (e : Int) (hl : l ≠ []) (h : valD (l.map (tb (ds.headD false))) = .error e) : decL l ds = .error e := by
  cases l with
  | nil => exact absurd rfl hl
  | cons c l =>
    unfold decL decR
    simp only [List.length_cons]
    rw [h]
theorem decL_ok (l : List UInt8) (ds : List Bool) (v : Val) (r : List UInt8) (hl : l ≠ []) (h : valD (l.map (tb (ds.headD false))) = .ok (v, r)) :
    decL l ds = match decL (r.map (tb (ds.headD false))) ds.tail with | .error e => .error e | .ok vs => .ok (v :: vs) := by
  cases l with
  | nil => exact absurd rfl hl
  | cons c l =>
    obtain ⟨k, e1, e2, e3, _⟩ := valD_rest _ _ _ h
    have hr : r.length ≤ l.length := by rw [e1]; simp; omega
    conv => lhs; unfold decL decR
    simp only [List.length_cons]
    rw [h]
    simp only []
    rw [decR_fuel l.length (r.map (tb (ds.headD false))).length _ _ (by simpa using hr) (Nat.le_refl _)]
    rfl

/-- With values that were read ahead. -/
def upon (pre : List Val) : Except Int (List Val) → Except Int (List Val)
  | .ok vs => .ok (pre ++ vs)
  | .error e => .error e
theorem upon_nil (x : Except Int (List Val)) : upon [] x = x := by cases x <;> rfl
theorem upon_ok (pre : List Val) (l : List UInt8) (ds : List Bool) (v : Val) (r : List UInt8) (hl : l ≠ []) (h : valD (l.map (tb ((ds.drop pre.length).headD false))) = .ok (v, r)) :
    upon pre (decL l (ds.drop pre.length)) = upon (pre ++ [v]) (decL (r.map (tb ((ds.drop pre.length).headD false))) (ds.drop (pre ++ [v]).length)) := by
  rw [decL_ok l _ v r hl h]
  have : (ds.drop pre.length).tail = ds.drop (pre ++ [v]).length := by simp
  rw [this]
  cases decL (r.map (tb ((ds.drop pre.length).headD false))) (ds.drop (pre ++ [v]).length) <;> simp [upon]
theorem upon_bad (pre : List Val) (l : List UInt8) (ds : List Bool) (e : Int) (hl : l ≠ []) (h : valD (l.map (tb ((ds.drop pre.length).headD false))) = .error e) : upon pre (decL l (ds.drop pre.length)) = .error e := by
  rw [decL_bad l _ e hl h]
  rfl
theorem head_drop (ds : List Bool) (k : Nat) : (ds.drop k).headD false = ds.getD k false := by
  simp [List.headD_eq_head?_getD, List.head?_drop, List.getD_eq_getElem?_getD]
end Go.Proofs.Ytpdfgifkommpdab
