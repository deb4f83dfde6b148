/- Plain mathematics of keys: a row is read from its bytes as it was; bytes that are a row are what that row is written as. Condition: right values, numbers within the numbers. -/
import Derived.Test.YtpdfgifkommpdabKeysOrd
import Derived.Test.YtpdfgifkommpdabKeysDec
namespace Go.Proofs.Ytpdfgifkommpdab
set_option linter.unusedVariables false

theorem textD_esc : ∀ (s r : List UInt8), textD (esc s ++ 0 :: 1 :: r) = .ok (s, r)
  | [], r => textD_end r
  | c :: s, r => by
    unfold esc
    split
    · rename_i h
      subst h
      show textD (0 :: 255 :: (esc s ++ 0 :: 1 :: r)) = _
      rw [textD_zero, textD_esc s r]
      rfl
    · rename_i h
      show textD (c :: (esc s ++ 0 :: 1 :: r)) = _
      rw [textD_one _ _ h, textD_esc s r]
      rfl
theorem numN_cons (c : UInt8) (l : List UInt8) : ∀ a, l.foldl (fun a c => a * 256 + c.toNat) a = a * 256 ^ l.length + numN l := by
  induction l with
  | nil => intro a; simp [numN]
  | cons d l ih =>
    intro a
    simp only [List.foldl_cons, numN, List.length_cons]
    rw [ih, ih]
    rw [Nat.pow_succ]
    simp only [Nat.zero_mul, Nat.zero_add, Nat.add_mul]
    rw [Nat.mul_assoc, Nat.mul_comm 256 (256 ^ l.length)]
    omega
theorem numN_be : ∀ (k n : Nat), numN (be k n) = n % 256 ^ k
  | 0, n => by simp [be, numN, Nat.mod_one]
  | k + 1, n => by
    unfold be
    have := numN_cons 0 (be k n) (UInt8.ofNat (n / 256 ^ k)).toNat
    simp only [numN, List.foldl_cons, Nat.zero_mul, Nat.zero_add]
    rw [this, numN_be k n, be_length]
    rw [Nat.pow_succ, Nat.mod_mul]
    simp
    rw [Nat.mul_comm]
    omega
theorem be_numN : ∀ (l : List UInt8), be l.length (numN l) = l := by
  have key : ∀ (l : List UInt8) (a : Nat), be l.length (a * 256 ^ l.length + numN l) = l := by
    intro l
    induction l with
    | nil => intro a; rfl
    | cons c l ih =>
      intro a
      have hn : numN (c :: l) = c.toNat * 256 ^ l.length + numN l := by
        have := numN_cons 0 l c.toNat
        simp only [numN, List.foldl_cons, Nat.zero_mul, Nat.zero_add]
        rw [this]
        rfl
      have hp : 0 < 256 ^ l.length := Nat.pow_pos (by decide)
      have hlt := numN_lt l
      simp only [List.length_cons, be]
      have e : a * 256 ^ (l.length + 1) + numN (c :: l) = (a * 256 + c.toNat) * 256 ^ l.length + numN l := by
        rw [hn, Nat.pow_succ, Nat.add_mul, Nat.mul_assoc, Nat.mul_comm (256 ^ l.length) 256]
        omega
      rw [e, ih (a * 256 + c.toNat)]
      congr 1
      rw [Nat.mul_comm, Nat.mul_add_div hp, Nat.div_eq_of_lt hlt]
      apply UInt8.toNat_inj.1
      have := UInt8.toNat_lt c
      simp
  intro l
  have := key l 0
  simpa using this

theorem valD_bytes (a : Val) (r : List UInt8) (ha : a.right = true) (na : InN a) : valD (bytesV a ++ r) = .ok (a, r) := by
  obtain ⟨k, n, s⟩ := a
  unfold InN at na
  simp only [] at na
  have hs : ∀ t : ByteArray, t.data.toList = [] → t = ⟨#[]⟩ := fun t h => bytes_ext h
  rcases right_cases ha with h | h | h | h | h
  · obtain ⟨rfl, rfl, h3⟩ : k = 0 ∧ n = 0 ∧ s.data.toList = [] := h
    obtain rfl := hs s h3
    simp [bytesV, bodyV, valD]
  · obtain ⟨rfl, hn, h3⟩ : k = 1 ∧ (n = 0 ∨ n = 1) ∧ s.data.toList = [] := h
    obtain rfl := hs s h3
    rcases hn with rfl | rfl <;> simp [bytesV, bodyV, valD]
  · obtain ⟨rfl, h3⟩ : k = 2 ∧ s.data.toList = [] := h
    obtain rfl := hs s h3
    have hl : (be 8 (n + 9223372036854775808).toNat).length = 8 := be_length _ _
    have hN := numN_be 8 (n + 9223372036854775808).toNat
    rw [Nat.mod_eq_of_lt (show _ < 18446744073709551616 by omega)] at hN
    have e : bytesV (⟨2, n, ⟨#[]⟩⟩ : Val) ++ r = 3 :: (be 8 (n + 9223372036854775808).toNat ++ r) := by simp [bytesV, bodyV]
    rw [e]
    generalize be 8 (n + 9223372036854775808).toNat = bb at *
    have h8 : ¬ (bb ++ r).length < 8 := by simp; omega
    have ht : (bb ++ r).take 8 = bb := by rw [← hl, List.take_left]
    have hd : (bb ++ r).drop 8 = r := by rw [← hl, List.drop_left]
    simp only [valD]
    rw [if_neg (by decide), if_neg (by decide), if_pos (by decide), if_neg h8, ht, hd, hN]
    congr 3
    omega
  · obtain ⟨rfl, rfl⟩ : k = 3 ∧ n = 0 := h
    have e : bytesV (⟨3, 0, s⟩ : Val) ++ r = 4 :: (esc s.data.toList ++ 0 :: 1 :: r) := by simp [bytesV, bodyV]
    rw [e]
    simp [valD, textD_esc]
  · obtain ⟨rfl, rfl⟩ : k = 4 ∧ n = 0 := h
    have e : bytesV (⟨4, 0, s⟩ : Val) ++ r = 5 :: (esc s.data.toList ++ 0 :: 1 :: r) := by simp [bytesV, bodyV]
    rw [e]
    simp [valD, textD_esc]

/-- BACK: a row is read from its bytes as it was. -/
theorem decL_encR : ∀ (xs : List Val) (ds : List Bool), (∀ v ∈ xs, v.right = true ∧ InN v) → decL (encR xs ds) ds = .ok xs
  | [], ds, _ => rfl
  | a :: xs, ds, hx => by
    have ih := decL_encR xs ds.tail (fun v h => hx v (List.mem_cons_of_mem _ h))
    have ha := hx a (List.mem_cons_self ..)
    have hne : encR (a :: xs) ds ≠ [] := by simp [encR, bytesV]
    have hv : valD ((encR (a :: xs) ds).map (tb (ds.headD false))) = .ok (a, (encR xs ds.tail).map (tb (ds.headD false))) := by
      simp only [encR, List.map_append]
      rw [map_tb_tb, valD_bytes a _ ha.1 ha.2]
    rw [decL_ok _ _ _ _ hne hv, map_tb_tb, ih]

theorem textD_back : ∀ (n : Nat) (u : List UInt8), u.length ≤ n → ∀ r, textD u = .ok r → u = esc r.1 ++ 0 :: 1 :: r.2
  | 0, u, hn, r, h => by
    obtain rfl : u = [] := List.length_eq_zero_iff.1 (by omega)
    simp [textD] at h
  | n + 1, [], hn, r, h => by simp [textD] at h
  | n + 1, c :: u, hn, r, h => by
    by_cases hc : c = 0
    · subst hc
      cases u with
      | nil => rw [textD_short] at h; cases h
      | cons d l =>
        by_cases h1 : d = 1
        · subst h1; rw [textD_end] at h; cases h; rfl
        · by_cases h2 : d = 255
          · subst h2
            rw [textD_zero] at h
            cases hx : textD l with
            | error e => rw [hx] at h; cases h
            | ok x =>
              rw [hx] at h
              have ih := textD_back n l (by simp at hn; omega) x hx
              cases h
              show 0 :: 255 :: l = esc (0 :: x.1) ++ 0 :: 1 :: x.2
              conv => lhs; rw [ih]
              simp [esc]
          · rw [textD_bad d l h1 h2] at h; cases h
    · rw [textD_one c u hc] at h
      cases hx : textD u with
      | error e => rw [hx] at h; cases h
      | ok x =>
        rw [hx] at h
        have ih := textD_back n u (by simpa using hn) x hx
        cases h
        show c :: u = esc (c :: x.1) ++ 0 :: 1 :: x.2
        conv => lhs; rw [ih]
        simp [esc, hc]

theorem u8_is {c : UInt8} {n : Nat} (h : c.toNat = n) : c = UInt8.ofNat n := by
  subst h
  simp
theorem valD_back (u : List UInt8) (v : Val) (r : List UInt8) (h : valD u = .ok (v, r)) : v.right = true ∧ InN v ∧ u = bytesV v ++ r := by
  cases u with
  | nil => simp [valD] at h
  | cons c u =>
    simp only [valD] at h
    split at h
    · rename_i h1
      cases h
      exact ⟨rfl, by unfold InN; simp, by rw [u8_is h1]; rfl⟩
    · split at h
      · rename_i h1 h2
        cases u with
        | nil => cases h
        | cons d l =>
          simp only [] at h
          split at h
          · cases h
          · rename_i hd
            cases h
            have hd' : d.toNat = 0 ∨ d.toNat = 1 := by omega
            refine ⟨?_, ?_, ?_⟩
            · rcases hd' with e | e <;> rw [e] <;> rfl
            · unfold InN
              simp only []
              omega
            · rw [u8_is h2]
              simp [bytesV, bodyV]
      · split at h
        · rename_i h1 h2 h3
          split at h
          · cases h
          · rename_i h8
            cases h
            have hlen : (u.take 8).length = 8 := by simp; omega
            have hN := numN_lt (u.take 8)
            rw [hlen] at hN
            have hN' : numN (u.take 8) < 18446744073709551616 := hN
            refine ⟨by simp [Val.right], ?_, ?_⟩
            · unfold InN
              simp only []
              omega
            · rw [u8_is h3]
              have e : bytesV (⟨2, (numN (u.take 8) : Int) - 9223372036854775808, ⟨#[]⟩⟩ : Val) = 3 :: be 8 ((numN (u.take 8) : Int) - 9223372036854775808 + 9223372036854775808).toNat := by simp [bytesV, bodyV]
              rw [e]
              have e2 : ((numN (u.take 8) : Int) - 9223372036854775808 + 9223372036854775808).toNat = numN (u.take 8) := by omega
              rw [e2]
              have e3 := be_numN (u.take 8)
              rw [hlen] at e3
              rw [e3]
              simp
        · split at h
          · rename_i h1 h2 h3 h4
            cases hx : textD u with
            | error e => rw [hx] at h; cases h
            | ok x =>
              rw [hx] at h
              have hb := textD_back u.length u (Nat.le_refl _) x hx
              cases h
              rcases h4 with h4 | h4
              · refine ⟨by rw [h4]; rfl, by unfold InN; simp, ?_⟩
                rw [h4, u8_is h4]
                conv => lhs; rw [hb]
                simp [bytesV, bodyV]
              · refine ⟨by rw [h4]; rfl, by unfold InN; simp, ?_⟩
                rw [h4, u8_is h4]
                conv => lhs; rw [hb]
                simp [bytesV, bodyV]
          · cases h

/-- AND BACK: bytes that are a row are what that row is written as. -/
theorem decR_back : ∀ (n : Nat) (l : List UInt8) (ds : List Bool) (xs : List Val), decR n l ds = .ok xs → (∀ v ∈ xs, v.right = true ∧ InN v) ∧ encR xs ds = l ∧ bulkR xs ≤ l.length
  | n, [], ds, xs, h => by
    have : decR n [] ds = .ok [] := by cases n <;> rfl
    rw [this] at h
    cases h
    exact ⟨by simp, rfl, Nat.le_refl _⟩
  | 0, c :: l, ds, xs, h => by cases h
  | n + 1, c :: l, ds, xs, h => by
    unfold decR at h
    cases hv : valD ((c :: l).map (tb (ds.headD false))) with
    | error e => rw [hv] at h; cases h
    | ok x =>
      obtain ⟨v, r⟩ := x
      rw [hv] at h
      simp only [] at h
      obtain ⟨k, e1, e2, e3, e4⟩ := valD_rest _ _ _ hv
      obtain ⟨b1, b2, b3⟩ := valD_back _ _ _ hv
      cases hx : decR n (r.map (tb (ds.headD false))) ds.tail with
      | error e => rw [hx] at h; cases h
      | ok ws =>
        rw [hx] at h
        obtain ⟨i1, i2, i3⟩ := decR_back n _ _ ws hx
        cases h
        refine ⟨?_, ?_, ?_⟩
        · intro a ha
          rcases List.mem_cons.1 ha with rfl | ha
          · exact ⟨b1, b2⟩
          · exact i1 a ha
        · simp only [encR]
          rw [i2, ← List.map_append, ← b3, map_tb_tb]
        · simp only [bulkR]
          have hr : r.length + k = (c :: l).length := by
            have := congrArg List.length e1
            simp only [List.length_drop, List.length_map] at this e2
            omega
          simp only [List.length_map] at i3
          omega
theorem decL_back (l : List UInt8) (ds : List Bool) (xs : List Val) (h : decL l ds = .ok xs) : (∀ v ∈ xs, v.right = true ∧ InN v) ∧ encR xs ds = l ∧ bulkR xs ≤ l.length := decR_back _ _ _ _ h
end Go.Proofs.Ytpdfgifkommpdab
