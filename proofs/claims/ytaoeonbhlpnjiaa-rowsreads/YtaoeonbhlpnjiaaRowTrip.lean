/- Plain mathematics of stored rows: both ways round, and what is cut off. No conditions. -/
import Derived.Test.YtaoeonbhlpnjiaaRowPlain
import Derived.Test.YtaoeonbhlpnjiaaMemBytes
namespace Go.Proofs.Ytaoeonbhlpnjiaa

theorem ofNat_toNat (c : UInt8) : UInt8.ofNat c.toNat = c := by simp
theorem toNat_small {n : Nat} (h : n < 256) : (UInt8.ofNat n).toNat = n := by
  rw [UInt8.toNat_ofNat']
  omega

/-- What the groups above leave for a number. -/
theorem above {n i : Nat} (h : n * 128 ^ i < 18446744073709551616) : (n / 128) * 128 ^ (i + 1) < 18446744073709551616 := by
  refine Nat.lt_of_le_of_lt ?_ h
  rw [Nat.pow_succ, Nat.mul_comm (128 ^ i) 128, ← Nat.mul_assoc]
  exact Nat.mul_le_mul_right _ (Nat.div_mul_le_self n 128)
theorem ninth {n i : Nat} (hi : i ≤ 9) (h : n * 128 ^ i < 18446744073709551616) : ¬ (i = 9 ∧ 2 ≤ n) := by
  rintro ⟨rfl, h2⟩
  have e : (128 : Nat) ^ 9 = 9223372036854775808 := by decide
  rw [e] at h
  have := Nat.mul_le_mul_right 9223372036854775808 h2
  omega

theorem numG_uv : ∀ (k n i : Nat) (t : List UInt8), n ≤ k → i ≤ 9 → n * 128 ^ i < 18446744073709551616 → (0 < i → n ≠ 0) → numG i (uv n ++ t) = .ok (n, t)
  | k, n, i, t, hk, hi, h, h0 => by
    have h9 := ninth hi h
    by_cases h1 : n < 128
    · rw [uv_one h1]
      have e := toNat_small (n := n) (by omega)
      show numG i (UInt8.ofNat n :: t) = _
      rw [numG_last (by rw [e]; omega) (by rw [e]; exact h1) (by rw [e]; intro hh; exact h0 hh.2 hh.1), e]
    · rw [uv_more (by omega)]
      have e := toNat_small (n := n % 128 + 128) (by omega)
      show numG i (UInt8.ofNat (n % 128 + 128) :: (uv (n / 128) ++ t)) = _
      have hi8 : i ≠ 9 := fun hh => h9 ⟨hh, by omega⟩
      rw [numG_more (by omega) (by rw [e]; omega)]
      cases k with
      | zero => omega
      | succ k =>
        rw [numG_uv k (n / 128) (i + 1) t (by omega) (by omega) (above h) (by omega)]
        simp only [e]
        congr 2
        omega
theorem numG_uv0 {n : Nat} (t : List UInt8) (h : n < 18446744073709551616) : numG 0 (uv n ++ t) = .ok (n, t) := numG_uv n n 0 t (Nat.le_refl _) (by omega) (by simpa using h) (by omega)

theorem numG_cut : ∀ (k n i j : Nat), n ≤ k → i ≤ 9 → n * 128 ^ i < 18446744073709551616 → j < (uv n).length → numG i ((uv n).take j) = .error 1
  | k, n, i, 0, hk, hi, h, hj => by simp [numG]
  | k, n, i, j + 1, hk, hi, h, hj => by
    have h9 := ninth hi h
    by_cases h1 : n < 128
    · rw [uv_one h1] at hj
      simp at hj
    · rw [uv_more (by omega)] at hj ⊢
      have e := toNat_small (n := n % 128 + 128) (by omega)
      have hi8 : i ≠ 9 := fun hh => h9 ⟨hh, by omega⟩
      rw [List.take_succ_cons, numG_more (by omega) (by rw [e]; omega)]
      cases k with
      | zero => omega
      | succ k =>
        rw [numG_cut k (n / 128) (i + 1) j (by omega) (by omega) (above h) (by simpa using hj)]
theorem numG_cut0 {n j : Nat} (h : n < 18446744073709551616) (hj : j < (uv n).length) : numG 0 ((uv n).take j) = .error 1 := numG_cut n n 0 j (Nat.le_refl _) (by omega) (by simpa using h) hj

theorem numG_back : ∀ (u : List UInt8) (i n : Nat) (r : List UInt8), numG i u = .ok (n, r) → u = uv n ++ r ∧ (0 < i → n ≠ 0)
  | [], i, n, r, h => by cases h
  | c :: u, i, n, r, h => by
    have hc := UInt8.toNat_lt c
    by_cases h1 : i = 9 ∧ 1 < c.toNat
    · rw [numG_great h1] at h; cases h
    · by_cases h2 : c.toNat < 128
      · by_cases h3 : c.toNat = 0 ∧ 0 < i
        · rw [numG_nought h3.1 h3.2] at h; cases h
        · rw [numG_last h1 h2 h3] at h
          cases h
          rw [uv_one h2, ofNat_toNat]
          exact ⟨rfl, fun hi h0 => h3 ⟨h0, hi⟩⟩
      · rw [numG_more h1 h2] at h
        cases hx : numG (i + 1) u with
        | error e => rw [hx] at h; cases h
        | ok x =>
          obtain ⟨m, q⟩ := x
          rw [hx] at h
          cases h
          obtain ⟨e1, e2⟩ := numG_back u (i + 1) m r hx
          have hm := e2 (by omega)
          refine ⟨?_, by omega⟩
          rw [uv_more (by omega)]
          have d1 : (c.toNat % 128 + 128 * m) / 128 = m := by omega
          have d2 : (c.toNat % 128 + 128 * m) % 128 + 128 = c.toNat := by omega
          rw [d1, d2, ofNat_toNat, e1]
          rfl

/-- A value as the program has it. -/
def InV (v : Val) : Prop := v.right = true ∧ -9223372036854775808 ≤ v.n ∧ v.n ≤ 9223372036854775807 ∧ v.s.size < 18446744073709551616
theorem empty_text {s : ByteArray} (h : s.data.toList = []) : s = ⟨#[]⟩ := by
  obtain ⟨⟨l⟩⟩ := s
  simp at h
  subst h
  rfl

theorem right_0 : (⟨0, 0, ⟨#[]⟩⟩ : Val).right = true := by decide
theorem text_list (s : ByteArray) : (⟨s.data.toList.toArray⟩ : ByteArray) = s := by
  obtain ⟨⟨l⟩⟩ := s
  rfl

theorem valW_bytes {a : Val} (t : List UInt8) (h : InV a) : valW (bytesW a ++ t) = .ok (a, t) := by
  obtain ⟨hr, h1, h2, hs⟩ := h
  obtain ⟨k, n, s⟩ := a
  simp only [] at h1 h2 hs
  rcases right_cases hr with h | h | h | h | h
  · obtain ⟨rfl, rfl⟩ : k = 0 ∧ n = 0 := ⟨h.1, h.2.1⟩
    obtain rfl := empty_text h.2.2
    rfl
  · obtain ⟨rfl, hn⟩ : k = 1 ∧ (n = 0 ∨ n = 1) := ⟨h.1, h.2.1⟩
    obtain rfl := empty_text h.2.2
    rcases hn with rfl | rfl <;> rfl
  · obtain rfl : k = 2 := h.1
    obtain rfl := empty_text h.2
    have e : bytesW ⟨2, n, ⟨#[]⟩⟩ ++ t = 2 :: (uv (zz n) ++ t) := by simp [bytesW, bodyW]
    rw [e]
    have c2 : (2 : UInt8).toNat = 2 := rfl
    simp only [valW, c2]
    rw [if_neg (by decide), if_neg (by decide), if_pos trivial, numG_uv0 t (zz_lt h1 h2)]
    simp only [unzz_zz]
  · obtain ⟨rfl, rfl⟩ : k = 3 ∧ n = 0 := h
    have e : bytesW ⟨3, 0, s⟩ ++ t = 3 :: (uv s.size ++ (s.data.toList ++ t)) := by simp [bytesW, bodyW]
    rw [e]
    have c2 : (3 : UInt8).toNat = 3 := rfl
    have hl : s.data.toList.length = s.size := by simp
    simp only [valW, c2]
    rw [if_neg (by decide), if_neg (by decide), if_neg (by decide), if_pos (by decide), numG_uv0 _ hs]
    simp only []
    rw [if_neg (by rw [List.length_append]; omega), ← hl, List.take_left, List.drop_left, text_list]
    rfl
  · obtain ⟨rfl, rfl⟩ : k = 4 ∧ n = 0 := h
    have e : bytesW ⟨4, 0, s⟩ ++ t = 4 :: (uv s.size ++ (s.data.toList ++ t)) := by simp [bytesW, bodyW]
    rw [e]
    have c2 : (4 : UInt8).toNat = 4 := rfl
    have hl : s.data.toList.length = s.size := by simp
    simp only [valW, c2]
    rw [if_neg (by decide), if_neg (by decide), if_neg (by decide), if_pos (by decide), numG_uv0 _ hs]
    simp only []
    rw [if_neg (by rw [List.length_append]; omega), ← hl, List.take_left, List.drop_left, text_list]
    rfl

theorem valW_cut {a : Val} {j : Nat} (h : InV a) (hj : j < (bytesW a).length) : valW ((bytesW a).take j) = .error 1 := by
  obtain ⟨hr, h1, h2, hs⟩ := h
  obtain ⟨k, n, s⟩ := a
  simp only [] at h1 h2 hs
  cases j with
  | zero => simp [valW]
  | succ j =>
    rcases right_cases hr with h | h | h | h | h
    · obtain rfl : k = 0 := h.1
      simp [bytesW, bodyW] at hj
    · obtain rfl : k = 1 := h.1
      have : j = 0 := by simp [bytesW, bodyW] at hj; omega
      subst this
      simp [bytesW, bodyW, valW]
    · obtain rfl : k = 2 := h.1
      have e : bytesW ⟨2, n, s⟩ = 2 :: uv (zz n) := by simp [bytesW, bodyW]
      rw [e] at hj ⊢
      have c2 : (2 : UInt8).toNat = 2 := rfl
      rw [List.take_succ_cons]
      simp only [valW, c2]
      rw [if_neg (by decide), if_neg (by decide), if_pos trivial, numG_cut0 (zz_lt h1 h2) (by simpa using hj)]
    all_goals
      have hl : s.data.toList.length = s.size := by simp
    · obtain rfl : k = 3 := h.1
      have e : bytesW ⟨3, n, s⟩ = 3 :: (uv s.size ++ s.data.toList) := by simp [bytesW, bodyW]
      rw [e] at hj ⊢
      have c2 : (3 : UInt8).toNat = 3 := rfl
      rw [List.take_succ_cons]
      simp only [valW, c2]
      rw [if_neg (by decide), if_neg (by decide), if_neg (by decide), if_pos (by decide)]
      by_cases hju : j < (uv s.size).length
      · rw [List.take_append_of_le_length (by omega), numG_cut0 hs hju]
      · rw [List.take_append, List.take_of_length_le (by omega), numG_uv0 _ hs]
        simp only []
        rw [if_pos]
        simp at hj ⊢
        omega
    · obtain rfl : k = 4 := h.1
      have e : bytesW ⟨4, n, s⟩ = 4 :: (uv s.size ++ s.data.toList) := by simp [bytesW, bodyW]
      rw [e] at hj ⊢
      have c2 : (4 : UInt8).toNat = 4 := rfl
      rw [List.take_succ_cons]
      simp only [valW, c2]
      rw [if_neg (by decide), if_neg (by decide), if_neg (by decide), if_pos (by decide)]
      by_cases hju : j < (uv s.size).length
      · rw [List.take_append_of_le_length (by omega), numG_cut0 hs hju]
      · rw [List.take_append, List.take_of_length_le (by omega), numG_uv0 _ hs]
        simp only []
        rw [if_pos]
        simp at hj ⊢
        omega

theorem size_mk (l : List UInt8) : (⟨l.toArray⟩ : ByteArray).size = l.length := by simp [ByteArray.size]
theorem valW_back {u : List UInt8} {v : Val} {r : List UInt8} (h : valW u = .ok (v, r)) : InV v ∧ u = bytesW v ++ r := by
  cases u with
  | nil => cases h
  | cons c u =>
    have hc := UInt8.toNat_lt c
    have ec : ∀ {m : Nat}, c.toNat = m → c = UInt8.ofNat m := fun h => by rw [← h, ofNat_toNat]
    simp only [valW] at h
    split at h
    · rename_i h0
      cases h
      refine ⟨⟨by decide, by decide, by decide, by decide⟩, ?_⟩
      rw [ec h0]; rfl
    · split at h
      · rename_i h0 h1
        cases u with
        | nil => cases h
        | cons d l =>
          simp only [] at h
          split at h
          · cases h
          · rename_i hd
            cases h
            rw [ec h1]
            have hdd : d.toNat = 0 ∨ d.toNat = 1 := by omega
            have ed : ∀ {m : Nat}, d.toNat = m → d = UInt8.ofNat m := fun h => by rw [← h, ofNat_toNat]
            rcases hdd with h | h
            · rw [ed h]; exact ⟨⟨by decide, by decide, by decide, by decide⟩, rfl⟩
            · rw [ed h]; exact ⟨⟨by decide, by decide, by decide, by decide⟩, rfl⟩
      · split at h
        · rename_i h0 h1 h2
          cases hx : numG 0 u with
          | error e => rw [hx] at h; cases h
          | ok x =>
            obtain ⟨n, q⟩ := x
            rw [hx] at h
            cases h
            have hn := numG_lt0 hx
            obtain ⟨e1, _⟩ := numG_back u 0 n r hx
            have hb := unzz_in hn
            refine ⟨⟨?_, hb.1, hb.2, (by decide : (⟨#[]⟩ : ByteArray).size < 18446744073709551616)⟩, ?_⟩
            · simp [Val.right]
            · rw [ec h2, e1]
              simp [bytesW, bodyW, zz_unzz]
        · split at h
          · rename_i h0 h1 h2 h34
            cases hx : numG 0 u with
            | error e => rw [hx] at h; cases h
            | ok x =>
              obtain ⟨n, q⟩ := x
              rw [hx] at h
              simp only [] at h
              split at h
              · cases h
              · rename_i hle
                cases h
                have hn := numG_lt0 hx
                obtain ⟨e1, _⟩ := numG_back u 0 n q hx
                have hs : (⟨(q.take n).toArray⟩ : ByteArray).size = n := by
                  rw [size_mk, List.length_take]
                  omega
                refine ⟨⟨?_, by simp, by simp, by rw [hs]; exact hn⟩, ?_⟩
                · rcases h34 with h | h <;> rw [h] <;> simp [Val.right]
                · have hk : (c.toNat : Int).toNat = c.toNat := by simp
                  have e : bytesW ⟨(c.toNat : Int), 0, ⟨(q.take n).toArray⟩⟩ = c :: (uv n ++ q.take n) := by
                    unfold bytesW bodyW
                    rw [hs]
                    rcases h34 with h | h <;> (simp only [h]; rw [ec h]; rfl)
                  rw [e, e1, List.cons_append, List.append_assoc, List.take_append_drop]
          · cases h

theorem rowG_flat : ∀ (xs : List Val) (t : List UInt8), (∀ v ∈ xs, InV v) → rowG xs.length (flatW xs ++ t) = .ok (xs, t)
  | [], t, _ => rfl
  | a :: xs, t, h => by
    simp only [flatW, List.length_cons, List.append_assoc]
    rw [rowG, valW_bytes _ (h a List.mem_cons_self)]
    simp only []
    rw [rowG_flat xs t (fun v hv => h v (List.mem_cons_of_mem _ hv))]
theorem rowG_cut : ∀ (xs : List Val) (j : Nat), (∀ v ∈ xs, InV v) → j < (flatW xs).length → rowG xs.length ((flatW xs).take j) = .error 1
  | [], j, _, hj => by simp [flatW] at hj
  | a :: xs, j, h, hj => by
    simp only [flatW, List.length_cons] at hj ⊢
    have ha := h a List.mem_cons_self
    by_cases hja : j < (bytesW a).length
    · rw [List.take_append_of_le_length (by omega), rowG, valW_cut ha hja]
    · rw [List.take_append, List.take_of_length_le (by omega), rowG, valW_bytes _ ha]
      simp only []
      rw [rowG_cut xs _ (fun v hv => h v (List.mem_cons_of_mem _ hv)) (by rw [List.length_append] at hj; omega)]
theorem rowG_back : ∀ (m : Nat) (u : List UInt8) (vs : List Val) (q : List UInt8), rowG m u = .ok (vs, q) → (∀ v ∈ vs, InV v) ∧ vs.length = m ∧ u = flatW vs ++ q
  | 0, u, vs, q, h => by cases h; simp [flatW]
  | m + 1, u, vs, q, h => by
    rw [rowG] at h
    cases hv : valW u with
    | error e => rw [hv] at h; cases h
    | ok x =>
      obtain ⟨v, r⟩ := x
      rw [hv] at h
      simp only [] at h
      obtain ⟨h1, h2⟩ := valW_back hv
      cases hx : rowG m r with
      | error e => rw [hx] at h; cases h
      | ok x =>
        obtain ⟨ws, q'⟩ := x
        rw [hx] at h
        cases h
        obtain ⟨e1, e2, e3⟩ := rowG_back m r ws q hx
        refine ⟨fun w hw => ?_, by simp [e2], ?_⟩
        · rcases List.mem_cons.1 hw with rfl | hw
          · exact h1
          · exact e1 w hw
        · rw [h2, e3]
          simp [flatW]

theorem readW_enc {xs : List Val} (t : List UInt8) (h : ∀ v ∈ xs, InV v) (hl : xs.length < 18446744073709551616) : readW (encW xs ++ t) = .ok (xs, t) := by
  unfold readW encW
  rw [List.append_assoc, numG_uv0 _ hl]
  exact rowG_flat xs t h
theorem decW_enc {xs : List Val} (t : List UInt8) (h : ∀ v ∈ xs, InV v) (hl : (encW xs ++ t).length ≤ 2048) : decW (encW xs ++ t) = if t = [] then .ok xs else .error 6 := by
  have hlen : xs.length < 18446744073709551616 := by
    have : ∀ ys : List Val, ys.length ≤ (flatW ys).length := by
      intro ys
      induction ys with
      | nil => simp
      | cons a ys ih => simp only [flatW, bytesW, List.length_cons, List.length_append]; omega
    have := this xs
    simp only [encW, List.length_append] at hl
    omega
  unfold decW
  rw [if_neg (by omega), readW_enc t h hlen]
  rfl
theorem flatW_long : ∀ ys : List Val, ys.length ≤ (flatW ys).length
  | [] => Nat.le_refl _
  | a :: ys => by
    have := flatW_long ys
    simp only [flatW, bytesW, List.length_cons, List.length_append]
    omega
theorem decW_cut {xs : List Val} {j : Nat} (h : ∀ v ∈ xs, InV v) (hl : (encW xs).length ≤ 2048) (hj : j < (encW xs).length) : decW ((encW xs).take j) = .error 1 := by
  have hlen : xs.length < 18446744073709551616 := by
    have := flatW_long xs
    simp only [encW, List.length_append] at hl
    omega
  have hsmall : ¬ 2048 < ((encW xs).take j).length := by
    rw [List.length_take]
    omega
  unfold decW
  rw [if_neg hsmall]
  have : readW ((encW xs).take j) = .error 1 := by
    unfold readW
    unfold encW at hj ⊢
    by_cases hju : j < (uv xs.length).length
    · rw [List.take_append_of_le_length (by omega), numG_cut0 hlen hju]
    · rw [List.take_append, List.take_of_length_le (by omega), numG_uv0 _ hlen]
      exact rowG_cut xs _ h (by rw [List.length_append] at hj; omega)
  rw [this]
  rfl
theorem decW_back {l : List UInt8} {xs : List Val} (h : decW l = .ok xs) : (∀ v ∈ xs, InV v) ∧ encW xs = l ∧ l.length ≤ 2048 := by
  unfold decW at h
  split at h
  · cases h
  · rename_i hb
    cases hx : readW l with
    | error e => rw [hx] at h; cases h
    | ok x =>
      obtain ⟨ws, q⟩ := x
      rw [hx] at h
      simp only [closeW] at h
      split at h
      · rename_i hq
        cases h
        subst hq
        unfold readW at hx
        cases hy : numG 0 l with
        | error e => rw [hy] at hx; cases hx
        | ok y =>
          obtain ⟨m, r⟩ := y
          rw [hy] at hx
          obtain ⟨e1, e2, e3⟩ := rowG_back m r xs [] hx
          obtain ⟨e4, _⟩ := numG_back l 0 m r hy
          refine ⟨e1, ?_, by omega⟩
          unfold encW
          rw [e2, e4, e3, List.append_nil]
      · cases h

theorem bulk_enc : ∀ xs : List Val, (∀ v ∈ xs, v.right = true) → bulkR xs ≤ (flatW xs).length
  | [], _ => Nat.le_refl _
  | a :: xs, h => by
    have ih := bulk_enc xs (fun v hv => h v (List.mem_cons_of_mem _ hv))
    have ha : a.s.size + 1 ≤ (bytesW a).length := by
      have hl : a.s.data.toList.length = a.s.size := by simp
      unfold bytesW bodyW
      rcases right_cases (h a List.mem_cons_self) with h | h | h | h | h
      · have : a.s.size = 0 := by rw [← hl, h.2.2]; rfl
        simp [h.1, this]
      · have : a.s.size = 0 := by rw [← hl, h.2.2]; rfl
        simp [h.1, this]
      · have : a.s.size = 0 := by rw [← hl, h.2]; rfl
        simp [h.1, this]
      · simp [h.1]
      · simp [h.1]
    simp only [flatW, bulkR, List.length_append]
    omega
theorem bulk_dec {l : List UInt8} {xs : List Val} (h : decW l = .ok xs) : bulkR xs ≤ 2048 := by
  obtain ⟨h1, h2, h3⟩ := decW_back h
  have := bulk_enc xs (fun v hv => (h1 v hv).1)
  rw [← h2] at h3
  simp only [encW, List.length_append] at h3
  omega

/-- Of rows that differ none's bytes are the beginning of another one's. -/
theorem apart {a b : List Val} (ha : ∀ v ∈ a, InV v) (hb : ∀ v ∈ b, InV v) (la : a.length < 18446744073709551616) (lb : b.length < 18446744073709551616) {n : Nat} (hn : n = min (encW a).length (encW b).length) :
    (encW a).take n = (encW b).take n ↔ a = b := by
  constructor
  · intro h
    subst hn
    rcases Nat.le_total (encW a).length (encW b).length with hl | hl
    · rw [Nat.min_eq_left hl, List.take_length] at h
      have e : encW b = encW a ++ (encW b).drop (encW a).length := by
        conv => lhs; rw [← List.take_append_drop (encW a).length (encW b), ← h]
      have r1 := readW_enc (xs := b) [] hb lb
      rw [List.append_nil, e, readW_enc _ ha la] at r1
      simp only [Except.ok.injEq, Prod.mk.injEq] at r1
      exact r1.1
    · rw [Nat.min_eq_right hl, List.take_length] at h
      have e : encW a = encW b ++ (encW a).drop (encW b).length := by
        conv => lhs; rw [← List.take_append_drop (encW b).length (encW a), h]
      have r1 := readW_enc (xs := a) [] ha la
      rw [List.append_nil, e, readW_enc _ hb lb] at r1
      simp only [Except.ok.injEq, Prod.mk.injEq] at r1
      exact r1.1.symm
  · rintro rfl
    rfl
end Go.Proofs.Ytaoeonbhlpnjiaa
