/- Plain mathematics of stored rows: the bytes of numbers, values and rows, and how they are read; no program is named here. No conditions. -/
import Derived.Test.YtaoeonbhlpnjiaaKeysPlain
namespace Go.Proofs.Ytaoeonbhlpnjiaa

/-- A number without sign: groups of seven bits, the lowest first. -/
def uv (n : Nat) : List UInt8 := if n < 128 then [UInt8.ofNat n] else UInt8.ofNat (n % 128 + 128) :: uv (n / 128)
theorem uv_one {n : Nat} (h : n < 128) : uv n = [UInt8.ofNat n] := by rw [uv, if_pos h]
theorem uv_more {n : Nat} (h : 128 ≤ n) : uv n = UInt8.ofNat (n % 128 + 128) :: uv (n / 128) := by rw [uv, if_neg (by omega)]
theorem uv_pos (n : Nat) : 0 < (uv n).length := by
  by_cases h : n < 128
  · rw [uv_one h]; simp
  · rw [uv_more (by omega)]; simp
theorem uv_len : ∀ (k n : Nat), n < 128 ^ (k + 1) → (uv n).length ≤ k + 1
  | 0, n, h => by rw [uv_one (by simpa using h)]; simp
  | k + 1, n, h => by
    by_cases h1 : n < 128
    · rw [uv_one h1]; simp
    · rw [uv_more (by omega)]
      have : n / 128 < 128 ^ (k + 1) := by
        rw [Nat.pow_succ] at h
        exact Nat.div_lt_of_lt_mul (by rw [Nat.mul_comm]; exact h)
      have := uv_len k (n / 128) this
      simp; omega
theorem uv_len10 {n : Nat} (h : n < 18446744073709551616) : (uv n).length ≤ 10 :=
  uv_len 9 n (Nat.lt_of_lt_of_le h (show (18446744073709551616 : Nat) ≤ 128 ^ 10 by decide))
/-- A number with sign as one without. -/
def zz (n : Int) : Nat := if 0 ≤ n then (2 * n).toNat else (-2 * n - 1).toNat
def unzz (n : Nat) : Int := if n % 2 = 0 then ((n / 2 : Nat) : Int) else -((n / 2 : Nat) : Int) - 1
theorem unzz_zz (n : Int) : unzz (zz n) = n := by
  unfold unzz zz
  split <;> split <;> omega
theorem zz_unzz (n : Nat) : zz (unzz n) = n := by
  unfold unzz zz
  split <;> split <;> omega
theorem zz_lt {n : Int} (h1 : -9223372036854775808 ≤ n) (h2 : n ≤ 9223372036854775807) : zz n < 18446744073709551616 := by
  unfold zz
  split <;> omega
theorem unzz_in {n : Nat} (h : n < 18446744073709551616) : -9223372036854775808 ≤ unzz n ∧ unzz n ≤ 9223372036854775807 := by
  unfold unzz
  split <;> omega

def bodyW (a : Val) : List UInt8 := if a.k = 1 then [UInt8.ofNat a.n.toNat] else if a.k = 2 then uv (zz a.n) else if a.k = 3 ∨ a.k = 4 then uv a.s.size ++ a.s.data.toList else []
/-- The bytes of a value. -/
def bytesW (a : Val) : List UInt8 := UInt8.ofNat a.k.toNat :: bodyW a
def flatW : List Val → List UInt8
  | [] => []
  | a :: xs => bytesW a ++ flatW xs
/-- The bytes of a row. -/
def encW (xs : List Val) : List UInt8 := uv xs.length ++ flatW xs
theorem flatW_append : ∀ xs ys : List Val, flatW (xs ++ ys) = flatW xs ++ flatW ys
  | [], ys => rfl
  | a :: xs, ys => by simp only [List.cons_append, flatW, flatW_append xs ys, List.append_assoc]
theorem flatW_snoc (xs : List Val) (a : Val) : flatW (xs ++ [a]) = flatW xs ++ bytesW a := by rw [flatW_append]; simp [flatW]

/-- A number at the front of bytes, from its group i on, and what is left; or the error. -/
def numG : Nat → List UInt8 → Except Int (Nat × List UInt8)
  | _, [] => .error 1
  | i, c :: u => if i = 9 ∧ 1 < c.toNat then .error 3 else if c.toNat < 128 then (if c.toNat = 0 ∧ 0 < i then .error 3 else .ok (c.toNat, u))
      else match numG (i + 1) u with
        | .ok (n, r) => .ok (c.toNat % 128 + 128 * n, r)
        | .error e => .error e
/-- With the groups that were read ahead. -/
def aheadN (N k : Nat) : Except Int (Nat × List UInt8) → Except Int (Nat × List UInt8)
  | .ok (n, r) => .ok (N + 128 ^ k * n, r)
  | .error e => .error e
theorem aheadN_zero (x : Except Int (Nat × List UInt8)) : aheadN 0 0 x = x := by
  cases x with
  | error e => rfl
  | ok x => simp [aheadN]
theorem numG_short (i : Nat) : numG i [] = .error 1 := rfl
theorem numG_great {i : Nat} {c : UInt8} {u : List UInt8} (h : i = 9 ∧ 1 < c.toNat) : numG i (c :: u) = .error 3 := by rw [numG, if_pos h]
theorem numG_nought {i : Nat} {c : UInt8} {u : List UInt8} (h : c.toNat = 0) (hi : 0 < i) : numG i (c :: u) = .error 3 := by rw [numG, if_neg (by omega), if_pos (by omega), if_pos ⟨h, hi⟩]
theorem numG_last {i : Nat} {c : UInt8} {u : List UInt8} (h1 : ¬ (i = 9 ∧ 1 < c.toNat)) (h : c.toNat < 128) (h0 : ¬ (c.toNat = 0 ∧ 0 < i)) : numG i (c :: u) = .ok (c.toNat, u) := by rw [numG, if_neg h1, if_pos h, if_neg h0]
theorem numG_more {i : Nat} {c : UInt8} {u : List UInt8} (h1 : ¬ (i = 9 ∧ 1 < c.toNat)) (h : ¬ c.toNat < 128) : numG i (c :: u) = match numG (i + 1) u with
        | .ok (n, r) => .ok (c.toNat % 128 + 128 * n, r)
        | .error e => .error e := by rw [numG, if_neg h1, if_neg h]
theorem ahead_more {i N : Nat} {c : UInt8} {u : List UInt8} (h1 : ¬ (i = 9 ∧ 1 < c.toNat)) (h : ¬ c.toNat < 128) : aheadN N i (numG i (c :: u)) = aheadN (N + 128 ^ i * (c.toNat % 128)) (i + 1) (numG (i + 1) u) := by
  rw [numG_more h1 h]
  cases numG (i + 1) u with
  | error e => rfl
  | ok x =>
    obtain ⟨n, r⟩ := x
    simp only [aheadN]
    rw [Nat.pow_succ, Nat.mul_add, Nat.mul_assoc, Nat.add_assoc]
theorem ahead_last {i N : Nat} {c : UInt8} {u : List UInt8} (h1 : ¬ (i = 9 ∧ 1 < c.toNat)) (h : c.toNat < 128) (h0 : ¬ (c.toNat = 0 ∧ 0 < i)) : aheadN N i (numG i (c :: u)) = .ok (N + 128 ^ i * c.toNat, u) := by
  rw [numG_last h1 h h0]; rfl

theorem pow128 (i : Nat) : 128 ^ i = 2 ^ (7 * i) := by rw [Nat.pow_mul]
set_option maxRecDepth 10000 in
theorem numG_lt : ∀ (u : List UInt8) (i : Nat) (n : Nat) (r : List UInt8), i ≤ 9 → numG i u = .ok (n, r) → n * 128 ^ i < 18446744073709551616
  | [], i, n, r, hi, h => by cases h
  | c :: u, i, n, r, hi, h => by
    have hi9 : i = 0 ∨ i = 1 ∨ i = 2 ∨ i = 3 ∨ i = 4 ∨ i = 5 ∨ i = 6 ∨ i = 7 ∨ i = 8 ∨ i = 9 := by omega
    by_cases h1 : i = 9 ∧ 1 < c.toNat
    · rw [numG_great h1] at h; cases h
    · by_cases h2 : c.toNat < 128
      · by_cases h3 : c.toNat = 0 ∧ 0 < i
        · rw [numG_nought h3.1 h3.2] at h; cases h
        · rw [numG_last h1 h2 h3] at h
          cases h
          rcases hi9 with rfl | rfl | rfl | rfl | rfl | rfl | rfl | rfl | rfl | rfl <;> simp only [Nat.reducePow] <;> omega
      · rw [numG_more h1 h2] at h
        cases hx : numG (i + 1) u with
        | error e => rw [hx] at h; cases h
        | ok x =>
          obtain ⟨m, q⟩ := x
          rw [hx] at h
          cases h
          have hi8 : i ≤ 8 := by
            have := UInt8.toNat_lt c
            omega
          have ih := numG_lt u (i + 1) m r (by omega) hx
          have hi8' : i = 0 ∨ i = 1 ∨ i = 2 ∨ i = 3 ∨ i = 4 ∨ i = 5 ∨ i = 6 ∨ i = 7 ∨ i = 8 := by omega
          have hd : c.toNat % 128 < 128 := Nat.mod_lt _ (by decide)
          generalize c.toNat % 128 = d at *
          clear h1 h2 hx hi9 hi hi8
          have key : ∀ K L : Nat, 18446744073709551616 = K * (128 * L) → m * (K * 128) < 18446744073709551616 → 0 < K → (d + 128 * m) * K < 18446744073709551616 := by
            intro K L hK hm h0
            rw [hK] at hm ⊢
            have h1 : m * 128 * K < 128 * L * K := by
              rw [Nat.mul_assoc, Nat.mul_comm 128 K, Nat.mul_comm (128 * L) K]
              exact hm
            have h2 : m * 128 < 128 * L := Nat.lt_of_mul_lt_mul_right h1
            have h3 : d + 128 * m < 128 * L := by omega
            have h4 := Nat.mul_lt_mul_of_pos_right h3 h0
            rw [Nat.mul_comm K (128 * L)]
            exact h4
          rw [Nat.pow_succ] at ih
          have hp : 0 < 128 ^ i := Nat.pow_pos (by decide)
          rcases hi8' with rfl | rfl | rfl | rfl | rfl | rfl | rfl | rfl | rfl
          · exact key _ 144115188075855872 (by decide) ih hp
          · exact key _ 1125899906842624 (by decide) ih hp
          · exact key _ 8796093022208 (by decide) ih hp
          · exact key _ 68719476736 (by decide) ih hp
          · exact key _ 536870912 (by decide) ih hp
          · exact key _ 4194304 (by decide) ih hp
          · exact key _ 32768 (by decide) ih hp
          · exact key _ 256 (by decide) ih hp
          · exact key _ 2 (by decide) ih hp
theorem numG_lt0 {u : List UInt8} {n : Nat} {r : List UInt8} (h : numG 0 u = .ok (n, r)) : n < 18446744073709551616 := by
  have := numG_lt u 0 n r (by omega) h
  simpa using this
theorem numG_err : ∀ (u : List UInt8) (i : Nat) (e : Int), numG i u = .error e → e ≠ 0
  | [], i, e, h => by cases h; decide
  | c :: u, i, e, h => by
    by_cases h1 : i = 9 ∧ 1 < c.toNat
    · rw [numG_great h1] at h; cases h; decide
    · by_cases h2 : c.toNat < 128
      · by_cases h3 : c.toNat = 0 ∧ 0 < i
        · rw [numG_nought h3.1 h3.2] at h; cases h; decide
        · rw [numG_last h1 h2 h3] at h; cases h
      · rw [numG_more h1 h2] at h
        cases hx : numG (i + 1) u with
        | error e' => rw [hx] at h; cases h; exact numG_err u (i + 1) _ hx
        | ok x => obtain ⟨m, q⟩ := x; rw [hx] at h; cases h
theorem numG_rest : ∀ (u : List UInt8) (i : Nat) (n : Nat) (r : List UInt8), numG i u = .ok (n, r) → ∃ k, r = u.drop k ∧ k ≤ u.length ∧ 1 ≤ k
  | [], i, n, r, h => by cases h
  | c :: u, i, n, r, h => by
    by_cases h1 : i = 9 ∧ 1 < c.toNat
    · rw [numG_great h1] at h; cases h
    · by_cases h2 : c.toNat < 128
      · by_cases h3 : c.toNat = 0 ∧ 0 < i
        · rw [numG_nought h3.1 h3.2] at h; cases h
        · rw [numG_last h1 h2 h3] at h; cases h; exact ⟨1, rfl, by simp, by simp⟩
      · rw [numG_more h1 h2] at h
        cases hx : numG (i + 1) u with
        | error e' => rw [hx] at h; cases h
        | ok x =>
          obtain ⟨m, q⟩ := x
          rw [hx] at h
          cases h
          obtain ⟨k, e1, e2, e3⟩ := numG_rest u (i + 1) m r hx
          exact ⟨k + 1, by simpa using e1, by simpa using e2, by omega⟩

/-- A value at the front of bytes, and what is left; or the error. -/
def valW : List UInt8 → Except Int (Val × List UInt8)
  | [] => .error 1
  | c :: u =>
    if c.toNat = 0 then .ok (⟨0, 0, ⟨#[]⟩⟩, u)
    else if c.toNat = 1 then (match u with | [] => .error 1 | d :: r => if 1 < d.toNat then .error 3 else .ok (⟨1, (d.toNat : Int), ⟨#[]⟩⟩, r))
    else if c.toNat = 2 then (match numG 0 u with | .ok (n, r) => .ok (⟨2, unzz n, ⟨#[]⟩⟩, r) | .error e => .error e)
    else if c.toNat = 3 ∨ c.toNat = 4 then (match numG 0 u with | .ok (n, r) => if r.length < n then .error 1 else .ok (⟨(c.toNat : Int), 0, ⟨(r.take n).toArray⟩⟩, r.drop n) | .error e => .error e)
    else .error 5
theorem valW_rest {u : List UInt8} {v : Val} {r : List UInt8} (h : valW u = .ok (v, r)) : ∃ k, r = u.drop k ∧ k ≤ u.length ∧ 1 ≤ k := by
  cases u with
  | nil => cases h
  | cons c u =>
    simp only [valW] at h
    split at h
    · cases h; exact ⟨1, rfl, by simp, by simp⟩
    · split at h
      · cases u with
        | nil => cases h
        | cons d l =>
          simp only [] at h
          split at h
          · cases h
          · cases h; exact ⟨2, rfl, by simp, by simp⟩
      · split at h
        · cases hx : numG 0 u with
          | error e => rw [hx] at h; cases h
          | ok x =>
            obtain ⟨n, q⟩ := x
            rw [hx] at h
            obtain ⟨k, e1, e2, e3⟩ := numG_rest u 0 n q hx
            cases h
            exact ⟨k + 1, by simpa using e1, by simpa using e2, by omega⟩
        · split at h
          · cases hx : numG 0 u with
            | error e => rw [hx] at h; cases h
            | ok x =>
              obtain ⟨n, q⟩ := x
              rw [hx] at h
              obtain ⟨k, e1, e2, e3⟩ := numG_rest u 0 n q hx
              simp only [] at h
              split at h
              · cases h
              · cases h
                refine ⟨k + n + 1, by rw [e1]; simp, ?_, by omega⟩
                have := congrArg List.length e1
                simp at this ⊢
                omega
          · cases h
theorem valW_err {u : List UInt8} {e : Int} (h : valW u = .error e) : e ≠ 0 := by
  cases u with
  | nil => cases h; decide
  | cons c u =>
    simp only [valW] at h
    split at h
    · cases h
    · split at h
      · cases u with
        | nil => cases h; decide
        | cons d l =>
          simp only [] at h
          split at h
          · cases h; decide
          · cases h
      · split at h
        · cases hx : numG 0 u with
          | error e' => rw [hx] at h; cases h; exact numG_err _ _ _ hx
          | ok x => obtain ⟨n, q⟩ := x; rw [hx] at h; cases h
        · split at h
          · cases hx : numG 0 u with
            | error e' => rw [hx] at h; cases h; exact numG_err _ _ _ hx
            | ok x =>
              obtain ⟨n, q⟩ := x
              rw [hx] at h
              simp only [] at h
              split at h
              · cases h; decide
              · cases h
          · cases h; decide

/-- So many values at the front of bytes, and what is left; or the error. -/
def rowG : Nat → List UInt8 → Except Int (List Val × List UInt8)
  | 0, u => .ok ([], u)
  | m + 1, u => match valW u with
    | .error e => .error e
    | .ok (v, r) => match rowG m r with
      | .error e => .error e
      | .ok (vs, q) => .ok (v :: vs, q)
/-- With values that were read ahead. -/
def uponW (pre : List Val) : Except Int (List Val × List UInt8) → Except Int (List Val × List UInt8)
  | .ok (vs, q) => .ok (pre ++ vs, q)
  | .error e => .error e
theorem uponW_nil (x : Except Int (List Val × List UInt8)) : uponW [] x = x := by
  cases x with
  | error e => rfl
  | ok x => rfl
theorem uponW_ok {pre : List Val} {m : Nat} {u : List UInt8} {v : Val} {r : List UInt8} (h : valW u = .ok (v, r)) : uponW pre (rowG (m + 1) u) = uponW (pre ++ [v]) (rowG m r) := by
  rw [rowG, h]
  simp only []
  cases rowG m r with
  | error e => rfl
  | ok x => obtain ⟨vs, q⟩ := x; simp [uponW]
theorem uponW_bad {pre : List Val} {m : Nat} {u : List UInt8} {e : Int} (h : valW u = .error e) : uponW pre (rowG (m + 1) u) = .error e := by
  rw [rowG, h]; rfl

/-- A row and what is left, or the error. -/
def readW (l : List UInt8) : Except Int (List Val × List UInt8) := match numG 0 l with
  | .error e => .error e
  | .ok (m, r) => rowG m r
/-- Nothing may be left. -/
def closeW : Except Int (List Val × List UInt8) → Except Int (List Val)
  | .error e => .error e
  | .ok (vs, q) => if q = [] then .ok vs else .error 6
/-- The row that bytes are, or the error. -/
def decW (l : List UInt8) : Except Int (List Val) := if 2048 < l.length then .error 8 else closeW (readW l)

theorem rowG_rest : ∀ (m : Nat) (u : List UInt8) (vs : List Val) (q : List UInt8), rowG m u = .ok (vs, q) → vs.length = m ∧ m + q.length ≤ u.length
  | 0, u, vs, q, h => by cases h; simp
  | m + 1, u, vs, q, h => by
    rw [rowG] at h
    cases hv : valW u with
    | error e => rw [hv] at h; cases h
    | ok x =>
      obtain ⟨v, r⟩ := x
      rw [hv] at h
      simp only [] at h
      obtain ⟨k, e1, e2, e3⟩ := valW_rest hv
      cases hx : rowG m r with
      | error e => rw [hx] at h; cases h
      | ok x =>
        obtain ⟨ws, q'⟩ := x
        rw [hx] at h
        cases h
        obtain ⟨h1, h2⟩ := rowG_rest m r ws q hx
        have := congrArg List.length e1
        simp at this
        exact ⟨by simp [h1], by omega⟩
theorem rowG_err : ∀ (m : Nat) (u : List UInt8) (e : Int), rowG m u = .error e → e ≠ 0
  | 0, u, e, h => by cases h
  | m + 1, u, e, h => by
    rw [rowG] at h
    cases hv : valW u with
    | error e' => rw [hv] at h; cases h; exact valW_err hv
    | ok x =>
      obtain ⟨v, r⟩ := x
      rw [hv] at h
      simp only [] at h
      cases hx : rowG m r with
      | error e' => rw [hx] at h; cases h; exact rowG_err m r _ hx
      | ok x => obtain ⟨ws, q'⟩ := x; rw [hx] at h; cases h
theorem readW_err {l : List UInt8} {e : Int} (h : readW l = .error e) : e ≠ 0 := by
  unfold readW at h
  cases hx : numG 0 l with
  | error e' => rw [hx] at h; cases h; exact numG_err _ _ _ hx
  | ok x => obtain ⟨m, r⟩ := x; rw [hx] at h; exact rowG_err _ _ _ h
theorem decW_err {l : List UInt8} {e : Int} (h : decW l = .error e) : e ≠ 0 := by
  unfold decW at h
  split at h
  · cases h; decide
  · unfold closeW at h
    cases hx : readW l with
    | error e' => rw [hx] at h; cases h; exact readW_err hx
    | ok x =>
      obtain ⟨vs, q⟩ := x
      rw [hx] at h
      simp only [] at h
      split at h
      · cases h
      · cases h; decide
theorem decW_len {l : List UInt8} {vs : List Val} (h : decW l = .ok vs) : vs.length ≤ l.length ∧ l.length ≤ 2048 := by
  unfold decW at h
  split at h
  · cases h
  · cases hx : readW l with
    | error e' => rw [hx] at h; cases h
    | ok x =>
      obtain ⟨ws, q⟩ := x
      rw [hx] at h
      simp only [closeW] at h
      split at h
      · cases h
        unfold readW at hx
        cases hy : numG 0 l with
        | error e' => rw [hy] at hx; cases hx
        | ok y =>
          obtain ⟨m, r⟩ := y
          rw [hy] at hx
          obtain ⟨h1, h2⟩ := rowG_rest m r vs q hx
          obtain ⟨k, e1, e2, e3⟩ := numG_rest l 0 m r hy
          have := congrArg List.length e1
          simp at this
          omega
      · cases h
end Go.Proofs.Ytaoeonbhlpnjiaa
