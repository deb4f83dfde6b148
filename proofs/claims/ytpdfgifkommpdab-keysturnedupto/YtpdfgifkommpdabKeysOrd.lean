/- Plain mathematics of keys: the bytes of rows stand in the order of the rows. Condition: right values, numbers within the numbers. -/
import Derived.Test.YtpdfgifkommpdabKeysValue
import Derived.Lib.Bytealg
namespace Go.Proofs.Ytpdfgifkommpdab
open Go.Lib (compareBytes)
set_option linter.unusedVariables false

/-- Two rows of bytes are apart: behind a beginning that they share, one has the lesser byte. -/
def Apart (x y : List UInt8) (c : Int) : Prop := ∃ p i j x' y', x = p ++ i :: x' ∧ y = p ++ j :: y' ∧ ((i < j ∧ c = -1) ∨ (j < i ∧ c = 1))

theorem cmp_pre : ∀ (p a b : List UInt8), compareBytes (p ++ a) (p ++ b) = compareBytes a b
  | [], a, b => rfl
  | c :: p, a, b => by
    simp only [List.cons_append, compareBytes]
    rw [if_neg (UInt8.lt_irrefl c), if_neg (UInt8.lt_irrefl c), cmp_pre p a b]
theorem cmp_self (a : List UInt8) : compareBytes a a = 0 := by
  have := cmp_pre a [] []
  simpa [compareBytes] using this
theorem cmp_eq : ∀ (a b : List UInt8), compareBytes a b = 0 → a = b
  | [], [], _ => rfl
  | [], _ :: _, h => by simp [compareBytes] at h
  | _ :: _, [], h => by simp [compareBytes] at h
  | x :: a, y :: b, h => by
    simp only [compareBytes] at h
    split at h
    · cases h
    · split at h
      · cases h
      · rename_i h1 h2
        have hx : x = y := by
          apply UInt8.toNat_inj.1
          rw [UInt8.lt_iff_toNat_lt] at h1 h2
          omega
        rw [hx, cmp_eq a b h]
theorem Apart.cmp {x y : List UInt8} {c : Int} (h : Apart x y c) (r s : List UInt8) : compareBytes (x ++ r) (y ++ s) = c := by
  obtain ⟨p, i, j, x', y', rfl, rfl, h⟩ := h
  rw [List.append_assoc, List.append_assoc, cmp_pre]
  simp only [List.cons_append, compareBytes]
  rcases h with ⟨h, rfl⟩ | ⟨h, rfl⟩
  · rw [if_pos h]
  · rw [if_neg (fun h' => UInt8.lt_irrefl _ (UInt8.lt_trans h h')), if_pos h]
theorem tb_lt {i j : UInt8} (h : i < j) : tb true j < tb true i := by
  rw [UInt8.lt_iff_toNat_lt] at h ⊢
  rw [tb_true_nat, tb_true_nat]
  have := UInt8.toNat_lt j
  omega
theorem Apart.turn {x y : List UInt8} {c : Int} (h : Apart x y c) : Apart (x.map (tb true)) (y.map (tb true)) (-c) := by
  obtain ⟨p, i, j, x', y', rfl, rfl, h⟩ := h
  refine ⟨p.map (tb true), tb true i, tb true j, x'.map (tb true), y'.map (tb true), by simp, by simp, ?_⟩
  rcases h with ⟨h, rfl⟩ | ⟨h, rfl⟩
  · exact Or.inr ⟨tb_lt h, rfl⟩
  · exact Or.inl ⟨tb_lt h, rfl⟩
theorem Apart.pre {x y : List UInt8} {c : Int} (h : Apart x y c) (q : List UInt8) : Apart (q ++ x) (q ++ y) c := by
  obtain ⟨p, i, j, x', y', rfl, rfl, h⟩ := h
  exact ⟨q ++ p, i, j, x', y', by simp, by simp, h⟩
theorem Apart.swap {x y : List UInt8} {c : Int} (h : Apart x y c) : Apart y x (-c) := by
  obtain ⟨p, i, j, x', y', rfl, rfl, h⟩ := h
  refine ⟨p, j, i, y', x', rfl, rfl, ?_⟩
  rcases h with ⟨h, rfl⟩ | ⟨h, rfl⟩
  · exact Or.inr ⟨h, rfl⟩
  · exact Or.inl ⟨h, rfl⟩
theorem apart_head {i j : UInt8} (h : i < j) (x y : List UInt8) : Apart (i :: x) (j :: y) (-1) := ⟨[], i, j, x, y, rfl, rfl, Or.inl ⟨h, rfl⟩⟩
theorem apart_head' {i j : UInt8} (h : j < i) (x y : List UInt8) : Apart (i :: x) (j :: y) 1 := ⟨[], i, j, x, y, rfl, rfl, Or.inr ⟨h, rfl⟩⟩

theorem u8_pos {c : UInt8} (h : c ≠ 0) : 0 < c := by
  rw [UInt8.lt_iff_toNat_lt]
  have : c.toNat ≠ 0 := fun e => h (UInt8.toNat_inj.1 e)
  show 0 < c.toNat
  omega
theorem esc_apart : ∀ (s t : List UInt8), s ≠ t → Apart (esc s ++ [0, 1]) (esc t ++ [0, 1]) (compareBytes s t)
  | [], [], h => absurd rfl h
  | [], d :: t, _ => by
    show Apart [0, 1] (esc (d :: t) ++ [0, 1]) (-1)
    unfold esc
    split
    · exact ⟨[0], 1, 255, [], esc t ++ [0, 1], rfl, by simp, Or.inl ⟨by decide, rfl⟩⟩
    · rename_i h
      exact apart_head (u8_pos h) _ _
  | c :: s, [], _ => by
    show Apart (esc (c :: s) ++ [0, 1]) [0, 1] 1
    unfold esc
    split
    · exact ⟨[0], 255, 1, esc s ++ [0, 1], [], by simp, rfl, Or.inr ⟨by decide, rfl⟩⟩
    · rename_i h
      exact apart_head' (u8_pos h) _ _
  | c :: s, d :: t, h => by
    by_cases hcd : c = d
    · subst hcd
      have hst : s ≠ t := fun e => h (by rw [e])
      have ih := esc_apart s t hst
      have hc : compareBytes (c :: s) (c :: t) = compareBytes s t := cmp_pre [c] s t
      rw [hc]
      unfold esc
      split
      · exact ih.pre [0, 255]
      · exact ih.pre [c]
    · have hlt : c < d ∨ d < c := by
        rw [UInt8.lt_iff_toNat_lt, UInt8.lt_iff_toNat_lt]
        have : c.toNat ≠ d.toNat := fun e => hcd (UInt8.toNat_inj.1 e)
        omega
      have e0 : ∀ (c : UInt8) (s : List UInt8), ∃ r, esc (c :: s) ++ [0, 1] = c :: r := by
        intro c s
        unfold esc
        split
        · rename_i h0
          exact ⟨255 :: (esc s ++ [0, 1]), by rw [h0]; rfl⟩
        · exact ⟨esc s ++ [0, 1], rfl⟩
      obtain ⟨r, hr⟩ := e0 c s
      obtain ⟨r', hr'⟩ := e0 d t
      rw [hr, hr']
      rcases hlt with hl | hl
      · rw [show compareBytes (c :: s) (d :: t) = -1 by simp only [compareBytes]; rw [if_pos hl]]
        exact apart_head hl _ _
      · rw [show compareBytes (c :: s) (d :: t) = 1 by simp only [compareBytes]; rw [if_neg (fun h' => UInt8.lt_irrefl _ (UInt8.lt_trans hl h')), if_pos hl]]
        exact apart_head' hl _ _

theorem be_apart : ∀ (k n m : Nat), n % 256 ^ k < m % 256 ^ k → Apart (be k n) (be k m) (-1)
  | 0, n, m, h => by simp [Nat.mod_one] at h
  | k + 1, n, m, h => by
    have e1 : ∀ n : Nat, n % 256 ^ (k + 1) = n % 256 ^ k + 256 ^ k * (n / 256 ^ k % 256) := fun n => by rw [Nat.pow_succ, Nat.mod_mul]
    rw [e1 n, e1 m] at h
    have hp : 0 < 256 ^ k := Nat.pow_pos (by decide)
    have hn := Nat.mod_lt n hp
    have hm := Nat.mod_lt m hp
    unfold be
    by_cases hd : n / 256 ^ k % 256 = m / 256 ^ k % 256
    · have ih := be_apart k n m (by rw [hd] at h; omega)
      have hb : UInt8.ofNat (n / 256 ^ k) = UInt8.ofNat (m / 256 ^ k) := by
        apply UInt8.toNat_inj.1
        simpa using hd
      rw [hb]
      exact ih.pre [_]
    · have hlt : n / 256 ^ k % 256 < m / 256 ^ k % 256 := by
        rcases Nat.lt_trichotomy (n / 256 ^ k % 256) (m / 256 ^ k % 256) with h' | h' | h'
        · exact h'
        · exact absurd h' hd
        · exfalso
          have : 256 ^ k * (m / 256 ^ k % 256) + 256 ^ k ≤ 256 ^ k * (n / 256 ^ k % 256) := by
            rw [← Nat.mul_succ]
            exact Nat.mul_le_mul_left _ h'
          omega
      refine apart_head ?_ _ _
      rw [UInt8.lt_iff_toNat_lt]
      simpa using hlt

def InN (a : Val) : Prop := -9223372036854775808 ≤ a.n ∧ a.n ≤ 9223372036854775807

theorem kind_lt {k l : Int} (h0 : 0 ≤ k) (h : k < l) (h4 : l ≤ 4) : UInt8.ofNat (k + 1).toNat < UInt8.ofNat (l + 1).toNat := by
  rw [UInt8.lt_iff_toNat_lt]
  simp
  omega
theorem right_k {a : Val} (h : a.right = true) : 0 ≤ a.k ∧ a.k ≤ 4 := by
  rcases right_cases h with h | h | h | h | h <;> omega
theorem bytes_ext {s t : ByteArray} (h : s.data.toList = t.data.toList) : s = t := by
  apply ByteArray.ext
  exact Array.toList_inj.1 h

/-- Right values are the same, or their bytes are apart, in their order. -/
theorem bytes_apart (a b : Val) (ha : a.right = true) (hb : b.right = true) (na : InN a) (nb : InN b) : (cmpV a b = 0 ∧ a = b) ∨ (cmpV a b ≠ 0 ∧ Apart (bytesV a) (bytesV b) (cmpV a b)) := by
  have ka := right_k ha
  have kb := right_k hb
  rcases Int.lt_trichotomy a.k b.k with hk | hk | hk
  · right
    rw [cmpV_kind (by omega), cmpI_lt hk]
    exact ⟨by decide, apart_head (kind_lt ka.1 hk kb.2) _ _⟩
  · have ra := right_cases ha
    have rb := right_cases hb
    have hcons : ∀ c, Apart (bodyV a) (bodyV b) c → Apart (bytesV a) (bytesV b) c := by
      intro c h
      unfold bytesV
      rw [hk]
      exact h.pre [_]
    obtain ⟨k1, n1, s1⟩ := a
    obtain ⟨k2, n2, s2⟩ := b
    simp only [] at hk ka kb ra rb
    subst hk
    unfold InN at na nb
    simp only [] at na nb
    rcases ra with ⟨rfl, e1, e2⟩ | ⟨rfl, e1, e2⟩ | ⟨rfl, e2⟩ | ⟨rfl, e1⟩ | ⟨rfl, e1⟩
    · left
      have h2 : n2 = 0 ∧ s2.data.toList = [] := by rcases rb with h | h | h | h | h <;> simp_all
      refine ⟨cmpV_none rfl (show (0 : Int) ≠ 1 by decide) (show (0 : Int) ≠ 2 by decide) (show (0 : Int) ≠ 3 by decide) (show (0 : Int) ≠ 4 by decide), ?_⟩
      rw [e1, h2.1, bytes_ext (e2.trans h2.2.symm)]
    · have h2 : (n2 = 0 ∨ n2 = 1) ∧ s2.data.toList = [] := by rcases rb with h | h | h | h | h <;> simp_all
      have hs := bytes_ext (e2.trans h2.2.symm)
      subst hs
      have hc : cmpV (⟨1, n1, s1⟩ : Val) ⟨1, n2, s1⟩ = cmpI n1 n2 := cmpV_num rfl (Or.inl rfl)
      rw [hc]
      clear hc
      rcases e1 with rfl | rfl <;> rcases h2.1 with rfl | rfl
      · exact Or.inl ⟨rfl, rfl⟩
      · exact Or.inr ⟨by decide, hcons _ (apart_head (show UInt8.ofNat (0 : Int).toNat < UInt8.ofNat (1 : Int).toNat by decide) _ _)⟩
      · exact Or.inr ⟨by decide, hcons _ (apart_head' (show UInt8.ofNat (0 : Int).toNat < UInt8.ofNat (1 : Int).toNat by decide) _ _)⟩
      · exact Or.inl ⟨rfl, rfl⟩
    · have h2 : s2.data.toList = [] := by rcases rb with h | h | h | h | h <;> simp_all
      have hs := bytes_ext (e2.trans h2.symm)
      subst hs
      have hc : cmpV (⟨2, n1, s1⟩ : Val) ⟨2, n2, s1⟩ = cmpI n1 n2 := cmpV_num rfl (Or.inr rfl)
      rw [hc]
      clear hc
      have e : ∀ n m : Int, -9223372036854775808 ≤ n → n < m → m ≤ 9223372036854775807 → Apart (be 8 (n + 9223372036854775808).toNat) (be 8 (m + 9223372036854775808).toNat) (-1) := by
        intro n m h1 h2 h3
        apply be_apart
        rw [Nat.mod_eq_of_lt (show _ < 18446744073709551616 by omega), Nat.mod_eq_of_lt (show _ < 18446744073709551616 by omega)]
        omega
      rcases Int.lt_trichotomy n1 n2 with hn | hn | hn
      · rw [cmpI_lt hn]
        exact Or.inr ⟨by decide, hcons _ (e n1 n2 na.1 hn nb.2)⟩
      · subst hn
        exact Or.inl ⟨cmpI_eq rfl, rfl⟩
      · rw [cmpI_gt hn]
        exact Or.inr ⟨by decide, hcons _ (e n2 n1 nb.1 hn na.2).swap⟩
    all_goals
      have h2 : n2 = 0 := by rcases rb with h | h | h | h | h <;> simp_all
      subst h2 e1
      first
        | rw [show cmpV (⟨3, 0, s1⟩ : Val) ⟨3, 0, s2⟩ = compareBytes s1.data.toList s2.data.toList from cmpV_text rfl (Or.inl rfl)]
        | rw [show cmpV (⟨4, 0, s1⟩ : Val) ⟨4, 0, s2⟩ = compareBytes s1.data.toList s2.data.toList from cmpV_text rfl (Or.inr rfl)]
      by_cases hs : s1.data.toList = s2.data.toList
      · left
        rw [hs, bytes_ext hs]
        exact ⟨cmp_self _, rfl⟩
      · right
        exact ⟨fun e => hs (cmp_eq _ _ e), hcons _ (esc_apart _ _ hs)⟩
  · right
    rw [cmpV_kind (by omega), cmpI_gt hk]
    exact ⟨by decide, apart_head' (kind_lt kb.1 hk ka.2) _ _⟩

/-- THE ORDER: the bytes of rows stand in the order of the rows. -/
theorem encR_cmp : ∀ (xs ys : List Val) (ds : List Bool), (∀ v ∈ xs, v.right = true ∧ InN v) → (∀ v ∈ ys, v.right = true ∧ InN v) → compareBytes (encR xs ds) (encR ys ds) = cmpRow xs ys ds
  | [], [], ds, _, _ => rfl
  | [], b :: ys, ds, _, _ => by simp [encR, bytesV, compareBytes, cmpRow]
  | a :: xs, [], ds, _, _ => by simp [encR, bytesV, compareBytes, cmpRow]
  | a :: xs, b :: ys, ds, hx, hy => by
    have ih := encR_cmp xs ys ds.tail (fun v h => hx v (List.mem_cons_of_mem _ h)) (fun v h => hy v (List.mem_cons_of_mem _ h))
    have ha := hx a (List.mem_cons_self ..)
    have hb := hy b (List.mem_cons_self ..)
    unfold cmpRow
    simp only [encR]
    rcases bytes_apart a b ha.1 hb.1 ha.2 hb.2 with ⟨h0, rfl⟩ | ⟨h0, h⟩
    · rw [if_pos h0, cmp_pre, ih]
    · rw [if_neg h0]
      cases ds.headD false
      · rw [if_neg (by decide)]
        have e : ∀ l : List UInt8, l.map (tb false) = l := fun l => by
          have : tb false = id := by funext c; rfl
          rw [this, List.map_id]
        rw [e, e]
        exact h.cmp _ _
      · rw [if_pos rfl]
        exact h.turn.cmp _ _
end Go.Proofs.Ytpdfgifkommpdab
