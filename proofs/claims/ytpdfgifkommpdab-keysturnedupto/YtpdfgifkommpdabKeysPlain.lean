/- Plain mathematics of keys: the bytes of values and rows, as plain functions; no program is named here. No conditions. -/
import Derived.Test.YtpdfgifkommpdabValCheck
namespace Go.Proofs.Ytpdfgifkommpdab
open Go.Lib (compareBytes)

/-- So many bytes of a number, the highest first. -/
def be : Nat → Nat → List UInt8
  | 0, _ => []
  | k + 1, n => UInt8.ofNat (n / 256 ^ k) :: be k n

/-- The bytes of a text, each byte 0 followed by 255. -/
def esc : List UInt8 → List UInt8
  | [] => []
  | c :: l => if c = 0 then 0 :: 255 :: esc l else c :: esc l

/-- What stands behind the first byte of a value. -/
def bodyV (a : Val) : List UInt8 :=
  if a.k = 1 then [UInt8.ofNat a.n.toNat] else if a.k = 2 then be 8 (a.n + 9223372036854775808).toNat else if a.k = 3 ∨ a.k = 4 then esc a.s.data.toList ++ [0, 1] else []
/-- The bytes of a value. -/
def bytesV (a : Val) : List UInt8 := UInt8.ofNat (a.k + 1).toNat :: bodyV a

/-- A byte, its bits turned or not. -/
def tb (t : Bool) (c : UInt8) : UInt8 := if t then 255 - c else c
def msk (t : Bool) : Int := if t then 255 else 0
/-- The bytes of a row. -/
def encR : List Val → List Bool → List UInt8
  | [], _ => []
  | a :: xs, ds => (bytesV a).map (tb (ds.headD false)) ++ encR xs ds.tail

theorem tb_true_nat (c : UInt8) : (tb true c).toNat = 255 - c.toNat := by
  show (255 - c).toNat = _
  have := UInt8.toNat_lt c
  rw [UInt8.toNat_sub_of_le _ _ (by rw [UInt8.le_iff_toNat_le]; show c.toNat ≤ 255; omega)]
  rfl
theorem tb_tb (t : Bool) (c : UInt8) : tb t (tb t c) = c := by
  cases t
  · rfl
  · have := UInt8.toNat_lt c
    apply UInt8.toNat_inj.1
    rw [tb_true_nat, tb_true_nat]
    omega

theorem be_length : ∀ k n, (be k n).length = k
  | 0, _ => rfl
  | k + 1, n => by simp [be, be_length k n]
theorem be_get : ∀ (k n i : Nat) (h : i < (be k n).length), (be k n)[i] = UInt8.ofNat (n / 256 ^ (k - 1 - i))
  | k + 1, n, 0, h => by simp [be]
  | k + 1, n, i + 1, h => by
    have h' : i < (be k n).length := by simpa [be] using h
    have := be_get k n i h'
    simp only [be, List.getElem_cons_succ]
    rw [this]
    congr 3
    omega

theorem esc_append : ∀ a b : List UInt8, esc (a ++ b) = esc a ++ esc b
  | [], b => rfl
  | c :: a, b => by
    simp only [List.cons_append, esc, esc_append a b]
    split <;> rfl
theorem esc_length : ∀ a : List UInt8, (esc a).length ≤ 2 * a.length
  | [] => Nat.le_refl _
  | c :: a => by
    have := esc_length a
    unfold esc
    split <;> simp <;> omega

theorem encR_snoc : ∀ (xs : List Val) (a : Val) (ds : List Bool), encR (xs ++ [a]) ds = encR xs ds ++ (bytesV a).map (tb (ds.getD xs.length false))
  | [], a, ds => by
    cases ds <;> simp [encR]
  | b :: xs, a, ds => by
    simp only [List.cons_append, encR, encR_snoc xs a ds.tail, List.append_assoc, List.length_cons]
    cases ds <;> simp

/-- A bound of the bytes of a row. -/
def bulkR : List Val → Nat
  | [] => 0
  | a :: xs => a.s.size + 1 + bulkR xs
theorem bytesV_length (a : Val) : (bytesV a).length ≤ 2 * a.s.size + 9 := by
  unfold bytesV bodyV
  have h := esc_length a.s.data.toList
  have h2 : a.s.data.toList.length = a.s.size := by simp
  split
  · simp
  · split
    · simp [be_length]
    · split
      · simp; omega
      · simp
theorem encR_length : ∀ (xs : List Val) (ds : List Bool), (encR xs ds).length ≤ 9 * bulkR xs
  | [], _ => Nat.le_refl _
  | a :: xs, ds => by
    have h1 := bytesV_length a
    have h2 := encR_length xs ds.tail
    simp only [encR, bulkR, List.length_append, List.length_map]
    omega
theorem bulkR_append : ∀ (xs bs : List Val), bulkR (xs ++ bs) = bulkR xs + bulkR bs
  | [], bs => by simp [bulkR]
  | a :: xs, bs => by
    simp only [List.cons_append, bulkR, bulkR_append xs bs]
    omega
theorem bulkR_mem : ∀ (xs : List Val) (a : Val), a ∈ xs → a.s.size + 1 ≤ bulkR xs
  | b :: xs, a, h => by
    simp only [bulkR]
    rcases List.mem_cons.1 h with rfl | h
    · omega
    · have := bulkR_mem xs a h
      omega
theorem bulkR_take (xs : List Val) (k : Nat) : bulkR (xs.take k) ≤ bulkR xs := by
  conv => rhs; rw [← List.take_append_drop k xs]
  rw [bulkR_append]
  omega
theorem bulkR_len : ∀ (xs : List Val), xs.length ≤ bulkR xs
  | [] => Nat.le_refl _
  | a :: xs => by
    have := bulkR_len xs
    simp only [bulkR, List.length_cons]
    omega
end Go.Proofs.Ytpdfgifkommpdab
