/- Plain mathematics of pages with sums, of heads, of a pager's steps over a disk: no program is named here. No conditions. -/
import Derived.Test.YtnecigbncggogaaPgPlain
namespace Go.Proofs.Ytnecigbncggogaa
set_option linter.unusedVariables false

/-! ### Numbers as bytes, the lowest first -/
def le : Nat → Nat → List UInt8
  | 0, _ => []
  | k + 1, n => UInt8.ofNat (n % 256) :: le k (n / 256)
theorem le_len : ∀ k n, (le k n).length = k
  | 0, _ => rfl
  | k + 1, n => by rw [le, List.length_cons, le_len k]
theorem ofNat_mod (n : Nat) : (UInt8.ofNat (n % 256)).toNat = n % 256 := by rw [UInt8.toNat_ofNat']; omega
theorem le_get : ∀ (k n i : Nat) (h : i < (le k n).length), ((le k n)[i]).toNat = n / 256 ^ i % 256
  | 0, n, i, h => by simp [le] at h
  | k + 1, n, 0, h => by
    show (UInt8.ofNat (n % 256)).toNat = _
    rw [ofNat_mod]; simp
  | k + 1, n, i + 1, h => by
    show ((le k (n / 256))[i]'_).toNat = _
    rw [le_get k (n / 256) i, Nat.div_div_eq_div_mul, Nat.pow_succ, Nat.mul_comm]
def unle : List UInt8 → Nat
  | [] => 0
  | c :: r => c.toNat + 256 * unle r
theorem unle_lt : ∀ l : List UInt8, unle l < 256 ^ l.length
  | [] => by simp [unle]
  | c :: r => by
    have h := unle_lt r
    have hc := c.toNat_lt
    rw [unle, List.length_cons, Nat.pow_succ]
    omega
theorem unle_le : ∀ k n, unle (le k n) = n % 256 ^ k
  | 0, n => by simp [le, unle, Nat.mod_one]
  | k + 1, n => by
    rw [le, unle, unle_le k, ofNat_mod, Nat.pow_succ, Nat.mul_comm (256 ^ k), Nat.mod_mul]
theorem le_unle : ∀ l : List UInt8, le l.length (unle l) = l
  | [] => rfl
  | c :: r => by
    have hc := c.toNat_lt
    rw [List.length_cons, le, unle]
    have e1 : (c.toNat + 256 * unle r) % 256 = c.toNat := by omega
    have e2 : (c.toNat + 256 * unle r) / 256 = unle r := by omega
    rw [e1, e2, le_unle r]
    simp
theorem unle_snoc : ∀ (l : List UInt8) (c : UInt8), unle (l ++ [c]) = unle l + 256 ^ l.length * c.toNat
  | [], c => by simp [unle]
  | a :: r, c => by
    rw [List.cons_append, unle, unle_snoc r, unle, List.length_cons, Nat.pow_succ, Nat.mul_add, Nat.mul_comm (256 ^ r.length) 256, Nat.mul_assoc]
    omega
theorem unle_take (l : List UInt8) (k : Nat) (h : k < l.length) : unle (l.take (k + 1)) = unle (l.take k) + 256 ^ k * l[k].toNat := by
  rw [List.take_succ_eq_append_getElem h, unle_snoc, List.length_take, Nat.min_eq_left (by omega)]
theorem unle_drop (l : List UInt8) (k : Nat) (h : k < l.length) : unle (l.drop k) = l[k].toNat + 256 * unle (l.drop (k + 1)) := by
  rw [List.drop_eq_getElem_cons h, unle]
theorem le_inj {k a b : Nat} (ha : a < 256 ^ k) (hb : b < 256 ^ k) (h : le k a = le k b) : a = b := by
  have := congrArg unle h
  rwa [unle_le, unle_le, Nat.mod_eq_of_lt ha, Nat.mod_eq_of_lt hb] at this
theorem le_take_succ (k n i : Nat) (h : i < k) : (le k n).take (i + 1) = (le k n).take i ++ [UInt8.ofNat (n / 256 ^ i % 256)] := by
  rw [List.take_succ_eq_append_getElem (by rw [le_len]; exact h)]
  congr 2
  refine UInt8.toNat_inj.1 ?_
  rw [le_get, ofNat_mod]
/-! ### Pages with sums; heads -/
def sealed (l : List UInt8) : List UInt8 := l ++ le 4 (crc l)
theorem sealed_len (l : List UInt8) : (sealed l).length = l.length + 4 := by rw [sealed, List.length_append, le_len]
def hrec (g r : Nat) : List UInt8 := [81, 82, 89, 49] ++ (le 8 g ++ le 4 r)
theorem hrec_len (g r : Nat) : (hrec g r).length = 16 := by simp [hrec, le_len]
def noughts (n : Nat) : List UInt8 := List.replicate n 0
theorem noughts_len (n : Nat) : (noughts n).length = n := List.length_replicate
def headLoad (g r : Nat) : List UInt8 := hrec g r ++ (noughts 476 ++ hrec g r)
theorem headLoad_len (g r : Nat) : (headLoad g r).length = 508 := by simp [headLoad, hrec_len, noughts_len]
def headPage (g r : Nat) : List UInt8 := sealed (headLoad g r)
theorem headPage_len (g r : Nat) : (headPage g r).length = 512 := by rw [headPage, sealed_len, headLoad_len]
theorem headPage_take (g r : Nat) : (headPage g r).take 508 = headLoad g r := by
  rw [headPage, sealed, List.take_append_of_le_length (by rw [headLoad_len]; exact Nat.le_refl _), List.take_of_length_le (by rw [headLoad_len]; exact Nat.le_refl _)]
def genOf (b : List UInt8) : Nat := unle ((b.drop 4).take 8)
def rootOf (b : List UInt8) : Nat := unle ((b.drop 12).take 4)
theorem headPage_gen (g r : Nat) : ((headPage g r).drop 4).take 8 = le 8 g := by
  have e : headPage g r = [81, 82, 89, 49] ++ (le 8 g ++ (le 4 r ++ ((noughts 476 ++ hrec g r) ++ le 4 (crc (headLoad g r))))) := by
    simp [headPage, sealed, headLoad, hrec]
  rw [e]
  show List.take 8 (le 8 g ++ _) = _
  rw [List.take_left' (le_len 8 g)]
theorem headPage_root (g r : Nat) : ((headPage g r).drop 12).take 4 = le 4 r := by
  have e : headPage g r = ([81, 82, 89, 49] ++ le 8 g) ++ (le 4 r ++ ((noughts 476 ++ hrec g r) ++ le 4 (crc (headLoad g r)))) := by
    simp [headPage, sealed, headLoad, hrec]
  rw [e, List.drop_left' (by simp [le_len]), List.take_left' (le_len 4 r)]
theorem genOf_head {g : Nat} (r : Nat) (h : g < 256 ^ 8) : genOf (headPage g r) = g := by
  rw [genOf, headPage_gen, unle_le, Nat.mod_eq_of_lt h]
theorem rootOf_head (g : Nat) {r : Nat} (h : r < 256 ^ 4) : rootOf (headPage g r) = r := by
  rw [rootOf, headPage_root, unle_le, Nat.mod_eq_of_lt h]
theorem genOf_lt (b : List UInt8) : genOf b < 18446744073709551616 := by
  have h := unle_lt ((b.drop 4).take 8)
  have : 256 ^ ((b.drop 4).take 8).length ≤ 256 ^ 8 := Nat.pow_le_pow_right (by decide) (by rw [List.length_take]; omega)
  have e : (256 : Nat) ^ 8 = 18446744073709551616 := by decide
  unfold genOf
  omega
theorem rootOf_lt (b : List UInt8) : rootOf b < 4294967296 := by
  have h := unle_lt ((b.drop 12).take 4)
  have : 256 ^ ((b.drop 12).take 4).length ≤ 256 ^ 4 := Nat.pow_le_pow_right (by decide) (by rw [List.length_take]; omega)
  have e : (256 : Nat) ^ 4 = 4294967296 := by decide
  unfold rootOf
  omega
/-- A root that a disk of so many pages can have. -/
def rootOk (r pages : Nat) : Bool := decide (r = 0 ∨ 2 ≤ r ∧ r < pages)
/-- A page n is a head. -/
def isHead (b : List UInt8) (n pages : Nat) : Bool := decide (genOf b ≤ 4611686018427387904) && decide (genOf b % 2 = n) && rootOk (rootOf b) pages && (headPage (genOf b) (rootOf b) == b)
def readHead (b : List UInt8) (n pages : Nat) : Option (Nat × Nat) := if isHead b n pages = true then some (genOf b, rootOf b) else none
theorem readHead_page {g r n pages : Nat} (hg : g ≤ 4611686018427387904) (hn : g % 2 = n) (hr : rootOk r pages = true) (hp : pages ≤ 4096) : readHead (headPage g r) n pages = some (g, r) := by
  have hr4 : r < 256 ^ 4 := by
    have e : (256 : Nat) ^ 4 = 4294967296 := by decide
    simp only [rootOk, decide_eq_true_eq] at hr
    omega
  have hg8 : g < 256 ^ 8 := by
    have e : (256 : Nat) ^ 8 = 18446744073709551616 := by decide
    omega
  unfold readHead
  rw [if_pos, genOf_head r hg8, rootOf_head g hr4]
  simp only [isHead, genOf_head r hg8, rootOf_head g hr4, hr, Bool.and_eq_true, decide_eq_true_eq, beq_self_eq_true, and_true]
  exact ⟨hg, hn⟩
theorem readHead_some {b : List UInt8} {n pages g r : Nat} (h : readHead b n pages = some (g, r)) : b = headPage g r ∧ g = genOf b ∧ r = rootOf b ∧ g ≤ 4611686018427387904 ∧ g % 2 = n ∧ rootOk r pages = true := by
  unfold readHead at h
  split at h
  · rename_i hh
    simp only [Option.some.injEq, Prod.mk.injEq] at h
    obtain ⟨rfl, rfl⟩ := h
    simp only [isHead, Bool.and_eq_true, decide_eq_true_eq, beq_iff_eq] at hh
    exact ⟨hh.2.symm, rfl, rfl, hh.1.1.1, hh.1.1.2, hh.1.2⟩
  · cases h
/-- A page is right. -/
def right (b : List UInt8) : Bool := sealed (b.take 508) == b
theorem right_sealed {l : List UInt8} (h : l.length = 508) : right (sealed l) = true := by
  unfold right
  rw [show (sealed l).take 508 = l by rw [sealed, List.take_left' h]]
  simp
theorem isHead_doc (b : List UInt8) (n pages : Nat) : isHead b n pages = (right b && (decide (genOf b ≤ 4611686018427387904) && decide (genOf b % 2 = n) && rootOk (rootOf b) pages) && (b.take 508 == headLoad (genOf b) (rootOf b))) := by
  unfold isHead
  have e : (headPage (genOf b) (rootOf b) == b) = (right b && (b.take 508 == headLoad (genOf b) (rootOf b))) := by
    rw [Bool.eq_iff_iff]
    simp only [right, Bool.and_eq_true, beq_iff_eq]
    constructor
    · intro h
      have e1 : b.take 508 = headLoad (genOf b) (rootOf b) := by
        conv => lhs; rw [← h]
        exact headPage_take _ _
      exact ⟨by rw [e1]; exact h, e1⟩
    · rintro ⟨h1, h2⟩
      rw [h2] at h1
      exact h1
  rw [e]
  cases right b <;> simp
/-! ### The steps of a pager -/
/-- The newest of the two heads. -/
def newer : Option (Nat × Nat) → Option (Nat × Nat) → Option (Nat × Nat)
  | a, none => a
  | none, some b => some b
  | some a, some b => if a.1 < b.1 then some b else some a
def Dk.newestHead (d : Dk) : Option (Nat × Nat) := newer (readHead (d.has 0) 0 d.pages) (readHead (d.has 1) 1 d.pages)
def Dk.openErr (d : Dk) : Int := if d.pages < 3 then 2 else if d.down then 9 else if d.newestHead = none then 10 else 0
def Dk.fmtErr (d : Dk) : Int := if d.pages < 3 then 2 else if d.wrErr 0 (headPage 0 0) ≠ 0 then d.wrErr 0 (headPage 0 0) else if (d.wr 0 (headPage 0 0)).wrErr 1 (headPage 1 0) ≠ 0 then (d.wr 0 (headPage 0 0)).wrErr 1 (headPage 1 0) else ((d.wr 0 (headPage 0 0)).wr 1 (headPage 1 0)).syErr
def Dk.fmt (d : Dk) : Dk := if d.pages < 3 then d else if d.wrErr 0 (headPage 0 0) ≠ 0 then d.wr 0 (headPage 0 0) else if (d.wr 0 (headPage 0 0)).wrErr 1 (headPage 1 0) ≠ 0 then (d.wr 0 (headPage 0 0)).wr 1 (headPage 1 0) else ((d.wr 0 (headPage 0 0)).wr 1 (headPage 1 0)).sy
/-- The steps of a commit: sync, the head, sync. -/
def Dk.cmErr (d : Dk) (g r : Nat) : Int := if d.syErr ≠ 0 then d.syErr else if d.sy.wrErr ((g % 2 : Nat) : Int) (headPage g r) ≠ 0 then d.sy.wrErr ((g % 2 : Nat) : Int) (headPage g r) else (d.sy.wr ((g % 2 : Nat) : Int) (headPage g r)).syErr
def Dk.cm (d : Dk) (g r : Nat) : Dk := if d.syErr ≠ 0 then d.sy else if d.sy.wrErr ((g % 2 : Nat) : Int) (headPage g r) ≠ 0 then d.sy.wr ((g % 2 : Nat) : Int) (headPage g r) else (d.sy.wr ((g % 2 : Nat) : Int) (headPage g r)).sy
/-- A pager: its newest head; has a commit failed. -/
structure Pk where
  gen : Nat
  root : Nat
  failed : Bool
def Dk.rangeErr (d : Dk) (n : Int) : Bool := decide (2 ≤ n ∧ n < (d.pages : Int))
def Dk.rdErr (d : Dk) (n : Int) : Int := if d.rangeErr n = false then 2 else if d.down then 9 else if right (d.has n) = false then 10 else 0
def Dk.pwErr (d : Dk) (n : Int) (b : List UInt8) : Int := if d.rangeErr n = false then 2 else if b.length ≠ 508 then 3 else d.wrErr n (sealed b)
def Dk.pw (d : Dk) (n : Int) (b : List UInt8) : Dk := if d.rangeErr n = false then d else if b.length ≠ 508 then d else d.wr n (sealed b)
def Dk.rootOk (d : Dk) (n : Int) : Bool := decide (n = 0) || d.rangeErr n
def Pk.cmErr (k : Pk) (d : Dk) (n : Int) : Int := if k.failed then 9 else if d.rootOk n = false then 2 else d.cmErr (k.gen + 1) n.toNat
def Pk.cmDk (k : Pk) (d : Dk) (n : Int) : Dk := if k.failed then d else if d.rootOk n = false then d else d.cm (k.gen + 1) n.toNat
def Pk.cm (k : Pk) (d : Dk) (n : Int) : Pk := if k.failed then k else if d.rootOk n = false then k else if d.cmErr (k.gen + 1) n.toNat = 0 then ⟨k.gen + 1, n.toNat, false⟩ else ⟨k.gen, k.root, true⟩
theorem Dk.ok.pw {d : Dk} (h : d.ok) (n : Int) (b : List UInt8) : (d.pw n b).ok := by
  unfold Dk.pw
  split
  · exact h
  · split
    · exact h
    · exact h.wr _ _
theorem Dk.ok.cm {d : Dk} (h : d.ok) (g r : Nat) : (d.cm g r).ok := by
  unfold Dk.cm
  split
  · exact h.sy
  · split
    · exact h.sy.wr _ _
    · exact (h.sy.wr _ _).sy
theorem Dk.ok.fmt {d : Dk} (h : d.ok) : d.fmt.ok := by
  unfold Dk.fmt
  split
  · exact h
  · split
    · exact h.wr _ _
    · split
      · exact (h.wr _ _).wr _ _
      · exact ((h.wr _ _).wr _ _).sy
theorem Dk.syErr_cases (d : Dk) : d.syErr = 0 ∨ d.syErr = 9 := by
  unfold Dk.syErr
  split
  · exact Or.inr rfl
  · split
    · exact Or.inr rfl
    · exact Or.inl rfl
theorem Dk.wrErr_cases (d : Dk) (n : Int) (b : List UInt8) (h0 : 0 ≤ n) (h1 : n < d.pages) (hb : b.length = 512) : d.wrErr n b = 0 ∨ d.wrErr n b = 9 := by
  unfold Dk.wrErr Dk.reach
  cases d.down
  · have e : (if n < 0 ∨ (d.pages : Int) ≤ n then (2 : Int) else 0) = 0 := if_neg (by omega)
    simp only [e, Bool.false_eq_true, ne_eq, not_true_eq_false, if_false, hb]
    split
    · exact Or.inr rfl
    · exact Or.inl rfl
  · right
    simp
theorem Dk.wr_pages (d : Dk) (n : Int) (b : List UInt8) : (d.wr n b).pages = d.pages := by
  unfold Dk.wr
  split
  · rfl
  · split
    · rfl
    · split
      · exact Dk.stepped_pages d
      · exact Dk.stepped_pages d
theorem Dk.sy_pages (d : Dk) : d.sy.pages = d.pages := by
  unfold Dk.sy
  split
  · rfl
  · split
    · exact Dk.stepped_pages d
    · exact Dk.stepped_pages d
theorem Dk.cmErr_cases (d : Dk) (g r : Nat) (h : 3 ≤ d.pages) : d.cmErr g r = 0 ∨ d.cmErr g r = 9 := by
  unfold Dk.cmErr
  split
  · exact d.syErr_cases
  · split
    · exact Dk.wrErr_cases _ _ _ (by omega) (by rw [Dk.sy_pages]; omega) (headPage_len _ _)
    · exact Dk.syErr_cases _
end Go.Proofs.Ytnecigbncggogaa
