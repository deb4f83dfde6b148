/- Plain facts on the document's one: a place in the whole text and a place in what is left; the order of the cases. -/
import Derived.Test.YtbaemjibaeeglaaGreatDoorLxRBlob
namespace Go.Proofs.YtbaemjibaeeglaaGreatDoor
open Go.RowKit Go.Lib Go.Sort
set_option linter.unusedVariables false

theorem quo_shift (d : Nat) : ∀ (n : Nat) (l acc : List UInt8) (i : Nat), l.length ≤ n → quo l acc (i + d) = (quo l acc i).map fun x => (x.1, x.2 + d)
  | _, [], acc, i, _ => by simp [quo]
  | _, [c], acc, i, _ => by
    simp only [quo]
    split
    · simp; omega
    · rfl
  | 0, c :: e :: r, acc, i, h => by simp at h
  | n + 1, c :: e :: r, acc, i, h => by
    simp only [List.length_cons] at h
    simp only [quo]
    split
    · split
      · rw [show i + d + 2 = i + 2 + d by omega]
        exact quo_shift d n r _ _ (by omega)
      · simp; omega
    · rw [show i + d + 1 = i + 1 + d by omega]
      exact quo_shift d n (e :: r) _ _ (by simp; omega)
theorem blo_shift (d : Nat) : ∀ (n : Nat) (l acc : List UInt8) (i : Nat), l.length ≤ n → blo l acc (i + d) = (blo l acc i).map fun x => (x.1, x.2 + d)
  | _, [], acc, i, _ => by simp [blo]
  | _, [c], acc, i, _ => by
    simp only [blo]
    split
    · simp; omega
    · rfl
  | 0, c :: e :: r, acc, i, h => by simp at h
  | n + 1, c :: e :: r, acc, i, h => by
    simp only [List.length_cons] at h
    simp only [blo]
    split
    · simp; omega
    · split
      · rfl
      · rw [show i + d + 2 = i + 2 + d by omega]
        exact blo_shift d n r _ _ (by omega)

theorem isX_c {c : UInt8} {r : List UInt8} (h : isX (c :: r) = true) : bi c = 120 ∨ bi c = 88 := by
  cases r with
  | nil => simp [isX] at h
  | cons d r =>
    simp [isX] at h
    exact h.1
theorem ltr_dig {c : Int} (h : ltr c = true) : dig c = false := by
  rw [dig_no]
  unfold ltr at h
  simp at h
  omega
theorem f_cons (c : UInt8) (r : List UInt8) : first1 (c :: r) =
    if bi c == 39 then (quo r [] 1).map fun x => (⟨3, x.1, 0⟩, x.2)
    else if dig (bi c) then (numD ((c :: r).take (cntW isD (c :: r)))).map fun v => (⟨2, [], v⟩, cntW isD (c :: r))
    else if isX (c :: r) then (blo ((c :: r).drop 2) [] 2).map fun x => (⟨4, x.1, 0⟩, x.2)
    else if ltr (bi c) then some (⟨1, toLowerA ((c :: r).take (cntW isW (c :: r))), 0⟩, cntW isW (c :: r))
    else if sym (c :: r) = 0 then none else some (⟨5, (c :: r).take (sym (c :: r)), 0⟩, sym (c :: r)) := rfl
theorem f_blob {c : UInt8} {r : List UInt8} (h : isX (c :: r) = true) : first1 (c :: r) = mapK 4 (blo (r.drop 1) [] 2) := by
  have hc := isX_c h
  rw [f_cons]
  rw [if_neg (by simp; omega), if_neg (by simp [dig]; omega), if_pos h]
  rfl
theorem f_ltr {c : UInt8} {r : List UInt8} (h : isX (c :: r) = false) (hl : ltr (bi c) = true) : first1 (c :: r) = some (⟨1, toLowerA ((c :: r).take (cntW isW (c :: r))), 0⟩, cntW isW (c :: r)) := by
  rw [f_cons]
  have hd := ltr_dig hl
  rw [if_neg (by rintro h; have h := eq_of_beq h; rw [h] at hl; exact absurd hl (by decide)), if_neg (by rw [hd]; simp), if_neg (by rw [h]; simp), if_pos hl]
theorem f_dig {c : UInt8} {r : List UInt8} (hl : dig (bi c) = true) : first1 (c :: r) = (numD ((c :: r).take (cntW isD (c :: r)))).map fun v => (⟨2, [], v⟩, cntW isD (c :: r)) := by
  rw [f_cons]
  rw [if_neg (by rintro h; have h := eq_of_beq h; rw [h] at hl; exact absurd hl (by decide)), if_pos hl]
theorem f_quo {c : UInt8} {r : List UInt8} (hl : (bi c == 39) = true) : first1 (c :: r) = mapK 3 (quo r [] 1) := by
  rw [f_cons]
  rw [if_pos hl]
  rfl
theorem f_sym {c : UInt8} {r : List UInt8} (h1 : isX (c :: r) = false) (h2 : ltr (bi c) = false) (h3 : dig (bi c) = false) (h4 : (bi c == 39) = false) : first1 (c :: r) = if sym (c :: r) = 0 then none else some (⟨5, (c :: r).take (sym (c :: r)), 0⟩, sym (c :: r)) := by
  rw [f_cons]
  rw [if_neg (by rw [h4]; simp), if_neg (by rw [h3]; simp), if_neg (by rw [h1]; simp), if_neg (by rw [h2]; simp)]
theorem rext (s : ByteArray) (a b : Nat) : (s.extract a b).data.toList = (s.data.toList.drop a).take (b - a) := by
  simp [ByteArray.data_extract, Array.toList_extract, List.extract]

/-- What one answers. -/
def oneEnd (R : Option (Tk × Nat)) (p : Nat) (w : World) (e : Ending) (w' : World) : Prop :=
  ∃ (K : Int) (X : ByteArray) (I : Int) (E : Nat), e = .returned (.tuple #[.agg #[.int .i64 K, .string X, .int .i64 (p : Int), .int .i64 I], .int .i64 (E : Int), .bool R.isSome]) ∧ (∀ y, R = some y → K = y.1.k ∧ X = ⟨y.1.s.toArray⟩ ∧ I = y.1.n ∧ E = p + y.2) ∧ Below w.heap.size w w'
end Go.Proofs.YtbaemjibaeeglaaGreatDoor
