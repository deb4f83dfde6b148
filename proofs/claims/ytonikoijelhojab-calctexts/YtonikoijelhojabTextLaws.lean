/- Parts of texts that are put together; large letters of small letters. No conditions. -/
import Derived.Test.YtonikoijelhojabWorthMore
namespace Go.Proofs.Ytonikoijelhojab
open Go.RowKit Go.Lib Go.Sort
set_option linter.unusedVariables false

theorem part_first (a b : ByteArray) : partV (a ++ b) 1 a.size = a := by
  have hs : (a ++ b).size = a.size + b.size := ByteArray.size_append
  unfold partV
  split
  · next h =>
    have h0 : a.size = 0 := by rw [hs] at h; omega
    apply ByteArray.ext
    have : a.data.size = 0 := h0
    exact (Array.eq_empty_of_size_eq_zero this).symm
  · next h =>
    have e1 : loP 1 = 0 := by decide
    have e2 : hiP (a ++ b) 1 a.size = a.size := by unfold hiP; rw [hs]; omega
    rw [e1, e2]
    apply ByteArray.ext
    rw [ByteArray.data_extract, ByteArray.data_append]
    have : a.size = a.data.size := rfl
    rw [this]
    simp

theorem part_second (a b : ByteArray) (h2 : a.size + b.size ≤ 2048) : partV (a ++ b) ((a.size : Int) + 1) 1099511627776 = b := by
  have hs : (a ++ b).size = a.size + b.size := ByteArray.size_append
  unfold partV
  split
  · next h =>
    have h0 : b.size = 0 := by rw [hs] at h; omega
    apply ByteArray.ext
    have : b.data.size = 0 := h0
    exact (Array.eq_empty_of_size_eq_zero this).symm
  · next h =>
    have e1 : loP ((a.size : Int) + 1) = a.size := by unfold loP; omega
    have e2 : hiP (a ++ b) ((a.size : Int) + 1) 1099511627776 = a.size + b.size := by unfold hiP; rw [hs]; omega
    rw [e1, e2]
    apply ByteArray.ext
    rw [ByteArray.data_extract, ByteArray.data_append]
    have k1 : a.size = a.data.size := rfl
    have k2 : b.size = b.data.size := rfl
    have z1 : a.data.extract a.size (a.size + b.size) = #[] := by apply Array.eq_empty_of_size_eq_zero; simp
    have z2 : b.data.extract 0 b.size = b.data := by rw [k2]; exact Array.extract_size
    rw [Array.extract_append, z1, ← k1, Nat.sub_self, Nat.add_sub_cancel_left, z2]
    simp

theorem up_low_byte (c : UInt8) : exB 97 65 (exB 65 97 c) = exB 97 65 c := by
  have := UInt8.toNat_lt c
  by_cases h : 65 ≤ c.toNat ∧ c.toNat < 65 + 26
  · have e : exB 65 97 c = UInt8.ofNat (c.toNat - 65 + 97) := if_pos h
    have t : (exB 65 97 c).toNat = c.toNat - 65 + 97 := by rw [e]; simp; omega
    have z : exB 97 65 c = c := if_neg (by omega)
    rw [z]
    unfold exB at *
    rw [if_pos (by rw [t]; omega), t]
    apply UInt8.toNat_inj.1
    simp
    omega
  · rw [show exB 65 97 c = c from if_neg h]

theorem up_low (s : ByteArray) : exV 97 65 (exV 65 97 s) = exV 97 65 s := by
  unfold exV
  simp only [List.map_map]
  congr 2
  apply List.map_congr_left
  intro c _
  exact up_low_byte c
theorem exV_size (f o : Nat) (s : ByteArray) : (exV f o s).size = s.size := by
  show (s.data.toList.map (exB f o)).toArray.size = s.data.size
  simp
end Go.Proofs.Ytonikoijelhojab
