/- What (Op).Page makes; make of bytes. Condition: the bytes lie within the reach. -/
import Derived.Test.YtnecigbncggogaaDkSync
import Derived.Laws.MakeOwn
namespace Go.Proofs.Ytnecigbncggogaa
open Go.RowKit
set_option linter.unusedVariables false
set_option maxRecDepth 20000

/-- So many noughts; so many of a byte. -/
def zeros (L : Nat) : List UInt8 := List.replicate L 0
def fills (f : UInt8) (m : Nat) : List UInt8 := List.replicate m f
theorem zeros_len (L : Nat) : (zeros L).length = L := List.length_replicate
theorem fills_len (f : UInt8) (L : Nat) : (fills f L).length = L := List.length_replicate
theorem made_zero (L : Nat) : madeCells (Value.int .u8 0).cells L = (bcells (zeros L)).toArray := by
  unfold zeros
  apply Array.ext_getElem?
  intro i
  simp only [madeCells, bcells, List.getElem?_toArray, List.map_replicate]
  by_cases h : i < L
  · simp [h, Value.cells, Nat.mod_one]
  · simp [h]
/-- make([]byte, L). -/
theorem mk_bytes (L : Nat) (hL : L ≤ 140737488351232) (w : World) : (Instr.makeSlice 22 (.int .i64 (L : Int)) (.int .i64 (L : Int))).run Try.prog w = .ok (.slice (some ⟨w.heap.size, 0, none⟩) L L) (w.alloc (.cells (bcells (zeros L)).toArray 5)) := by
  obtain ⟨i0, hi, hz0, hz1, hz2⟩ := info_parts infoByte
  have h := run_make (P := Try.prog) w 22 5 i0 (.int .u8 0) Try.underlying22 hi hz0 .i64 .i64 (L : Int) (L : Int) (by omega) (Int.le_refl _) (by rw [hz2]; omega) (by omega)
  rw [hz1, Nat.mul_one, Int.toNat_natCast, made_zero] at h
  exact h
theorem mk512 (w : World) : (Instr.makeSlice 22 (.int .i64 512) (.int .i64 512)).run Try.prog w = .ok (.slice (some ⟨w.heap.size, 0, none⟩) 512 512) (w.alloc (.cells (bcells (zeros 512)).toArray 5)) := mk_bytes 512 (by omega) w
theorem mk513 (w : World) : (Instr.makeSlice 22 (.int .i64 513) (.int .i64 513)).run Try.prog w = .ok (.slice (some ⟨w.heap.size, 0, none⟩) 513 513) (w.alloc (.cells (bcells (zeros 513)).toArray 5)) := mk_bytes 513 (by omega) w
/-- Filled up to a place. -/
def fillTo (f : UInt8) (m k : Nat) : List UInt8 := List.replicate k f ++ List.replicate (m - k) 0
theorem fillTo_len {f : UInt8} {m k : Nat} (h : k ≤ m) : (fillTo f m k).length = m := by simp [fillTo]; omega
theorem fillTo_zero (f : UInt8) (m : Nat) : fillTo f m 0 = zeros m := by simp [fillTo, zeros]
theorem fillTo_all (f : UInt8) (m : Nat) : fillTo f m m = fills f m := by simp [fillTo, fills]
theorem fillTo_next {f : UInt8} {m k : Nat} (h : k < m) : (fillTo f m k).set k f = fillTo f m (k + 1) := by
  apply List.ext_getElem?
  intro i
  rw [List.getElem?_set]
  unfold fillTo
  by_cases h1 : k = i
  · subst h1
    rw [if_pos rfl, if_pos (by simp; omega), List.getElem?_append_left (by simp), List.getElem?_replicate, if_pos (by omega)]
  · rw [if_neg h1]
    by_cases h2 : i < k
    · rw [List.getElem?_append_left (by simpa using h2), List.getElem?_append_left (by simp; omega), List.getElem?_replicate, List.getElem?_replicate, if_pos h2, if_pos (by omega)]
    · rw [List.getElem?_append_right (by simp; omega), List.getElem?_append_right (by simp; omega), List.getElem?_replicate, List.getElem?_replicate]
      simp only [List.length_replicate]
      by_cases h3 : i < m
      · rw [if_pos (by omega), if_pos (by omega)]
      · rw [if_neg (by omega), if_neg (by omega)]
theorem bcells_set (l : List UInt8) (i : Nat) (c : UInt8) : (bcells l).set i (.int .u8 (c.toNat : Int)) = bcells (l.set i c) := by simp [bcells, List.map_set]
/-- The page of an act. -/
def pageM (f : UInt8) (b : List UInt8) (m : Nat) : List UInt8 := over (b.take m) (fills f m)
theorem pageM_len (f : UInt8) (b : List UInt8) (m : Nat) : (pageM f b m).length = m := by
  unfold pageM
  rw [over_len (by rw [fills_len, List.length_take]; omega), fills_len]
def opV (kind n : Int) (f : UInt8) (bv : Value) (long : Bool) (kv : Value) (torn cut : Int) : Value := .agg #[.int .i64 kind, .int .i64 n, .int .u8 (f.toNat : Int), bv, .bool long, kv, .int .i64 torn, .int .i64 cut]

end Go.Proofs.Ytnecigbncggogaa
