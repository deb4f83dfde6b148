/- What (*Disk).Pending answers. Condition: fewer than a million writes are pending. -/
import Derived.Test.YtnecigbncggogaaDkLaw
namespace Go.Proofs.Ytnecigbncggogaa
open Go.RowKit
set_option linter.unusedVariables false
set_option maxRecDepth 20000

def icells (l : List Int) : List Value := l.map fun n => Value.int .i64 n
theorem icells_len (l : List Int) : (icells l).length = l.length := List.length_map ..
theorem infoInt : (Try.prog.info? 3).map (fun i => (i.zero, i.size, i.bytes)) = some (some (.int .i64 0), 1, 8) := by kernel_rfl
def izeros (L : Nat) : List Int := List.replicate L 0
theorem made_izero (L : Nat) : madeCells (Value.int .i64 0).cells L = (icells (izeros L)).toArray := by
  unfold izeros
  apply Array.ext_getElem?
  intro i
  simp only [madeCells, icells, List.getElem?_toArray, List.map_replicate]
  by_cases h : i < L
  · simp [h, Value.cells, Nat.mod_one]
  · simp [h]
theorem mk_ints (L : Nat) (hL : L ≤ 17592186044000) (w : World) : (Instr.makeSlice 57 (.int .i64 (L : Int)) (.int .i64 (L : Int))).run Try.prog w = .ok (.slice (some ⟨w.heap.size, 0, none⟩) L L) (w.alloc (.cells (icells (izeros L)).toArray 3)) := by
  obtain ⟨i0, hi, hz0, hz1, hz2⟩ := info_parts infoInt
  have h := run_make (P := Try.prog) w 57 3 i0 (.int .i64 0) Try.underlying57 hi hz0 .i64 .i64 (L : Int) (L : Int) (by omega) (Int.le_refl _) (by rw [hz2]; omega) (by omega)
  rw [hz1, Nat.mul_one, Int.toNat_natCast, made_izero] at h
  exact h
/-- The first k pages of the pending writes, then noughts. -/
def pendTo (l : List (Int × List UInt8)) (k : Nat) : List Int := (l.take k).map (·.1) ++ izeros (l.length - k)
theorem pendTo_len {l : List (Int × List UInt8)} {k : Nat} (h : k ≤ l.length) : (pendTo l k).length = l.length := by simp [pendTo, izeros]; omega
theorem pendTo_zero (l : List (Int × List UInt8)) : pendTo l 0 = izeros l.length := by simp [pendTo]
theorem pendTo_all (l : List (Int × List UInt8)) : pendTo l l.length = l.map (·.1) := by simp [pendTo, izeros]
theorem pendTo_next {l : List (Int × List UInt8)} {k : Nat} (h : k < l.length) : (pendTo l k).set k l[k].1 = pendTo l (k + 1) := by
  apply List.ext_getElem?
  intro i
  rw [List.getElem?_set]
  unfold pendTo izeros
  by_cases h1 : k = i
  · subst h1
    rw [if_pos rfl, if_pos (by simp; omega), List.getElem?_append_left (by simp; omega)]
    simp [h]
  · rw [if_neg h1]
    by_cases h2 : i < k
    · rw [List.getElem?_append_left (by simp; omega), List.getElem?_append_left (by simp; omega)]
      simp [h2, show i < k + 1 by omega]
    · rw [List.getElem?_append_right (by simp; omega), List.getElem?_append_right (by simp; omega), List.getElem?_replicate, List.getElem?_replicate]
      simp only [List.length_map, List.length_take]
      by_cases h3 : i < l.length
      · rw [if_pos (by omega), if_pos (by omega)]
      · rw [if_neg (by omega), if_neg (by omega)]
theorem icells_set (l : List Int) (i : Nat) (c : Int) : (icells l).set i (.int .i64 c) = icells (l.set i c) := by simp [icells, List.map_set]
theorem icells_at {l : List Int} {i : Nat} (h : i < l.length) : (icells l)[i]? = some (.int .i64 l[i]) := by simp [icells, h]
/-- The address of a write's first field is the write's own. -/
theorem wl_field0 {ops : Array Oper} {rest : List Oper} {o : Oper} {a : Act} {w : World} {Q : Exit → Act → World → Prop} (hgd : o.guard = none) (x : Operand) (ho : o.op = .fieldAddr 110 x 0) (p : Addr) (hx : a.eval x = .pointer (some p))
    (h : wpList Try.prog ops Q rest (a.put o.dst (.pointer (some p))) w) : wpList Try.prog ops Q (o :: rest) a w := by
  refine wpList_plain hgd fun K hK => ?_
  have hr : (Instr.fieldAt 110 (.pointer (some p)) 0).run Try.prog w = .ok (.pointer (some p)) w := by
    simp only [Instr.fieldAt, Instr.sureAddr, Sem.run_bind, run_underlying Try.underlying110, Result.andThen_ok]
    rfl
  unfold Oper.wp execOp
  simp only [ho, hx, Sem.run_bind, hr, Result.andThen_ok, Sem.run_pure]
  exact hK _ _ h
end Go.Proofs.Ytnecigbncggogaa
