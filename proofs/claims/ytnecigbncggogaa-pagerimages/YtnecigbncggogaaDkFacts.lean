/- Pages as arrays of bytes: what the program's own table says of them. No conditions. -/
import Derived.Test.YtnecigbncggogaaDkMem
import Derived.Laws.StructEq
import Derived.Stop.BytesEq
import Derived.Deep.WholeRow
import Derived.Maps.RangeWalk
namespace Go.Proofs.Ytnecigbncggogaa
open Go.RowKit
set_option linter.unusedVariables false
set_option maxRecDepth 20000

def bcells (l : List UInt8) : List Value := l.map fun b => Value.int .u8 b.toNat
/-- The cells of a page. -/
def pg (l : List UInt8) : Array Value := (bcells l).toArray
theorem bcells_len (l : List UInt8) : (bcells l).length = l.length := List.length_map ..
theorem pg_size (l : List UInt8) : (pg l).size = l.length := by simp [pg, bcells_len]
theorem bcells_one (l : List UInt8) : ∀ u ∈ bcells l, u.oneCell' = true := by
  intro u hu
  obtain ⟨b, _, rfl⟩ := List.mem_map.1 hu
  rfl
theorem pg_one (l : List UInt8) : (pg l).all (·.oneCell') = true := all_oneCell_toArray (bcells_one l)
theorem bcells_append (l m : List UInt8) : bcells l ++ bcells m = bcells (l ++ m) := by simp [bcells]
theorem bcells_drop (l : List UInt8) (n : Nat) : (bcells l).drop n = bcells (l.drop n) := by simp [bcells]
theorem bcells_take (l : List UInt8) (n : Nat) : (bcells l).take n = bcells (l.take n) := by simp [bcells]
theorem bcells_inj {l m : List UInt8} (h : bcells l = bcells m) : l = m := by
  unfold bcells at h
  refine List.map_inj_right (fun a b e => ?_) |>.1 h
  simp only [Value.int.injEq, true_and] at e
  exact UInt8.toNat_inj.1 (by omega)
theorem bcells_at {l : List UInt8} {i : Nat} (h : i < l.length) : (bcells l)[i]? = some (.int .u8 (l[i].toNat : Int)) := by simp [bcells, h]

set_option maxRecDepth 100000 in
theorem infoPage : (Try.prog.info? 93).map (fun i => (i.zero, i.size, i.bytes)) = some (some (.agg (pg zero512)), 512, 512) := by kernel_rfl
set_option maxRecDepth 100000 in
theorem infoWrite : (Try.prog.info? 110).map (fun i => (i.zero, i.size, i.bytes)) = some (some (.agg (#[.int .i64 0] ++ pg zero512)), 513, 520) := by kernel_rfl
theorem infoByte : (Try.prog.info? 5).map (fun i => (i.zero, i.size, i.bytes)) = some (some (.int .u8 0), 1, 1) := by kernel_rfl
theorem sizePage : (Try.prog.info? 93).map (·.size) = some 512 := by kernel_rfl
theorem sizeWrite : (Try.prog.info? 110).map (·.size) = some 513 := by kernel_rfl
theorem sizeByte : (Try.prog.info? 5).map (·.size) = some 1 := by kernel_rfl
theorem zeroPage (w : World) : (zeroValue 93).run Try.prog w = .ok (.agg (pg zero512)) w := by
  obtain ⟨i, hi, hz, _⟩ := info_parts infoPage
  simp [zeroValue, typeInfo, hi, hz]
theorem zeroWrite (w : World) : (zeroValue 110).run Try.prog w = .ok (.agg (#[.int .i64 0] ++ pg zero512)) w := by
  obtain ⟨i, hi, hz, _⟩ := info_parts infoWrite
  simp [zeroValue, typeInfo, hi, hz]
set_option maxRecDepth 100000 in
theorem builtPage : Try.prog.built 93 [] = some (pg zero512) := by kernel_rfl
set_option maxRecDepth 100000 in
theorem builtWrite (n : Int) : Try.prog.built 110 [(0, .int .i64 n)] = some (#[.int .i64 n] ++ pg zero512) := by kernel_rfl

end Go.Proofs.Ytnecigbncggogaa
