/- What (Op).Page makes; make of bytes. Condition: the bytes lie within the reach. -/
import Derived.Test.YtfgcjcffplglhaaDkSync
import Derived.Laws.MakeOwn
namespace Go.Proofs.Ytfgcjcffplglhaa
open Go.RowKit
set_option linter.unusedVariables false
set_option maxRecDepth 20000

/-- So many noughts; so many of a byte. -/
def zeros (L : Nat) : List UInt8 := List.replicate L 0
def fills (f : UInt8) (m : Nat) : List UInt8 := List.replicate m f
theorem zeros_len (L : Nat) : (zeros L).length = L := List.length_replicate
theorem fills_len (f : UInt8) (L : Nat) : (fills f L).length = L := List.length_replicate
theorem made_zero (L : Nat) : madeCells (Value.int .u8 0).cells L = (bcells (zeros L)).toArray := by
  unfold zeros
  apply Array.ext_getElem?
  intro i
  simp only [madeCells, bcells, List.getElem?_toArray, List.map_replicate]
  by_cases h : i < L
  · simp [h, Value.cells, Nat.mod_one]
  · simp [h]
/-- make([]byte, L). -/
theorem mk_bytes (L : Nat) (hL : L ≤ 140737488351232) (w : World) : (Instr.makeSlice 30 (.int .i64 (L : Int)) (.int .i64 (L : Int))).run Try.prog w = .ok (.slice (some ⟨w.heap.size, 0, none⟩) L L) (w.alloc (.cells (bcells (zeros L)).toArray 5)) := by
  obtain ⟨i0, hi, hz0, hz1, hz2⟩ := info_parts infoByte
  have h := run_make (P := Try.prog) w 30 5 i0 (.int .u8 0) Try.underlying30 hi hz0 .i64 .i64 (L : Int) (L : Int) (by omega) (Int.le_refl _) (by rw [hz2]; omega) (by omega)
  rw [hz1, Nat.mul_one, Int.toNat_natCast, made_zero] at h
  exact h
theorem mk512 (w : World) : (Instr.makeSlice 30 (.int .i64 512) (.int .i64 512)).run Try.prog w = .ok (.slice (some ⟨w.heap.size, 0, none⟩) 512 512) (w.alloc (.cells (bcells (zeros 512)).toArray 5)) := mk_bytes 512 (by omega) w
theorem mk513 (w : World) : (Instr.makeSlice 30 (.int .i64 513) (.int .i64 513)).run Try.prog w = .ok (.slice (some ⟨w.heap.size, 0, none⟩) 513 513) (w.alloc (.cells (bcells (zeros 513)).toArray 5)) := mk_bytes 513 (by omega) w
/-- Filled up to a place. -/
def fillTo (f : UInt8) (m k : Nat) : List UInt8 := List.replicate k f ++ List.replicate (m - k) 0
theorem fillTo_len {f : UInt8} {m k : Nat} (h : k ≤ m) : (fillTo f m k).length = m := by simp [fillTo]; omega
theorem fillTo_zero (f : UInt8) (m : Nat) : fillTo f m 0 = zeros m := by simp [fillTo, zeros]
theorem fillTo_all (f : UInt8) (m : Nat) : fillTo f m m = fills f m := by simp [fillTo, fills]
theorem fillTo_next {f : UInt8} {m k : Nat} (h : k < m) : (fillTo f m k).set k f = fillTo f m (k + 1) := by
  apply List.ext_getElem?
  intro i
  rw [List.getElem?_set]
  unfold fillTo
  by_cases h1 : k = i
  · subst h1
    rw [if_pos rfl, if_pos (by simp; omega), List.getElem?_append_left (by simp), List.getElem?_replicate, if_pos (by omega)]
  · rw [if_neg h1]
    by_cases h2 : i < k
    · rw [List.getElem?_append_left (by simpa using h2), List.getElem?_append_left (by simp; omega), List.getElem?_replicate, List.getElem?_replicate, if_pos h2, if_pos (by omega)]
    · rw [List.getElem?_append_right (by simp; omega), List.getElem?_append_right (by simp; omega), List.getElem?_replicate, List.getElem?_replicate]
      simp only [List.length_replicate]
      by_cases h3 : i < m
      · rw [if_pos (by omega), if_pos (by omega)]
      · rw [if_neg (by omega), if_neg (by omega)]
theorem bcells_set (l : List UInt8) (i : Nat) (c : UInt8) : (bcells l).set i (.int .u8 (c.toNat : Int)) = bcells (l.set i c) := by simp [bcells, List.map_set]
/-- The page of an act. -/
def pageM (f : UInt8) (b : List UInt8) (m : Nat) : List UInt8 := over (b.take m) (fills f m)
theorem pageM_len (f : UInt8) (b : List UInt8) (m : Nat) : (pageM f b m).length = m := by
  unfold pageM
  rw [over_len (by rw [fills_len, List.length_take]; omega), fills_len]
def opV (kind n : Int) (f : UInt8) (bv : Value) (long : Bool) (kv : Value) (torn cut : Int) : Value := .agg #[.int .i64 kind, .int .i64 n, .int .u8 (f.toNat : Int), bv, .bool long, kv, .int .i64 torn, .int .i64 cut]

set_option maxHeartbeats 1000000 in
theorem page_512 (kind n : Int) (f : UInt8) (bp : Option Addr) (b : List UInt8) (bc : Nat) (kv : Value) (torn cut : Int) (w : World) (hb : Byts w bp b) :
    Calls Try.prog 27 #[opV kind n f (.slice bp b.length bc) false kv torn cut] w fun e w' => e = .returned (.slice (some ⟨w.heap.size + 1, 0, none⟩) 512 512) ∧ Blk w' (w.heap.size + 1) (bcells (pageM f b 512)) 5 ∧ Below w.heap.size w w' ∧ w'.heap.size = w.heap.size + 2 := by
  unfold opV
  have HW1 : Hid (∀ o, Blk (w.alloc (.cells #[.int .i64 kind, .int .i64 n, .int .u8 (f.toNat : Int), .slice bp b.length bc, .bool false, kv, .int .i64 torn, .int .i64 cut] 33)) w.heap.size [.int .i64 kind, .int .i64 n, .int .u8 (f.toNat : Int), .slice bp b.length bc, .bool false, kv, .int .i64 torn, .int .i64 cut] o → True) := fun _ _ => trivial
  have HBX := Blk.new w [.int .i64 kind, .int .i64 n, .int .u8 (f.toNat : Int), .slice bp b.length bc, .bool false, kv, .int .i64 torn, .int .i64 cut] 33
  have x4 : (w.alloc (.cells #[.int .i64 kind, .int .i64 n, .int .u8 (f.toNat : Int), .slice bp b.length bc, .bool false, kv, .int .i64 torn, .int .i64 cut] 33)).cell? ⟨w.heap.size, 4, none⟩ = some (.bool false) := HBX.cell 4
  have hmk := mk512
  have HB := hid hb
  have HB1 : Hid (Below w.heap.size w ((w.alloc (.cells #[.int .i64 kind, .int .i64 n, .int .u8 (f.toNat : Int), .slice bp b.length bc, .bool false, kv, .int .i64 torn, .int .i64 cut] 33)).alloc (.cells (bcells (zeros 512)).toArray 5))) := ((Below.refl _ _).alloc (Nat.le_refl _) _).alloc (by simp) _
  have HX1 := hid (HBX.alloc (.cells (bcells (zeros 512)).toArray 5))
  have HG0 := Blk.new (w.alloc (.cells #[.int .i64 kind, .int .i64 n, .int .u8 (f.toNat : Int), .slice bp b.length bc, .bool false, kv, .int .i64 torn, .int .i64 cut] 33)) (bcells (zeros 512)) 5
  rw [show (w.alloc (.cells #[.int .i64 kind, .int .i64 n, .int .u8 (f.toNat : Int), .slice bp b.length bc, .bool false, kv, .int .i64 torn, .int .i64 cut] 33)).heap.size = w.heap.size + 1 by simp, ← fillTo_zero f] at HG0
  have HG := hid HG0
  have HSZ : Hid (((w.alloc (.cells #[.int .i64 kind, .int .i64 n, .int .u8 (f.toNat : Int), .slice bp b.length bc, .bool false, kv, .int .i64 torn, .int .i64 cut] 33)).alloc (.cells (bcells (zeros 512)).toArray 5)).heap.size = w.heap.size + 2) := by show _ = _; simp
  clear HW1 HBX hb HG0
  go_enter Try.func27, Try.ntmps27
  go_wp2
  clear hmk x4
  go_loopw [5] (fun i wr => ∃ k : Nat, i = .int .i64 (k : Int) ∧ k ≤ 512 ∧ Blk wr (w.heap.size + 1) (bcells (fillTo f 512 k)) 5 ∧ Blk wr w.heap.size [.int .i64 kind, .int .i64 n, .int .u8 (f.toNat : Int), .slice bp b.length bc, .bool false, kv, .int .i64 torn, .int .i64 cut] 33 ∧ Below w.heap.size w wr ∧ wr.heap.size = w.heap.size + 2) (fun i _ => 512 - (RowKit.intOf i).toNat)
  case atStart => exact ⟨0, rfl, Nat.zero_le _, HG.out, HX1.out, HB1.out, HSZ.out⟩
  case round =>
    clear HG HX1 HB1 HSZ
    obtain ⟨k, rfl, hk, hG, hX, hBl, hS⟩ := hrel
    have HX := hid hX
    have HG := hid hG
    have HBl := hid hBl
    have HS := hid hS
    have x2 : wr.cell? ⟨w.heap.size, 2, none⟩ = some (.int .u8 (f.toNat : Int)) := hX.cell 2
    have x3 : wr.cell? ⟨w.heap.size, 3, none⟩ = some (.slice bp b.length bc) := hX.cell 3
    have gf := hG.frozen k
    clear hX hG hBl hS
    by_cases hx : k < 512
    · have gc : wr.cell? ⟨w.heap.size + 1, k, none⟩ = some (.int .u8 ((fillTo f 512 k)[k]'(by rw [fillTo_len hk]; exact hx)).toNat) := (HG.out.cell k).trans (bcells_at _)
      generalize (fillTo f 512 k)[k]'(by rw [fillTo_len hk]; exact hx) = old at gc
      have hx' : (k : Int) < 512 := by omega
      clear x3
      go_wp2
      go_roundw
      case rel =>
        refine ⟨k + 1, by go_num, by omega, ?_, ?_, HBl.out.setCell (by simp) _, by rw [set_size]; exact HS.out⟩
        · have q := HG.out.set (i := k) (.int .u8 (f.toNat : Int))
          rw [bcells_set, fillTo_next hx] at q
          exact q
        · exact HX.out.same (set_block (by omega))
      case measure => simp [RowKit.intOf]; omega
    · obtain rfl : k = 512 := by omega
      have HG' : Hid (Blk wr (w.heap.size + 1) (bcells (fills f 512)) 5) := by have := HG.out; rwa [fillTo_all] at this
      have HBy : Hid (Byts wr bp (b.take 512)) := by
        rcases HB.out with h | ⟨g, off, hp, hc⟩
        · left; rw [h]; simp
        · refine Or.inr ⟨g, off, hp, fun i hi => ?_⟩
          have hi' : i < b.length := by simp at hi; omega
          rw [List.getElem_take]
          exact (World.cell?_of_block (w := w) (a := ⟨g, off + i, none⟩) (HBl.out.block g (cell_lt (hc i hi')))).trans (hc i hi')
      clear HG
      have HN : Hid ((bcells (b.take 512)).length = Nat.min b.length 512) := by show _ = _; rw [bcells_len, List.length_take, Nat.min_comm]
      have HF : Hid (0 + (bcells (b.take 512)).length ≤ (bcells (fills f 512)).length) := by show _ ≤ _; rw [bcells_len, bcells_len, List.length_take, fills_len]; omega
      go_wp2_with (first
        | (refine wl_copy rfl _ _ rfl _ _ _ _ _ _ _ rfl rfl (bcells (fills f 512)) 5 ?hb (bcells (b.take 512)) ?hn ?hs ?hf (bcells_one _) ?_; (case hb => exact HG'.out); (case hn => exact HN.out); (case hs => exact HBy.out.src); (case hf => exact HF.out); intro w5 B5 C5 S5; have HB5 := hid B5; have HC5 := hid C5; have HS5 := hid S5; clear B5 C5 S5; try go_frame)
        | fail)
      go_ret
      refine ⟨rfl, ?_, ?_, by have := HS5.out; have := HS.out; omega⟩
      · have q := HB5.out
        rw [splice_over] at q
        exact q
      · exact HBl.out.trans ((HC5.out (· = w.heap.size + 1) rfl).below (B := w.heap.size) (fun j e => by rw [e]; omega) (by have := HS.out; omega))

set_option maxHeartbeats 1000000 in
theorem page_513 (kind n : Int) (f : UInt8) (bp : Option Addr) (b : List UInt8) (bc : Nat) (kv : Value) (torn cut : Int) (w : World) (hb : Byts w bp b) :
    Calls Try.prog 27 #[opV kind n f (.slice bp b.length bc) true kv torn cut] w fun e w' => e = .returned (.slice (some ⟨w.heap.size + 1, 0, none⟩) 513 513) ∧ Blk w' (w.heap.size + 1) (bcells (pageM f b 513)) 5 ∧ Below w.heap.size w w' ∧ w'.heap.size = w.heap.size + 2 := by
  unfold opV
  have HW1 : Hid (∀ o, Blk (w.alloc (.cells #[.int .i64 kind, .int .i64 n, .int .u8 (f.toNat : Int), .slice bp b.length bc, .bool true, kv, .int .i64 torn, .int .i64 cut] 33)) w.heap.size [.int .i64 kind, .int .i64 n, .int .u8 (f.toNat : Int), .slice bp b.length bc, .bool true, kv, .int .i64 torn, .int .i64 cut] o → True) := fun _ _ => trivial
  have HBX := Blk.new w [.int .i64 kind, .int .i64 n, .int .u8 (f.toNat : Int), .slice bp b.length bc, .bool true, kv, .int .i64 torn, .int .i64 cut] 33
  have x4 : (w.alloc (.cells #[.int .i64 kind, .int .i64 n, .int .u8 (f.toNat : Int), .slice bp b.length bc, .bool true, kv, .int .i64 torn, .int .i64 cut] 33)).cell? ⟨w.heap.size, 4, none⟩ = some (.bool true) := HBX.cell 4
  have hmk := mk513
  have HB := hid hb
  have HB1 : Hid (Below w.heap.size w ((w.alloc (.cells #[.int .i64 kind, .int .i64 n, .int .u8 (f.toNat : Int), .slice bp b.length bc, .bool true, kv, .int .i64 torn, .int .i64 cut] 33)).alloc (.cells (bcells (zeros 513)).toArray 5))) := ((Below.refl _ _).alloc (Nat.le_refl _) _).alloc (by simp) _
  have HX1 := hid (HBX.alloc (.cells (bcells (zeros 513)).toArray 5))
  have HG0 := Blk.new (w.alloc (.cells #[.int .i64 kind, .int .i64 n, .int .u8 (f.toNat : Int), .slice bp b.length bc, .bool true, kv, .int .i64 torn, .int .i64 cut] 33)) (bcells (zeros 513)) 5
  rw [show (w.alloc (.cells #[.int .i64 kind, .int .i64 n, .int .u8 (f.toNat : Int), .slice bp b.length bc, .bool true, kv, .int .i64 torn, .int .i64 cut] 33)).heap.size = w.heap.size + 1 by simp, ← fillTo_zero f] at HG0
  have HG := hid HG0
  have HSZ : Hid (((w.alloc (.cells #[.int .i64 kind, .int .i64 n, .int .u8 (f.toNat : Int), .slice bp b.length bc, .bool true, kv, .int .i64 torn, .int .i64 cut] 33)).alloc (.cells (bcells (zeros 513)).toArray 5)).heap.size = w.heap.size + 2) := by show _ = _; simp
  clear HW1 HBX hb HG0
  go_enter Try.func27, Try.ntmps27
  go_wp2
  clear hmk x4
  go_loopw [5] (fun i wr => ∃ k : Nat, i = .int .i64 (k : Int) ∧ k ≤ 513 ∧ Blk wr (w.heap.size + 1) (bcells (fillTo f 513 k)) 5 ∧ Blk wr w.heap.size [.int .i64 kind, .int .i64 n, .int .u8 (f.toNat : Int), .slice bp b.length bc, .bool true, kv, .int .i64 torn, .int .i64 cut] 33 ∧ Below w.heap.size w wr ∧ wr.heap.size = w.heap.size + 2) (fun i _ => 513 - (RowKit.intOf i).toNat)
  case atStart => exact ⟨0, rfl, Nat.zero_le _, HG.out, HX1.out, HB1.out, HSZ.out⟩
  case round =>
    clear HG HX1 HB1 HSZ
    obtain ⟨k, rfl, hk, hG, hX, hBl, hS⟩ := hrel
    have HX := hid hX
    have HG := hid hG
    have HBl := hid hBl
    have HS := hid hS
    have x2 : wr.cell? ⟨w.heap.size, 2, none⟩ = some (.int .u8 (f.toNat : Int)) := hX.cell 2
    have x3 : wr.cell? ⟨w.heap.size, 3, none⟩ = some (.slice bp b.length bc) := hX.cell 3
    have gf := hG.frozen k
    clear hX hG hBl hS
    by_cases hx : k < 513
    · have gc : wr.cell? ⟨w.heap.size + 1, k, none⟩ = some (.int .u8 ((fillTo f 513 k)[k]'(by rw [fillTo_len hk]; exact hx)).toNat) := (HG.out.cell k).trans (bcells_at _)
      generalize (fillTo f 513 k)[k]'(by rw [fillTo_len hk]; exact hx) = old at gc
      have hx' : (k : Int) < 513 := by omega
      clear x3
      go_wp2
      go_roundw
      case rel =>
        refine ⟨k + 1, by go_num, by omega, ?_, ?_, HBl.out.setCell (by simp) _, by rw [set_size]; exact HS.out⟩
        · have q := HG.out.set (i := k) (.int .u8 (f.toNat : Int))
          rw [bcells_set, fillTo_next hx] at q
          exact q
        · exact HX.out.same (set_block (by omega))
      case measure => simp [RowKit.intOf]; omega
    · obtain rfl : k = 513 := by omega
      have HG' : Hid (Blk wr (w.heap.size + 1) (bcells (fills f 513)) 5) := by have := HG.out; rwa [fillTo_all] at this
      have HBy : Hid (Byts wr bp (b.take 513)) := by
        rcases HB.out with h | ⟨g, off, hp, hc⟩
        · left; rw [h]; simp
        · refine Or.inr ⟨g, off, hp, fun i hi => ?_⟩
          have hi' : i < b.length := by simp at hi; omega
          rw [List.getElem_take]
          exact (World.cell?_of_block (w := w) (a := ⟨g, off + i, none⟩) (HBl.out.block g (cell_lt (hc i hi')))).trans (hc i hi')
      clear HG
      have HN : Hid ((bcells (b.take 513)).length = Nat.min b.length 513) := by show _ = _; rw [bcells_len, List.length_take, Nat.min_comm]
      have HF : Hid (0 + (bcells (b.take 513)).length ≤ (bcells (fills f 513)).length) := by show _ ≤ _; rw [bcells_len, bcells_len, List.length_take, fills_len]; omega
      go_wp2_with (first
        | (refine wl_copy rfl _ _ rfl _ _ _ _ _ _ _ rfl rfl (bcells (fills f 513)) 5 ?hb (bcells (b.take 513)) ?hn ?hs ?hf (bcells_one _) ?_; (case hb => exact HG'.out); (case hn => exact HN.out); (case hs => exact HBy.out.src); (case hf => exact HF.out); intro w5 B5 C5 S5; have HB5 := hid B5; have HC5 := hid C5; have HS5 := hid S5; clear B5 C5 S5; try go_frame)
        | fail)
      go_ret
      refine ⟨rfl, ?_, ?_, by have := HS5.out; have := HS.out; omega⟩
      · have q := HB5.out
        rw [splice_over] at q
        exact q
      · exact HBl.out.trans ((HC5.out (· = w.heap.size + 1) rfl).below (B := w.heap.size) (fun j e => by rw [e]; omega) (by have := HS.out; omega))
end Go.Proofs.Ytfgcjcffplglhaa
