/- What value.hex answers: two digits for each byte. Condition: the text takes at most 2 to the 46th bytes. -/
import Derived.Test.YtekapdpfbkdflaaGreatDoorShelf
import Derived.Test.YtekapdpfbkdflaaGreatDoorChecked
import Derived.WalkKit
import Derived.Handy
import Derived.Lib.Builder
namespace Go.Proofs.YtekapdpfbkdflaaGreatDoor
open Go.RowKit Go.Lib
set_option linter.unusedVariables false
set_option maxRecDepth 20000

theorem infoBuilder : (Tryz.prog.info? 70).map (·.size) = some 2 := by kernel_rfl
theorem infoByte : (Tryz.prog.info? 5).map (fun i => (i.zero, i.size, i.bytes)) = some (some (.int .u8 0), 1, 1) := by kernel_rfl

set_option maxHeartbeats 400000 in
theorem copyCheck_used (b : Nat) (w : World) (h0 : w.cell? ⟨b, 0, none⟩ = some (.pointer (some ⟨b, 0, none⟩))) :
    Calls Tryz.prog 90 #[.pointer (some ⟨b, 0, none⟩)] w fun e w' => e = .returned (.tuple #[]) ∧ w' = w := by
  obtain ⟨j, hj, _⟩ := Option.map_eq_some_iff.1 infoBuilder
  go_enter Tryz.func90, Tryz.ntmps90
  go_wp2
  rw [Lib.run_neq_ptr_same w _ Tryz.underlying67 hj]
  go_wp2
  go_end0
  exact ⟨rfl, rfl⟩

set_option maxHeartbeats 1000000 in
theorem writeByte_any (B b : Nat) (bs : List Value) (c : Int) (w : World) (h : Lib.BuilderAt 70 5 B b (.pointer (some ⟨b, 0, none⟩)) bs w) (hlen : bs.length + 1 ≤ 140737488355328) (hBw : B ≤ w.heap.size) :
    Calls Tryz.prog 52 #[.pointer (some ⟨b, 0, none⟩), .int .u8 c] w fun e w' => e = .returned .nilIface ∧ Lib.BuilderAt 70 5 B b (.pointer (some ⟨b, 0, none⟩)) (bs ++ [.int .u8 c]) w' ∧ Below B w w' := by
  obtain ⟨i0, hi, hz0, hz1, hz2⟩ := info_parts infoByte
  have hc0 := h.cell0
  have hlt := h.lt
  obtain ⟨hB, v, hbk, hown, hne⟩ := h
  have c1 : w.cell? ⟨b, 1, none⟩ = some v := by rw [Lib.cell_of_heap hbk]; rfl
  go_enter Tryz.func52, Tryz.ntmps52
  go_wp2_with (first
    | (go_at_call 90; refine (copyCheck_used b _ hc0).mono ?_; rintro e w1 ⟨rfl, rfl⟩)
    | (at_builtin; refine wpList_append_own _ rfl _ _ 68 rfl B 5 i0 (.int .u8 0) 1 1 Tryz.underlying68 hi hz0 hz1 hz2 rfl (by decide) _ _ _ rfl (hown.alloc _) ⟨_, 0, none⟩ 1 1 [.int .u8 c] rfl rfl ?c1 ?c2 ?c3 ?c4 ?c5 ?_))
  case c1 =>
    intro j u hj
    match j, hj with
    | 0, hj => simp at hj; subst hj; simp [Addr.add]
  case c2 => intro u hu; simp at hu; subst hu; rfl
  case c3 => unfold maxLen; omega
  case c4 => omega
  case c5 => simp; omega
  intro v' w2 hown' hgrow _
  have hb2 : w2.heap[b]? = some (.cells #[.pointer (some ⟨b, 0, none⟩), v] 70 (0, 0)) := by
    rw [hgrow.block b (by simp; omega) (fun e => hne e.symm), Below.heap_alloc _ _ _ hlt]
    exact hbk
  have d0 : w2.cell? ⟨b, 0, none⟩ = some (.pointer (some ⟨b, 0, none⟩)) := by rw [Lib.cell_of_heap hb2]; rfl
  have d1 : w2.cell? ⟨b, 1, none⟩ = some v := by rw [Lib.cell_of_heap hb2]; rfl
  have f1 : w2.frozen? ⟨b, 1, none⟩ = false := Lib.frozen_of_heap hb2 1
  obtain ⟨g, cap, rfl⟩ : ∃ g cap, v' = .slice (some ⟨g, 0, none⟩) (bs.length + 1) cap := by
    rcases hown'.2 with ⟨_, h0⟩ | ⟨g, cap, cur, hv, _⟩
    · omega
    · exact ⟨g, cap, hv⟩
  go_wp2
  go_ret
  refine ⟨rfl, ?_, ?_⟩
  · exact Lib.BuilderAt.put hB hb2 (bs' := bs ++ [.int .u8 c]) (by simpa using hown') (by decide)
  · exact ((((Below.refl B _).alloc hBw _).grown hgrow (by simp; omega) (fun k hk => (hown.lt k hk).1))).setCell (p := ⟨b, 1, none⟩) hB _

/-- A digit of hex. -/
def hexd (n : Nat) : UInt8 := [48, 49, 50, 51, 52, 53, 54, 55, 56, 57, 65, 66, 67, 68, 69, 70].getD n 0
def hexL : List UInt8 → List UInt8
  | [] => []
  | c :: l => hexd (c.toNat / 16) :: hexd (c.toNat % 16) :: hexL l
theorem hexL_snoc : ∀ (l : List UInt8) (c : UInt8), hexL (l ++ [c]) = hexL l ++ [hexd (c.toNat / 16), hexd (c.toNat % 16)]
  | [], c => rfl
  | x :: l, c => by simp [hexL, hexL_snoc l c]
theorem hexL_length : ∀ l : List UInt8, (hexL l).length = 2 * l.length
  | [] => rfl
  | c :: l => by simp [hexL, hexL_length l]; omega

theorem hexAt : ∀ (n : Nat) (h : n < 16), (⟨#[48, 49, 50, 51, 52, 53, 54, 55, 56, 57, 65, 66, 67, 68, 69, 70]⟩ : ByteArray)[n]'h = hexd n := by decide
theorem byteCells_two (l : List UInt8) (c d : UInt8) : byteCells l ++ [.int .u8 c.toNat] ++ [.int .u8 d.toNat] = byteCells (l ++ [c, d]) := by simp [byteCells]
theorem take_snoc' (s : ByteArray) (k : Nat) (h : k < s.size) : s.data.toList.take (k + 1) = s.data.toList.take k ++ [s[k]] := by
  rw [List.take_succ_eq_append_getElem (by simpa using h)]; rfl

set_option maxHeartbeats 1000000 in
theorem hex_any (s : ByteArray) (w : World) (hs : s.size ≤ 70368744177664) :
    Calls Tryz.prog 82 #[.string s] w fun e w' => e = .returned (.string ⟨(hexL s.data.toList).toArray⟩) ∧ Below w.heap.size w w' := by
  go_enter Tryz.func82, Tryz.ntmps82
  go_wp2_with fail
  have G := Tryz.Builder_Grow_fresh_cap w.heap.size w.heap.size (2 * s.size) (w.alloc (.cells #[.pointer none, .slice none 0 0] 70)) (Nat.le_refl _) (heap_alloc_new w _) (by simp) (by omega)
  rw [show ((2 * s.size : Nat) : Int) = 2 * (s.size : Int) from by omega] at G
  refine G.mono ?_
  clear G
  rintro e w1 ⟨rfl, ⟨hb1, bel1⟩, _⟩
  have B1 : Below w.heap.size w w1 := ((Below.refl w.heap.size w).alloc (Nat.le_refl _) _).trans bel1
  clear bel1
  simp only []
  go_wp2
  go_loopw [11] (fun i wr => ∃ k : Nat, k ≤ s.size ∧ i = .int .i64 k ∧ Lib.BuilderAt 70 5 w.heap.size w.heap.size (.pointer (some ⟨w.heap.size, 0, none⟩)) (byteCells (hexL (s.data.toList.take k))) wr ∧ Below w.heap.size w wr) (fun i _ => s.size - (RowKit.intOf i).toNat)
  case atStart => exact ⟨0, Nat.zero_le _, rfl, hb1, B1⟩
  case round =>
    obtain ⟨k, hk, rfl, hb, bel⟩ := hrel
    by_cases hlt : k < s.size
    · have hsz : w.heap.size ≤ wr.heap.size := bel.size
      have h16 : s[k].toNat / 16 < 16 := by have := s[k].toNat_lt; omega
      have h16' : ((s[k].toNat : Int) / 16) < 16 := by omega
      have m16 : s[k].toNat % 16 < 16 := by omega
      have hlen : (byteCells (hexL (s.data.toList.take k))).length = 2 * k := by simp [byteCells, hexL_length]; omega
      have hnx : Hid (hexL (s.data.toList.take (k + 1)) = hexL (s.data.toList.take k) ++ [hexd (s[k].toNat / 16), hexd (s[k].toNat % 16)]) := by unfold Hid; rw [take_snoc' s k hlt, hexL_snoc]
      have Hl : Hid ((byteCells (hexL (s.data.toList.take k))).length = 2 * k) := hlen
      clear hlen
      go_wp2_with fail
      rw [hexAt _ h16]
      refine (writeByte_any w.heap.size w.heap.size _ _ _ hb (by rw [Hl.out]; omega) hsz).mono ?_
      rintro e w2 ⟨rfl, hb2, bel2⟩
      have hsz2 : w.heap.size ≤ w2.heap.size := Nat.le_trans hsz bel2.size
      go_wp2_with fail
      rw [hexAt _ m16]
      refine (writeByte_any w.heap.size w.heap.size _ _ _ hb2 (by rw [List.length_append, Hl.out]; simp; omega) hsz2).mono ?_
      rintro e w3 ⟨rfl, hb3, bel3⟩
      rw [byteCells_two, ← hnx.out] at hb3
      have B3 : Below w.heap.size w w3 := (bel.trans bel2).trans bel3
      clear hb hb2 bel bel2 bel3 hb1 B1
      go_wp2
      go_roundw
      case rel => exact ⟨k + 1, by omega, by go_num, hb3, B3⟩
      case measure => simp [RowKit.intOf]; omega
    · go_wp2_with (go_at_call 22; refine (Tryz.Builder_String_any w.heap.size w.heap.size _ _ (Or.inr hb) bel.size).mono ?_; rintro e w2 ⟨rfl, bel2⟩)
      go_ret
      rw [List.take_of_length_le (by simp; omega)]
      exact ⟨rfl, bel.trans bel2⟩
end Go.Proofs.YtekapdpfbkdflaaGreatDoor
