/- What sealed, and the methods record, page and home of a head, answer: a load with its sum; a head's bytes. No conditions but the sizes. -/
import Derived.Test.YtnecigbncggogaaPgPut
import Derived.Test.YtnecigbncggogaaPgSum
import Derived.Deep.RegionHeldLaw
import Derived.Lib.BufferWrite
namespace Go.Proofs.Ytnecigbncggogaa
open Go.RowKit
set_option linter.unusedVariables false
set_option maxRecDepth 20000

theorem wrap_u64 {n : Nat} (h : n < 18446744073709551616) : IntKind.u64.wrap (n : Int) = (n : Int) := by
  have e : IntKind.u64.wrap (n : Int) = (n : Int) % 18446744073709551616 := by simp [IntKind.wrap, IntKind.bits, IntKind.signed]
  rw [e]; omega
theorem seal_lay {l : List UInt8} (hl : l.length = 508) : lay (over l (zeros 512)) 508 (le 4 (crc l)) = sealed l := by
  have e : over l (zeros 512) = l ++ zeros 4 := by
    unfold over zeros
    rw [hl, List.drop_replicate]
  rw [e]
  unfold lay sealed
  rw [List.take_left' hl, le_len, List.drop_of_length_le (by simp [hl, zeros]), List.append_nil]
theorem Byts.is {w : World} {g off : Nat} {l : List UInt8} (h : Byts w (some ⟨g, off, none⟩) l) (i : Nat) (hi : i < l.length) : w.cell? ⟨g, off + i, none⟩ = some (.int .u8 (l[i].toNat : Int)) := by
  rcases h with rfl | ⟨b, o, hp, hc⟩
  · simp at hi
  · simp only [Option.some.injEq, Addr.mk.injEq, and_true] at hp
    obtain ⟨rfl, rfl⟩ := hp
    exact hc i hi
theorem Byts.cut {w : World} {g off : Nat} {l : List UInt8} (h : Byts w (some ⟨g, off, none⟩) l) (a n : Nat) : Byts w (some ⟨g, off + a, none⟩) ((l.drop a).take n) :=
  Or.inr ⟨g, off + a, rfl, fun i hi => by
    rw [List.length_take, List.length_drop] at hi
    have := h.is (a + i) (by omega)
    rw [List.getElem_take, List.getElem_drop, Nat.add_assoc]
    exact this⟩
theorem Blk.byts' {w : World} {g : Nat} {l : List UInt8} {t : TypeId} (h : Blk w g (bcells l) t) : Byts w (some ⟨g, 0, none⟩) l :=
  Or.inr ⟨g, 0, rfl, fun i hi => by rw [h.cell, Nat.zero_add]; exact bcells_at hi⟩
theorem Byts.drew {w : World} {p : Option Addr} {l : List UInt8} (h : Byts w p l) : Byts w.drew p l := h
theorem Blk.drew {w : World} {g : Nat} {cs : List Value} {t : TypeId} (h : Blk w g cs t) : Blk w.drew g cs t := h
set_option maxHeartbeats 1000000 in
theorem sealed_any (g off c : Nat) (l : List UInt8) (w : World) (hl : l.length = 508) (h : Byts w (some ⟨g, off, none⟩) l) :
    Calls Try.prog 58 #[.slice (some ⟨g, off, none⟩) 508 c] w fun e w' => e = .returned (.slice (some ⟨w.heap.size, 0, none⟩) 512 512) ∧ Blk w' w.heap.size (bcells (sealed l)) 5 ∧ Below w.heap.size w w' ∧ w'.heap.size = w.heap.size + 1 := by
  have hmk := mk512
  have HY := hid (h.alloc (.cells (bcells (zeros 512)).toArray 5))
  have HG := hid (Blk.new w (bcells (zeros 512)) 5)
  have HB0 : Hid (Below w.heap.size w (w.alloc (.cells (bcells (zeros 512)).toArray 5))) := (Below.refl _ _).alloc (Nat.le_refl _) _
  have hgl : g < w.heap.size := cell_lt (h.is 0 (by omega))
  have HS0 : Hid ((w.alloc (.cells (bcells (zeros 512)).toArray 5)).heap.size = w.heap.size + 1) := by show _ = _; simp
  have HN : Hid ((bcells l).length = Nat.min 508 512) := by show _ = _; rw [bcells_len, hl]; rfl
  have HF : Hid (0 + (bcells l).length ≤ (bcells (zeros 512)).length) := by show _ ≤ _; rw [bcells_len, bcells_len, zeros_len, hl]; decide
  have HL := hid hl
  have hw := wrap_u64 (show crc l < 18446744073709551616 by have := crc_lt l; omega)
  have C1 : Hid (∀ w5 : World, Byts w5 (some ⟨g, off, none⟩) l → Calls Try.prog 9 #[.slice (some ⟨g, off, none⟩) 508 c] w5 fun e w' => e = .returned (.int .u32 (crc l : Int)) ∧ w' = w5) := fun w5 h5 => by
    have := psum_any (some ⟨g, off, none⟩) l c w5 (by omega) h5
    rwa [hl] at this
  have C2 : Hid (∀ w5 : World, Blk w5 w.heap.size (bcells (over l (zeros 512))) 5 → Calls Try.prog 80 #[.slice (some ⟨w.heap.size, 508, none⟩) 4 4, .int .u64 (crc l : Int)] w5 fun e w' => e = .returned (.tuple #[]) ∧ Blk w' w.heap.size (bcells (sealed l)) 5 ∧ (∀ F : Nat → Prop, F w.heap.size → Chg F w5 w') ∧ w'.heap.size = w5.heap.size) := fun w5 h5 => by
    have := put_any w.heap.size 508 4 4 (crc l) _ w5 h5 (by decide) (by rw [over_len (by rw [hl, zeros_len]; decide), zeros_len]; decide) (by have := crc_lt l; omega)
    rwa [seal_lay hl] at this
  clear h hl
  generalize crc l = N at *
  go_enter Try.func58, Try.ntmps58
  go_wp2_with (first
    | (refine wl_copy rfl _ _ rfl _ _ _ _ _ _ _ rfl rfl (bcells (zeros 512)) 5 ?hb (bcells l) ?hn ?hs ?hf (bcells_one _) ?_; (case hb => exact HG.out); (case hn => exact HN.out); (case hs => exact HY.out.src); (case hf => exact HF.out); intro w5 B5 C5 S5; rw [splice_over] at B5; have HB5 := hid B5; have HC5 := hid C5; have HS5 := hid S5; have HD5 := hid (HY.out.same (w' := w5) (fun b o e => (C5 (· = w.heap.size) rfl).block b (by simp only [Option.some.injEq, Addr.mk.injEq, and_true] at e; have := HS0.out; omega) (by simp only [Option.some.injEq, Addr.mk.injEq, and_true] at e; omega))); have HC1 := hid (C1.out w5.drew HD5.out.drew); have HC2 := hid (C2.out w5.drew HB5.out.drew); clear B5 C5 S5 HY HG C1 C2)
    | fail)
  go_region_held_law (fun _ => True) (trivial)
    (first
      | (go_at_call 9; go_loud (with_reducible refine HC1.out.mono ?_); rintro e w6 ⟨rfl, hw6⟩; subst hw6)
      | (go_at_call 80; go_loud (with_reducible refine HC2.out.mono ?_); rintro e w7 ⟨rfl, B7, C7, S7⟩; have HB7 := hid B7; have HC7 := hid C7; have HS7 := hid S7; clear B7 C7 S7)
      | fail)
  all_goals go_wp2
  all_goals go_ret
  refine ⟨rfl, HB7.out, ?_, by have h7 : _ = w5.heap.size := HS7.out; have := HS5.out; have := HS0.out; omega⟩
  have s0 := HS0.out
  have s5 := HS5.out
  exact HB0.out.trans (((HC5.out (· = w.heap.size) rfl).below (B := w.heap.size) (fun j e => by rw [e]; exact Nat.le_refl _) (by omega)).trans ((Below.refl _ _).drew.trans ((HC7.out (· = w.heap.size) rfl).below (B := w.heap.size) (fun j e => by rw [e]; exact Nat.le_refl _) (show w.heap.size ≤ w5.heap.size by omega))))
end Go.Proofs.Ytnecigbncggogaa
