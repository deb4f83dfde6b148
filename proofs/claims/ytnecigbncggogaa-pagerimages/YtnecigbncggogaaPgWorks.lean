/- works of the pager's laws answers true. No conditions. -/
import Derived.Test.YtnecigbncggogaaPgLaw
namespace Go.Proofs.Ytnecigbncggogaa
open Go.RowKit
set_option linter.unusedVariables false
set_option maxRecDepth 20000

def wL : List UInt8 := loadM [120]
def wH1 : Int → List UInt8 := putP H0 2 (sealed wL)
def wH2 : Int → List UInt8 := putP wH1 0 (headPage 2 2)
theorem wH2_heads : Heads wH2 5 2 2 := heads_next (n := 2) (heads_other (heads_zero 5) (n := 2) (by decide) (sealed wL)) (by decide)
theorem wH2_three : right (wH2 3) = false := zero_not_right
theorem wH2_two : wH2 2 = sealed wL := rfl
theorem wL_len : wL.length = 508 := loadM_len _
set_option maxHeartbeats 4000000 in
theorem pworks_any (w : World) : Calls Try.prog 22 #[] w fun e w' => e = .returned (.bool true) ∧ Below w.heap.size w w' := by
  have C1 : Hid (Calls Try.prog 23 #[.int .i64 5] w fun e w' => ∃ db pb Z, e = .returned (.tuple #[.pointer (some ⟨db, 0, none⟩), .pointer (some ⟨pb, 0, none⟩)]) ∧ FW w.heap.size w w' db pb 5 H0 0 ⟨1, 0, false⟩ Z) := fresh_any w 5 (by decide) (by decide)
  have hcv : ∀ w1 : World, (convert 22 22 (.slice (some ⟨w1.heap.size, 0, none⟩) 1 1)).run Try.prog (w1.alloc (.cells #[.int .u8 120] 5)) = .ok (.slice (some ⟨w1.heap.size, 0, none⟩) 1 1) (w1.alloc (.cells #[.int .u8 120] 5 (1, 2))) := fun w1 =>
    Go.Lib.run_convert_bytes_const (P := Try.prog) w1 22 5 #[.int .u8 120] 1 1 Try.underlying22 Try.underlying5
  have C2 : Hid (∀ w1 : World, Calls Try.prog 24 #[.agg #[.int .i64 0, .int .i64 0, .slice (some ⟨w1.heap.size, 0, none⟩) 1 1, .slice none 0 0, .int .i64 0, .int .i64 0]] (w1.alloc (.cells #[.int .u8 120] 5 (1, 2))) fun e w' => ∃ g, e = .returned (.slice (some ⟨g, 0, none⟩) 508 508) ∧ Blk w' g (bcells wL) 5 ∧ Below w1.heap.size w1 w' ∧ w1.heap.size ≤ g ∧ g < w'.heap.size) := fun w1 => by
    have B : Below w1.heap.size w1 (w1.alloc (.cells #[.int .u8 120] 5 (1, 2))) := (Below.refl _ _).alloc (Nat.le_refl _) _
    have q := load_any 0 0 0 0 (some ⟨w1.heap.size, 0, none⟩) [120] 1 (.slice none 0 0) (w1.alloc (.cells #[.int .u8 120] 5 (1, 2))) (Or.inr ⟨_, _, rfl, fun i hi => by
      obtain rfl : i = 0 := by simpa using hi
      rw [cell_of_row _ w1.heap.size (0 + 0) #[.int .u8 120] 5 (1, 2) (heap_alloc_new w1 _)]
      rfl⟩)
    refine q.mono ?_
    rintro e w' ⟨g, he, b, L, h1, h2⟩
    have hs := B.size
    exact ⟨g, he, b, B.trans (L.mono hs), by omega, h2⟩
  have C3 : Hid (∀ (w3 : World) (db pb g : Nat) (Z : Nat → Prop), FW w.heap.size w w3 db pb 5 H0 0 ⟨1, 0, false⟩ Z → Blk w3 g (bcells wL) 5 → Calls Try.prog 25 #[.pointer (some ⟨pb, 0, none⟩), .int .i64 2, .slice (some ⟨g, 0, none⟩) 508 508] w3 fun e w' => e = .returned (.int .i64 0) ∧ FW w.heap.size w w' db pb 5 wH1 1 ⟨1, 0, false⟩ Z ∧ Kept (old w.heap.size Z) w3 w') := fun w3 db pb g Z h b => h.write (some ⟨g, 0, none⟩) wL 508 (by decide) (by decide) wL_len b.byts' (by decide)
  have C4 : Hid (∀ (w3 : World) (db pb : Nat) (Z : Nat → Prop), FW w.heap.size w w3 db pb 5 wH1 1 ⟨1, 0, false⟩ Z → Calls Try.prog 26 #[.pointer (some ⟨pb, 0, none⟩), .int .i64 2] w3 fun e w' => e = .returned (.int .i64 0) ∧ FW w.heap.size w w' db pb 5 wH2 0 ⟨2, 2, false⟩ Z ∧ Kept (fun j => old w.heap.size Z j ∧ j ≠ pb) w3 w') := fun w3 db pb Z h => h.commit 2 (by decide) (by decide) rfl (show (1 : Nat) < _ by decide) (by decide)
  have C5 : Hid (∀ (w3 : World) (db pb : Nat) (Z : Nat → Prop), FW w.heap.size w w3 db pb 5 wH2 0 ⟨2, 2, false⟩ Z → Calls Try.prog 26 #[.pointer (some ⟨pb, 0, none⟩), .int .i64 5] w3 fun e w' => e = .returned (.int .i64 2) ∧ FW w.heap.size w w' db pb 5 wH2 0 ⟨2, 2, false⟩ Z ∧ Kept (fun j => old w.heap.size Z j ∧ j ≠ pb) w3 w') := fun w3 db pb Z h => h.commitBad 5 (by decide) (by decide) rfl (show (2 : Nat) < _ by decide) (by decide)
  have C6 : Hid (∀ (w3 : World) (db pb : Nat) (Z : Nat → Prop), FW w.heap.size w w3 db pb 5 wH2 0 ⟨2, 2, false⟩ Z → Calls Try.prog 30 #[.pointer (some ⟨pb, 0, none⟩), .int .i64 3] w3 fun e w' => Below w3.heap.size w3 w' ∧ e = .returned (.tuple #[.slice none 0 0, .int .i64 10])) := fun w3 db pb Z h => h.readBad h.pag (by decide) (by decide) wH2_three
  have C7 : Hid (∀ (w3 : World) (db pb : Nat) (Z : Nat → Prop), FW w.heap.size w w3 db pb 5 wH2 0 ⟨2, 2, false⟩ Z → Calls Try.prog 29 #[.pointer (some ⟨db, 0, none⟩)] w3 fun e w' => ∃ qb, e = .returned (.tuple #[.pointer (some ⟨qb, 0, none⟩), .int .i64 0]) ∧ Pag w' qb db ⟨2, 2, false⟩ ∧ Below w3.heap.size w3 w' ∧ w3.heap.size ≤ qb) := fun w3 db pb Z h => h.open_ wH2_heads (by decide) (by decide) (by decide)
  have C8 : Hid (∀ (w3 : World) (db qb : Nat), Pag w3 qb db ⟨2, 2, false⟩ → Calls Try.prog 20 #[.pointer (some ⟨qb, 0, none⟩)] w3 fun e w' => e = .returned (.tuple #[.int .i64 2, .int .i64 2]) ∧ Below w3.heap.size w3 w') := fun w3 db qb h => proot_any qb ⟨2, 2, false⟩ h
  have C9 : Hid (∀ (w3 : World) (db pb qb : Nat) (Z : Nat → Prop), FW w.heap.size w w3 db pb 5 wH2 0 ⟨2, 2, false⟩ Z → Pag w3 qb db ⟨2, 2, false⟩ → Calls Try.prog 30 #[.pointer (some ⟨qb, 0, none⟩), .int .i64 2] w3 fun e w' => Below w3.heap.size w3 w' ∧ ∃ g, w3.heap.size ≤ g ∧ e = .returned (.tuple #[.slice (some ⟨g, 0, none⟩) 508 508, .int .i64 0]) ∧ Byts w' (some ⟨g, 0, none⟩) wL) := fun w3 db pb qb Z h q => by
    have := h.read q (n := 2) (by decide) (by decide) (by rw [wH2_two]; exact right_sealed wL_len)
    rwa [wH2_two, sealed_take wL_len] at this
  have HCV : Hid (∀ (w3 : World) (g : Nat), Byts w3 (some ⟨g, 0, none⟩) wL → (convert 22 9 (.slice (some ⟨g, 0, none⟩) 508 508)).run Try.prog w3 = .ok (.string ⟨wL.toArray⟩) w3) := fun w3 g h => by
    have := conv_byts 508 h
    rwa [wL_len] at this
  generalize wL = L at *
  generalize wH1 = A1 at *
  generalize wH2 = A2 at *
  generalize H0 = A0 at *
  go_enter Try.func22, Try.ntmps22
  go_wp2_with (first
    | (go_at_call 23; go_loud (with_reducible refine C1.out.mono ?_); rintro e w1 ⟨db, pb, Z, rfl, D1⟩; have HD1 := hid D1; clear D1)
    | (go_at_call 24; go_loud (with_reducible refine (C2.out _).mono ?_); rintro e w2 ⟨g, rfl, B2, L2, G2, G3⟩; have HB2 := hid B2; have HD2 := hid (HD1.out.add L2); have HZg := hid (show old w.heap.size (fun j => Z j ∨ (w1.heap.size ≤ j ∧ j < w2.heap.size)) g from Or.inr (Or.inr ⟨G2, G3⟩)); have HNg := hid (show g ≠ pb from fun e => by have := HD1.out.lt pb HD1.out.z; omega); clear B2 L2 G2 G3)
    | (go_at_call 25; go_loud (with_reducible refine (C3.out _ db pb g _ HD2.out HB2.out).mono ?_); rintro e w3 ⟨rfl, D3, K3⟩; have HD3 := hid D3; have HB3 := hid (K3.blk HB2.out HZg.out); clear D3 K3)
    | (go_at_call 26; first
        | (with_reducible refine (C4.out _ db pb _ HD3.out).mono ?_; rintro e w4 ⟨rfl, D4, K4⟩; have HD4 := hid D4; have HB4 := hid (K4.blk HB3.out ⟨HZg.out, HNg.out⟩); clear D4 K4)
        | (with_reducible refine (C5.out _ db pb _ HD4.out).mono ?_; rintro e w5 ⟨rfl, D5, K5⟩; have HD5 := hid D5; have HB5 := hid (K5.blk HB4.out ⟨HZg.out, HNg.out⟩); clear D5 K5))
    | (go_at_call 30; first
        | (with_reducible refine (C6.out _ db pb _ HD5.out).mono ?_; rintro e w6 ⟨B6, rfl⟩; have HD6 := hid (HD5.out.grow B6); have HB6 := hid (HB5.out.below B6 HB5.out.lt); clear B6)
        | (with_reducible refine (C9.out _ db pb qb _ HD8.out HQ8.out).mono ?_; rintro e w9 ⟨B9, gr, G9, rfl, Y9⟩; have HL9 := hid B9; have HD9 := hid (HD8.out.grow B9); have v1 := HCV.out w9 gr Y9; have v2 := HCV.out w9 g (HB8.out.below B9 HB8.out.lt).byts'; clear B9 G9 Y9))
    | (go_at_call 29; go_loud (with_reducible refine (C7.out _ db pb _ HD6.out).mono ?_); rintro e w7 ⟨qb, rfl, Q7, B7, G7⟩; have HQ7 := hid Q7; have HD7 := hid (HD6.out.grow B7); have HB7 := hid (HB6.out.below B7 HB6.out.lt); clear Q7 B7 G7)
    | (go_at_call 20; go_loud (with_reducible refine (C8.out _ db qb HQ7.out).mono ?_); rintro e w8 ⟨rfl, B8⟩; have HD8 := hid (HD7.out.grow B8); have HQ8 := hid (HQ7.out.below B8); have HB8 := hid (HB7.out.below B8 HB7.out.lt); clear B8)
    | fail)
  go_ret
  exact ⟨rfl, HD9.out.bel⟩
end Go.Proofs.Ytnecigbncggogaa
