/- LexerReads walked: the words that the project reads are those that the document reads, or both refuse at the same place. -/
import Derived.Test.YtbaemjibaeeglaaGreatDoorLxWorks
import Derived.Test.YtbaemjibaeeglaaGreatDoorLxRTok
import Derived.Test.YtbaemjibaeeglaaGreatDoorLxSame
namespace Go.Proofs.YtbaemjibaeeglaaGreatDoor
open Go.RowKit Go.Lib Go.Sort
set_option linter.unusedVariables false
set_option maxRecDepth 20000

theorem rtok_ok (s : ByteArray) (xs : List (Tk × Nat)) (w : World) (hs : s.size ≤ 140737488351232) (h : lexR s.data.toList = .ok xs) :
    Calls Tryz.prog 8 #[.string s] w fun e w' => ∃ p c, e = .returned (.tuple #[.slice p xs.length c, .agg #[.int .i64 0, .int .i64 0]]) ∧ TR w' p xs ∧ xs.length ≤ maxLen ∧ Below w.heap.size w w' := by
  have C := rtokens_any s w hs
  rw [h] at C
  refine C.mono ?_
  rintro e w' ⟨hb, v, rfl, hO⟩
  obtain ⟨p, c, rfl, hm, hT⟩ := TR.of_own hO
  exact ⟨p, c, rfl, hT, hm, hb⟩
theorem rtok_err (s : ByteArray) (i : Nat) (n : Int) (w : World) (hs : s.size ≤ 140737488351232) (h : lexR s.data.toList = .error (i, n)) :
    Calls Tryz.prog 8 #[.string s] w fun e w' => e = .returned (.tuple #[.slice none 0 0, .agg #[.int .i64 (i : Int), .int .i64 n]]) ∧ Below w.heap.size w w' := by
  have C := rtokens_any s w hs
  rw [h] at C
  refine C.mono ?_
  rintro e w' ⟨hb, rfl⟩
  exact ⟨rfl, hb⟩

set_option maxHeartbeats 4000000 in
theorem lreads_any (a : ByteArray) (w : World) (ha : a.size ≤ 140737488351232) (hw : Rdy w) (hE : ErrT w) :
    Calls Tryz.prog 3 #[.string a] w fun e w' => e = .returned (.bool true) ∧ Below w.heap.size w w' := by
  have HE := hid hE
  have HS0 := hid (fun w => seen_nil w)
  cases h : lexR a.data.toList with
  | ok xs =>
    have C1 := hid (xtok_ok a xs w ha hw h)
    have C2 := hid (fun w => rtok_ok a xs w ha h)
    clear hw hE h
    go_enter Tryz.func3, Tryz.ntmps3
    go_wp2_with (first
      | (go_at_call 7; with_reducible refine C1.out.mono ?_; rintro e w1 ⟨p1, c1, rfl, T1, hm, b1⟩; have HT1 := hid T1; have HB1 := hid b1; clear T1 b1)
      | (go_at_call 8; with_reducible refine (C2.out _).mono ?_; rintro e w2 ⟨p2, c2, rfl, T2, hm2, b2⟩; have HT2 := hid T2; have HT1 := hid (HT1.out.below b2); have HB2 := hid (HB1.out.trans (b2.mono HB1.out.size)); clear T2 b2))
    have bA : Below w2.heap.size w2 (w2.alloc (.cells #[.int .i64 0, .int .i64 0] 29)).drew := ((Below.refl _ _).alloc (Nat.le_refl _) _).drew
    have c0 : (w2.alloc (.cells #[.int .i64 0, .int .i64 0] 29)).drew.cell? ⟨w2.heap.size, 0, none⟩ = some (.int .i64 0) := by go_simp
    have c1 : (w2.alloc (.cells #[.int .i64 0, .int .i64 0] 29)).drew.cell? ⟨w2.heap.size, 1, none⟩ = some (.int .i64 0) := by go_simp
    have K0 := hid (And.intro c0 c1)
    have V1 := hid (HT1.out.below bA)
    have V2 := hid (HT2.out.below bA)
    have HB3 := hid (HB2.out.trans (bA.mono HB2.out.size))
    clear bA c0 c1
    generalize w2.alloc (.cells #[.int .i64 0, .int .i64 0] 29) = W at *
    go_region_held_law (fun w' => w'.cell? ⟨w2.heap.size, 0, none⟩ = some (.int .i64 0) ∧ w'.cell? ⟨w2.heap.size, 1, none⟩ = some (.int .i64 0)) (first | exact K0.out | exact K1.out | exact K2.out)
      (first
        | (go_at_call 9; with_reducible refine (HS0.out _).mono ?_; rintro e w3 ⟨rfl, b3⟩; have K1 := hid (And.intro (lxbelow_cell b3 K0.out.1) (lxbelow_cell b3 K0.out.2)); have U1 := hid (V1.out.below b3); have U2 := hid (V2.out.below b3); have HB4 := hid (HB3.out.trans (b3.mono HB3.out.size)); clear b3)
        | (go_at_call 10; with_reducible refine (same_any xs _ _ _ _ _ U1.out U2.out hm).mono ?_; rintro e w4 ⟨rfl, b4⟩; have K2 := hid (And.intro (lxbelow_cell b4 K1.out.1) (lxbelow_cell b4 K1.out.2)); have HB5 := hid (HB4.out.trans (b4.mono HB4.out.size)); clear b4))
    all_goals go_wp2_with fail
    all_goals go_ret
    all_goals exact ⟨rfl, HB5.out⟩
  | error x =>
    obtain ⟨i, n⟩ := x
    have C1 := hid (xtok_err a i n w ha hw h)
    have C2 := hid (fun w => rtok_err a i n w ha h)
    clear hw h
    go_enter Tryz.func3, Tryz.ntmps3
    go_wp2_with (first
      | (go_at_call 7; with_reducible refine C1.out.mono ?_; rintro e w1 ⟨b, rfl, g0, g1, b1⟩; have HG0 := hid g0; have HG1 := hid g1; have HB1 := hid b1; clear g0 g1 b1)
      | (go_at_call 8; with_reducible refine (C2.out _).mono ?_; rintro e w2 ⟨rfl, b2⟩; have HG0' := hid (lxbelow_cell b2 HG0.out); have HG1' := hid (lxbelow_cell b2 HG1.out); have HB2 := hid (HB1.out.trans (b2.mono HB1.out.size)); clear b2))
    have bA : Below w2.heap.size w2 (w2.alloc (.cells #[.int .i64 (i : Int), .int .i64 n] 29)).drew := ((Below.refl _ _).alloc (Nat.le_refl _) _).drew
    have c0 : (w2.alloc (.cells #[.int .i64 (i : Int), .int .i64 n] 29)).drew.cell? ⟨w2.heap.size, 0, none⟩ = some (.int .i64 (i : Int)) := by go_simp
    have c1 : (w2.alloc (.cells #[.int .i64 (i : Int), .int .i64 n] 29)).drew.cell? ⟨w2.heap.size, 1, none⟩ = some (.int .i64 n) := by go_simp
    have K0 := hid (And.intro c0 c1)
    have HB3 := hid (HB2.out.trans (bA.mono HB2.out.size))
    have HSF := hid (seen_fault b (i : Int) n _ (HE.out.below HB3.out) (lxbelow_cell bA HG0'.out) (lxbelow_cell bA HG1'.out))
    have SM : Hid (∀ w, Calls Tryz.prog 10 #[.slice none 0 0, .slice none 0 0] w fun e w' => e = .returned (.bool true) ∧ Below w.heap.size w w') := fun w => same_any [] none none 0 0 w (Or.inl rfl) (Or.inl rfl) (Nat.zero_le _)
    clear bA c0 c1
    generalize w2.alloc (.cells #[.int .i64 (i : Int), .int .i64 n] 29) = W at *
    go_region_held_law (fun w' => w'.cell? ⟨w2.heap.size, 0, none⟩ = some (.int .i64 (i : Int)) ∧ w'.cell? ⟨w2.heap.size, 1, none⟩ = some (.int .i64 n)) (first | exact K0.out | exact K1.out | exact K2.out)
      (first
        | (go_at_call 9; with_reducible refine HSF.out.mono ?_; rintro e w3 ⟨rfl, b3⟩; have K1 := hid (And.intro (lxbelow_cell b3 K0.out.1) (lxbelow_cell b3 K0.out.2)); have HB4 := hid (HB3.out.trans (b3.mono HB3.out.size)); clear b3)
        | (go_at_call 10; with_reducible refine (SM.out _).mono ?_; rintro e w4 ⟨rfl, b4⟩; have K2 := hid (And.intro (lxbelow_cell b4 K1.out.1) (lxbelow_cell b4 K1.out.2)); have HB5 := hid (HB4.out.trans (b4.mono HB4.out.size)); clear b4))
    all_goals go_wp2_with fail
    all_goals go_ret
    all_goals exact ⟨rfl, HB5.out⟩
end Go.Proofs.YtbaemjibaeeglaaGreatDoor
