/- What CatalogNames does: whatever text and number it is called with, it answers true and leaves memory as it was. Condition: the text lies within the reach. -/
import Derived.Test.YtfkjneakmcnhaaaCnName
import Derived.Test.YtfkjneakmcnhaaaCnPre
namespace Go.Proofs.Ytfkjneakmcnhaaa
open Go.RowKit Go.Lib
set_option linter.unusedVariables false
set_option maxRecDepth 20000

set_option maxHeartbeats 4000000 in
theorem cnames_walk (s : ByteArray) (n : Int) (w : World) (hs : s.size ≤ 140737488351232) :
    Calls Try.prog 3 #[.string s, .int .i64 n] w fun e w' => e = .returned (.bool true) ∧ Below w.heap.size w w' := by
  obtain ⟨r, h0, h3⟩ : ∃ r : Int, (NmOk s → r = 0) ∧ (¬ NmOk s → r = 3) := by
    by_cases h : NmOk s
    · exact ⟨0, fun _ => rfl, fun h' => absurd h h'⟩
    · exact ⟨3, fun h' => absurd h' h, fun _ => rfl⟩
  have C1 := hid (fun w => name_any s r w hs h0 h3)
  have C2 := hid (fun w => rname_any s r w hs h0 h3)
  have C3 := hid (fun w => prefix_any n w)
  have C4 := hid (fun w => rprefix_any n w)
  unfold PreEnd at C3 C4
  have HL : (pre4 n).length = 4 := rfl
  have CV : Hid (∀ w q, Byts w (some ⟨q, 0, none⟩) (pre4 n) → (convert 24 9 (.slice (some ⟨q, 0, none⟩) 4 4)).run Try.prog w = .ok (.string ⟨(pre4 n).toArray⟩) w) := fun w q h => conv_byts 4 h
  generalize pre4 n = l at *
  clear h0 h3 HL
  generalize (⟨l.toArray⟩ : ByteArray) = S at *
  go_enter Try.func3, Try.ntmps3
  go_wp2_with fail
  have HB0 : Hid (Below w.heap.size w w.drew) := (Below.refl _ _).drew
  go_region_held_law (fun _ => True) (exact trivial)
    (first
      | (go_at_call 5; go_loud (with_reducible refine (C1.out _).mono ?_); rintro e w2 ⟨rfl, hw⟩; subst hw)
      | (go_at_call 6; go_loud (with_reducible refine (C2.out _).mono ?_); rintro e w2 ⟨rfl, hw⟩; subst hw)
      | (go_at_call 7; go_loud (with_reducible refine (C3.out _).mono ?_); rintro e w3 ⟨q3, rfl, y3, b3⟩; have u3 := CV.out w3 q3 y3; have Y3 := hid y3; have HB3 := hid b3; clear y3 b3)
      | (go_at_call 8; go_loud (with_reducible refine (C4.out _).mono ?_); rintro e w4 ⟨q4, rfl, y4, b4⟩; have u4 := CV.out w4 q4 y4; have v4 := CV.out w4 q3 (Y3.out.below b4); have HB4 := hid b4; clear y4 b4)
      | fail)
  all_goals (
    go_wp2
    go_ret
    have B1 := HB3.out.trans (HB4.out.mono HB3.out.size)
    exact ⟨rfl, HB0.out.trans (B1.mono HB0.out.size)⟩)
end Go.Proofs.Ytfkjneakmcnhaaa
