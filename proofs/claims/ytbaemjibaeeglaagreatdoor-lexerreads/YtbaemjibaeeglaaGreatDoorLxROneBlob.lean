/- What the document's one answers. Condition: the text lies within the reach. -/
import Derived.Test.YtbaemjibaeeglaaGreatDoorLxROneM
namespace Go.Proofs.YtbaemjibaeeglaaGreatDoor
open Go.RowKit Go.Lib Go.Sort
set_option linter.unusedVariables false
set_option maxRecDepth 20000

set_option maxHeartbeats 4000000 in
theorem rone_blob (s : ByteArray) (p : Nat) (w : World) (hp : p < s.size) (hs : s.size ≤ 140737488351232) (hX : isX (s.data.toList.drop p) = true) :
    Calls Tryz.prog 17 #[.string s, .int .i64 p] w (oneEnd (first1 (s.data.toList.drop p)) p w) := by
  have hp2 : p + 1 < s.size := by
    rcases Nat.lt_or_ge (p + 1) s.size with h | h
    · exact h
    · exfalso
      rw [drop_at s hp, drop_end s h] at hX
      simp [isX] at hX
  have HB : Hid (∀ w, Calls Tryz.prog 31 #[.string s, .int .i64 ((p + 1 : Nat) : Int)] w (rbEnd (blo (s.data.toList.drop (p + 1 + 1)) [] (p + 1 + 1)) w)) := fun w => rblob_any s (p + 1) w hp2 hs
  have e1 : ((p + 1 : Nat) : Int) = (p : Int) + 1 := by omega
  rw [e1] at HB
  obtain ⟨R, hR⟩ : ∃ R, first1 (s.data.toList.drop p) = R := ⟨_, rfl⟩
  rw [hR]
  rw [drop_at s hp, drop_at s hp2] at hX hR
  rw [f_blob hX, List.drop_one, List.tail_cons] at hR
  have eb : blo (s.data.toList.drop (p + 1 + 1)) [] (p + 1 + 1) = (blo (s.data.toList.drop (p + 1 + 1)) [] 2).map fun x => (x.1, x.2 + p) := by
    rw [← blo_shift p _ _ _ 2 (Nat.le_refl _), show 2 + p = p + 1 + 1 by omega]
  rw [eb] at HB
  clear eb
  obtain ⟨x, hx⟩ : ∃ x, blo (s.data.toList.drop (p + 1 + 1)) [] 2 = x := ⟨_, rfl⟩
  rw [hx] at hR HB
  have HR := hid hR
  have h120 : ((((s[p].toNat : Nat) : Int) == 120) || (((s[p].toNat : Nat) : Int) == 88)) = true ∧ (((s[p + 1].toNat : Nat) : Int) == 39) = true := by
    simp only [isX, Bool.and_eq_true] at hX
    exact hX
  obtain ⟨h1, h2⟩ := h120
  clear hX hR hx
  have hz1 : (p : Int) < s.size := by omega
  have hz2 : (p : Int) + 1 < s.size := by omega
  unfold rbEnd at HB
  cases a : (((s[p].toNat : Nat) : Int) == 120) <;> cases b : (((s[p].toNat : Nat) : Int) == 88) <;> (first | (exfalso; rw [a, b] at h1; simp at h1; done) | skip)
  all_goals clear h1 e1
  all_goals unfold oneEnd
  all_goals go_enter Tryz.func17, Tryz.ntmps17
  all_goals go_wp2_with (go_at_call 31; with_reducible refine (HB.out _).mono ?_; rintro e w2 ⟨X, E, rfl, hXE, bel⟩; have HT := hid (one_txt HR.out hXE); have HA := hid ((aft0 w 4 p 0).next bel); obtain ⟨z0, z1, z2, z3, zf, zl⟩ := HA.out.res; obtain ⟨y0, y1, y2, y3, yf, yl⟩ := HA.out.tok; clear hXE bel)
  all_goals refine bodyPost_ret (by simp [results, Tryz.results17, go_sem, z0, z1, z2, z3]; try rfl) rfl ?_
  all_goals exact ⟨4, X, 0, E, by rw [← HT.out.1], HT.out.2, below_put5 HA.out.bel⟩
end Go.Proofs.YtbaemjibaeeglaaGreatDoor
