/- What the document's one answers. Condition: the text lies within the reach. -/
import Derived.Test.YtbaemjibaeeglaaGreatDoorLxROneM
namespace Go.Proofs.YtbaemjibaeeglaaGreatDoor
open Go.RowKit Go.Lib Go.Sort
set_option linter.unusedVariables false
set_option maxRecDepth 20000

theorem one_q {p : Nat} {x : Option (List UInt8 × Nat)} {R : Option (Tk × Nat)} (hR : mapK 3 x = R) :
    qb (x.map fun x => (x.1, x.2 + p)) = R.isSome ∧ ∀ y, R = some y → (3 : Int) = y.1.k ∧ (⟨(qs (x.map fun x => (x.1, x.2 + p))).toArray⟩ : ByteArray) = ⟨y.1.s.toArray⟩ ∧ 0 = y.1.n ∧ qe (x.map fun x => (x.1, x.2 + p)) = p + y.2 := by
  subst hR
  cases x with
  | none => exact ⟨rfl, fun y h => by cases h⟩
  | some x =>
    refine ⟨rfl, fun y h => ?_⟩
    cases h
    exact ⟨rfl, rfl, rfl, Nat.add_comm _ _⟩

set_option maxHeartbeats 4000000 in
theorem rone_quo (s : ByteArray) (p : Nat) (w : World) (hp : p < s.size) (hs : s.size ≤ 140737488351232) (hq : (((s[p].toNat : Nat) : Int) == 39) = true) :
    Calls Tryz.prog 17 #[.string s, .int .i64 p] w (oneEnd (first1 (s.data.toList.drop p)) p w) := by
  have HB := hid (fun w => rquoted_any s p w hp hs)
  obtain ⟨R, hR⟩ : ∃ R, first1 (s.data.toList.drop p) = R := ⟨_, rfl⟩
  rw [hR]
  rw [drop_at s hp, f_quo hq] at hR
  have eb : quo (s.data.toList.drop (p + 1)) [] (p + 1) = (quo (s.data.toList.drop (p + 1)) [] 1).map fun x => (x.1, x.2 + p) := by
    rw [← quo_shift p _ _ _ 1 (Nat.le_refl _), show 1 + p = p + 1 by omega]
  rw [eb] at HB
  clear eb
  obtain ⟨x, hx⟩ : ∃ x, quo (s.data.toList.drop (p + 1)) [] 1 = x := ⟨_, rfl⟩
  rw [hx] at hR HB
  have HT := hid (one_q (p := p) hR)
  clear hR hx
  generalize x.map (fun x => (x.1, x.2 + p)) = x' at *
  generalize (⟨(qs x').toArray⟩ : ByteArray) = X at *
  generalize qe x' = E at *
  generalize qb x' = b' at *
  have hz1 : (p : Int) < s.size := by omega
  have e : ((s[p].toNat : Nat) : Int) = 39 := eq_of_beq hq
  have DL := hid (fun w => rletter_any 39 w)
  have DD := hid (fun w => rdigit_any 39 w)
  rw [show ltr 39 = false by decide] at DL
  rw [show dig 39 = false by decide] at DD
  clear hq
  unfold oneEnd
  go_enter Tryz.func17, Tryz.ntmps17
  go_wp2_with (first
    | (go_at_call 32; with_reducible refine (DL.out _).mono ?_; rintro e w3 ⟨rfl, hw⟩; obtain rfl := hw.symm)
    | (go_at_call 33; with_reducible refine (DD.out _).mono ?_; rintro e w3 ⟨rfl, hw⟩; obtain rfl := hw.symm)
    | (go_at_call 36; with_reducible refine (HB.out _).mono ?_; rintro e w2 ⟨rfl, bel⟩; have HA := hid ((aft0 w 0 p 0).next bel); obtain ⟨z0, z1, z2, z3, zf, zl⟩ := HA.out.res; obtain ⟨y0, y1, y2, y3, yf, yl⟩ := HA.out.tok; clear bel))
  all_goals refine bodyPost_ret (by simp [results, Tryz.results17, go_sem, z0, z1, z2, z3]; try rfl) rfl ?_
  all_goals exact ⟨3, X, 0, E, by rw [← HT.out.1], HT.out.2, below_put6 HA.out.bel⟩
end Go.Proofs.YtbaemjibaeeglaaGreatDoor
