/- What the document's one answers. Condition: the text lies within the reach. -/
import Derived.Test.YtbaemjibaeeglaaGreatDoorLxROneM
namespace Go.Proofs.YtbaemjibaeeglaaGreatDoor
open Go.RowKit Go.Lib Go.Sort
set_option linter.unusedVariables false
set_option maxRecDepth 20000

theorem one_s {p n : Nat} {l : List UInt8} {R : Option (Tk × Nat)} (hn : n ≤ l.length) (hR : (if n = 0 then none else some (⟨5, l.take n, 0⟩, n)) = R) :
    ((⟨(l.take n).toArray⟩ : ByteArray).size = n) ∧ (!((⟨(l.take n).toArray⟩ : ByteArray).toList == [])) = R.isSome ∧ ∀ y, R = some y → (5 : Int) = y.1.k ∧ (⟨(l.take n).toArray⟩ : ByteArray) = ⟨y.1.s.toArray⟩ ∧ 0 = y.1.n ∧ p + n = p + y.2 := by
  have hl : (l.take n).length = n := by simp; omega
  subst hR
  refine ⟨by simp [ByteArray.size]; omega, ?_, fun y h => ?_⟩
  · rw [ByteArray.toList_eq]
    show (!(l.take n == [])) = _
    generalize l.take n = t at *
    split
    · rename_i h
      have := List.eq_nil_of_length_eq_zero (hl.trans h)
      rw [this]
      rfl
    · rename_i h
      cases t with
      | nil => exact absurd hl.symm h
      | cons c t => rfl
  · split at h
    · cases h
    · cases h
      exact ⟨rfl, rfl, rfl, rfl⟩

set_option maxHeartbeats 4000000 in
theorem rone_sym (s : ByteArray) (p : Nat) (w : World) (hp : p < s.size) (hs : s.size ≤ 140737488351232) (hX : isX (s.data.toList.drop p) = false) (h1 : ltr (s[p].toNat : Int) = false) (h2 : dig (s[p].toNat : Int) = false) (hq : (((s[p].toNat : Nat) : Int) == 39) = false) :
    Calls Tryz.prog 17 #[.string s, .int .i64 p] w (oneEnd (first1 (s.data.toList.drop p)) p w) := by
  have HB := hid (fun w => rsymbol_any (s.extract p s.size) w (by simp; omega) (by simp; omega))
  have ex : (s.extract p s.size).data.toList = s.data.toList.drop p := by
    rw [rext, List.take_of_length_le (by simp)]
  rw [ex] at HB
  obtain ⟨R, hR⟩ : ∃ R, first1 (s.data.toList.drop p) = R := ⟨_, rfl⟩
  rw [hR]
  rw [drop_at s hp] at hR hX
  rw [f_sym hX h1 h2 hq, ← drop_at s hp] at hR
  have HT := hid (one_s (p := p) (sym_le _) hR)
  have hm : sym (s.data.toList.drop p) ≤ s.size := Nat.le_trans (sym_le _) (by simp)
  clear hR ex hX
  generalize (⟨((s.data.toList.drop p).take (sym (s.data.toList.drop p))).toArray⟩ : ByteArray) = X at *
  generalize sym (s.data.toList.drop p) = n at *
  have hz1 : (p : Int) < s.size := by omega
  have a : (((s[p].toNat : Nat) : Int) == 120) = false := by
    cases a : (((s[p].toNat : Nat) : Int) == 120) with
    | false => rfl
    | true => rw [eq_of_beq a] at h1; exact absurd h1 (by decide)
  have b : (((s[p].toNat : Nat) : Int) == 88) = false := by
    cases a : (((s[p].toNat : Nat) : Int) == 88) with
    | false => rfl
    | true => rw [eq_of_beq a] at h1; exact absurd h1 (by decide)
  have DL := hid (fun w => rletter_any (s[p].toNat : Int) w)
  have DD := hid (fun w => rdigit_any (s[p].toNat : Int) w)
  rw [h1] at DL
  rw [h2] at DD
  clear h1 h2
  have hX1 := HT.out.1
  have hpz : (p : Int) ≤ s.size := by omega
  obtain ⟨v, hv⟩ : ∃ v, (X.toList == []) = v := ⟨_, rfl⟩
  have HV := hid hv
  unfold oneEnd
  go_enter Tryz.func17, Tryz.ntmps17
  go_wp2_with (first
    | (go_at_call 32; with_reducible refine (DL.out _).mono ?_; rintro e w3 ⟨rfl, hw⟩; obtain rfl := hw.symm)
    | (go_at_call 33; with_reducible refine (DD.out _).mono ?_; rintro e w3 ⟨rfl, hw⟩; obtain rfl := hw.symm)
    | (go_at_call 37; with_reducible refine (HB.out _).mono ?_; rintro e w3 ⟨rfl, hw⟩; obtain rfl := hw.symm))
  have HA := hid (aft1 w 5 X p 0)
  obtain ⟨z0, z1, z2, z3, zf, zl⟩ := HA.out.res
  obtain ⟨y0, y1, y2, y3, yf, yl⟩ := HA.out.tok
  generalize (w.alloc _).alloc _ = W at *
  have u1 : IntKind.i64.wrap ((p : Int) + (n : Int)) = (p : Int) + (n : Int) := wi64 (by omega) (by omega)
  go_region_held_law (fun w' => w'.cell? ⟨w.heap.size + 1, 0, none⟩ = some (.int .i64 5) ∧ w'.cell? ⟨w.heap.size + 1, 1, none⟩ = some (.string X) ∧ w'.cell? ⟨w.heap.size + 1, 2, none⟩ = some (.int .i64 p) ∧ w'.cell? ⟨w.heap.size + 1, 3, none⟩ = some (.int .i64 0)) (first | exact ⟨y0, y1, y2, y3⟩ | go_simp | go_keep) (fail)
  all_goals go_wp2_with fail
  all_goals refine bodyPost_ret (by simp [results, Tryz.results17, go_sem, z0, z1, z2, z3]; try rfl) rfl ?_
  all_goals exact ⟨5, X, 0, p + n, by rw [← HT.out.2.1, HV.out]; rfl, HT.out.2.2, (below_put4 HA.out.bel).drew⟩
end Go.Proofs.YtbaemjibaeeglaaGreatDoor
