/- What the lexer's quoted answers. Condition: the text lies within the reach. -/
import Derived.Test.YtbaemjibaeeglaaGreatDoorLxBuild
namespace Go.Proofs.YtbaemjibaeeglaaGreatDoor
open Go.RowKit Go.Lib Go.Sort
set_option linter.unusedVariables false
set_option maxRecDepth 20000

theorem quo_ne {c : UInt8} (h : c ≠ 39) (r acc : List UInt8) (i : Nat) : quo (c :: r) acc i = quo r (acc ++ [c]) (i + 1) := by
  cases r with
  | nil => simp [quo, h]
  | cons d r => rw [quo, if_neg h]
theorem quo_q1 (acc : List UInt8) (i : Nat) : quo [39] acc i = some (acc, i + 1) := by rw [quo, if_pos rfl]
theorem quo_q2 (r acc : List UInt8) (i : Nat) : quo (39 :: 39 :: r) acc i = quo r (acc ++ [39]) (i + 2) := by rw [quo, if_pos rfl, if_pos rfl]
theorem quo_q3 {d : UInt8} (h : d ≠ 39) (r acc : List UInt8) (i : Nat) : quo (39 :: d :: r) acc i = some (acc, i + 1) := by rw [quo, if_pos rfl, if_neg h]
theorem byte_eq {c : UInt8} {n : Nat} (hn : n < 256) : (((c.toNat : Nat) : Int) == (n : Int)) = decide (c = UInt8.ofNat n) := by
  rw [Bool.eq_iff_iff, beq_iff_eq, decide_eq_true_iff]
  constructor
  · intro h
    apply UInt8.toNat_inj.1
    rw [UInt8.toNat_ofNat', Nat.mod_eq_of_lt hn]
    omega
  · rintro rfl
    rw [UInt8.toNat_ofNat', Nat.mod_eq_of_lt hn]
theorem byte_ne39 {c : UInt8} (h : (((c.toNat : Nat) : Int) == 39) = false) : c ≠ 39 := by
  rintro rfl
  cases h
theorem byte_is39 {c : UInt8} (h : (((c.toNat : Nat) : Int) == 39) = true) : c = 39 := by
  rw [beq_iff_eq] at h
  apply UInt8.toNat_inj.1
  show c.toNat = 39
  omega

/-- The result's block, as it is made. -/
def Res (w : World) (b : Nat) : Prop := w.heap[b]? = some (.cells #[.int .i64 0, .string ⟨#[]⟩, .int .i64 0, .int .i64 0] 38 (0, 0))
theorem Res.cells {w : World} {b : Nat} (h : Res w b) : w.cell? ⟨b, 0, none⟩ = some (.int .i64 0) ∧ w.cell? ⟨b, 1, none⟩ = some (.string ⟨#[]⟩) ∧ w.cell? ⟨b, 2, none⟩ = some (.int .i64 0) ∧ w.cell? ⟨b, 3, none⟩ = some (.int .i64 0) := by
  refine ⟨?_, ?_, ?_, ?_⟩ <;> (rw [Lib.cell_of_heap h]; rfl)
theorem Res.frozen {w : World} {b : Nat} (h : Res w b) (j : Nat) : w.frozen? ⟨b, j, none⟩ = false := Lib.frozen_of_heap h j
theorem Res.below {w w' : World} {b B : Nat} (h : Res w b) (hb : Below B w w') (hB : b < B) : Res w' b := by
  unfold Res
  rw [hb.block b hB]
  exact h
theorem Res.lt {w : World} {b : Nat} (h : Res w b) : b < w.heap.size := by
  rcases Nat.lt_or_ge b w.heap.size with h' | h'
  · exact h'
  · simp [Res, Array.getElem?_eq_none h'] at h
theorem below_put4 {w w1 : World} {b : Nat} {x0 x1 x2 x3 : Value} (h : Below b w w1) : Below b w ((((w1.setCell ⟨b, 0, none⟩ x0).setCell ⟨b, 1, none⟩ x1).setCell ⟨b, 2, none⟩ x2).setCell ⟨b, 3, none⟩ x3) :=
  (((h.setCell (p := ⟨b, 0, none⟩) (Nat.le_refl _) _).setCell (p := ⟨b, 1, none⟩) (Nat.le_refl _) _).setCell (p := ⟨b, 2, none⟩) (Nat.le_refl _) _).setCell (p := ⟨b, 3, none⟩) (Nat.le_refl _) _

/-- What quoted and blob answer. -/
def mapK (k : Int) (R : Option (List UInt8 × Nat)) : Option (Tk × Nat) := R.map fun x => (⟨k, x.1, 0⟩, x.2)

set_option maxHeartbeats 4000000 in
theorem xquoted_any (s : ByteArray) (w : World) (h : 0 < s.size) (hs : s.size ≤ 140737488351232) :
    Calls Tryz.prog 23 #[.string s] w fun e w' => e = .returned (fstV (mapK 3 (quo (s.data.toList.drop 1) [] 1))) ∧ Below w.heap.size w w' := by
  obtain ⟨R, HR⟩ : ∃ R, Hid (quo (s.data.toList.drop 1) [] 1 = R) := ⟨_, rfl⟩
  rw [HR.out]
  go_enter Tryz.func23, Tryz.ntmps23
  go_wp2_with fail
  have HB0 := hid (bldNew (w.alloc (.cells #[.int .i64 0, .string ⟨#[]⟩, .int .i64 0, .int .i64 0] 38)))
  have e1 : (w.alloc (.cells #[.int .i64 0, .string ⟨#[]⟩, .int .i64 0, .int .i64 0] 38)).heap.size = w.heap.size + 1 := by simp
  rw [e1] at HB0
  go_loopw [5] (fun i wr => ∃ (k : Nat) (acc : List UInt8), i = .int .i64 k ∧ 1 ≤ k ∧ k ≤ s.size ∧ acc.length ≤ k ∧ Hid (quo (s.data.toList.drop k) acc k = R) ∧ Hid (Bld (w.heap.size + 1) (w.heap.size + 1) acc wr) ∧ Hid (Below w.heap.size w wr) ∧ Hid (Res wr w.heap.size) ∧ w.heap.size + 1 < wr.heap.size) (fun i _ => s.size - (RowKit.intOf i).toNat)
  case atStart => exact ⟨1, [], rfl, by omega, by omega, by simp, HR, HB0, by show Below _ _ _; go_grown, (Lib.alloc_old _ _ _ (by simp)).trans (heap_alloc_new w _), by simp⟩
  case round =>
    obtain ⟨k, acc, rfl, hk1, hk, hacc, hQ, hB, bel, hres, hsz⟩ := hrel
    by_cases hlt : k < s.size
    · have HD := hid (drop_at s hlt)
      have hkz : (k : Int) < s.size := by omega
      cases hc : (((s[k].toNat : Nat) : Int) == 39) with
      | true =>
        have h39 := byte_is39 hc
        by_cases hlt2 : k + 1 < s.size
        · have HD2 := hid (drop_at s hlt2)
          have hkz2 : ((k : Int) + 1) < s.size := by omega
          have hkz3 : (((k : Int) + 1) == (s.size : Int)) = false := beq_eq_false_iff_ne.2 (by omega)
          cases hd : (((s[k + 1].toNat : Nat) : Int) == 39) with
          | true =>
            have h39' := byte_is39 hd
            have HN : Hid (quo (s.data.toList.drop (k + 2)) (acc ++ [39]) (k + 2) = R) := by
              show _ = _
              rw [← hQ.out, HD.out, HD2.out, h39, h39', quo_q2]
            clear hQ HD HD2
            have C := hid (bldByte (w.heap.size + 1) (w.heap.size + 1) acc 39 (s[k + 1].toNat : Int) wr (by rw [h39']) hB.out (by omega) (by omega))
            clear h39 h39'
            go_wp2_with (go_at_call 49; with_reducible refine C.out.mono ?_; rintro e w2 ⟨rfl, hb2, bel2⟩; have HB2 := hid hb2; have BB := hid (bel.out.trans (bel2.mono (Nat.le_succ _))); have HS := hid (hres.out.below bel2 (Nat.lt_succ_self _)); have hz2 : w.heap.size + 1 < w2.heap.size := Nat.lt_of_lt_of_le hsz bel2.size; clear hb2 bel2)
            go_roundw
            case rel => exact ⟨k + 2, acc ++ [39], by go_num, by omega, by omega, by simp; omega, HN, HB2, BB, HS, hz2⟩
            case measure => simp [RowKit.intOf]; omega
          | false =>
            have h39' := byte_ne39 hd
            have HN : Hid (R = some (acc, k + 1)) := by
              show _ = _
              rw [← hQ.out, HD.out, HD2.out, h39, quo_q3 h39']
            clear hQ HD HD2
            have C := hid (bldString (w.heap.size + 1) (w.heap.size + 1) acc wr hB.out (by omega))
            clear h39 h39'
            go_wp2_with (go_at_call 48; with_reducible refine C.out.mono ?_; rintro e w2 ⟨rfl, bel2⟩; obtain ⟨z0, z1, z2, z3⟩ := (hres.out.below bel2 (Nat.lt_succ_self _)).cells; have zf := (hres.out.below bel2 (Nat.lt_succ_self _)).frozen; have BB := hid (bel.out.trans (bel2.mono (Nat.le_succ _))); clear bel2)
            refine bodyPost_ret (by simp [results, Tryz.results23, go_sem, z0, z1, z2, z3]; try rfl) rfl ?_
            exact ⟨by rw [HN.out]; rfl, below_put4 BB.out⟩
        · have hkz3 : (((k : Int) + 1) == (s.size : Int)) = true := beq_iff_eq.2 (by omega)
          have HN : Hid (R = some (acc, k + 1)) := by
            show _ = _
            rw [← hQ.out, HD.out, drop_end s (by omega), h39, quo_q1]
          clear hQ HD
          have C := hid (bldString (w.heap.size + 1) (w.heap.size + 1) acc wr hB.out (by omega))
          clear h39
          go_wp2_with (go_at_call 48; with_reducible refine C.out.mono ?_; rintro e w2 ⟨rfl, bel2⟩; obtain ⟨z0, z1, z2, z3⟩ := (hres.out.below bel2 (Nat.lt_succ_self _)).cells; have zf := (hres.out.below bel2 (Nat.lt_succ_self _)).frozen; have BB := hid (bel.out.trans (bel2.mono (Nat.le_succ _))); clear bel2)
          refine bodyPost_ret (by simp [results, Tryz.results23, go_sem, z0, z1, z2, z3]; try rfl) rfl ?_
          exact ⟨by rw [HN.out]; rfl, below_put4 BB.out⟩
      | false =>
        have h39 := byte_ne39 hc
        have HN : Hid (quo (s.data.toList.drop (k + 1)) (acc ++ [s[k]]) (k + 1) = R) := by
          show _ = _
          rw [← hQ.out, HD.out, quo_ne h39]
        clear hQ HD h39
        have C := hid (bldByte (w.heap.size + 1) (w.heap.size + 1) acc s[k] (s[k].toNat : Int) wr rfl hB.out (by omega) (by omega))
        go_wp2_with (go_at_call 49; with_reducible refine C.out.mono ?_; rintro e w2 ⟨rfl, hb2, bel2⟩; have HB2 := hid hb2; have BB := hid (bel.out.trans (bel2.mono (Nat.le_succ _))); have HS := hid (hres.out.below bel2 (Nat.lt_succ_self _)); have hz2 : w.heap.size + 1 < w2.heap.size := Nat.lt_of_lt_of_le hsz bel2.size; clear hb2 bel2)
        go_roundw
        case rel => exact ⟨k + 1, acc ++ [s[k]], by go_num, by omega, by omega, by simp; omega, HN, HB2, BB, HS, hz2⟩
        case measure => simp [RowKit.intOf]; omega
    · have HN : Hid (R = none) := by
        show _ = _
        rw [← hQ.out, drop_end s (by omega)]
        rfl
      have hkz : ¬ (k : Int) < s.size := by omega
      obtain ⟨z0, z1, z2, z3⟩ := hres.out.cells
      have zf := hres.out.frozen
      clear hQ
      go_wp2_with fail
      refine bodyPost_ret (by simp [results, Tryz.results23, go_sem, z0, z1, z2, z3]; try rfl) rfl ?_
      exact ⟨by rw [HN.out]; rfl, below_put4 bel.out⟩
end Go.Proofs.YtbaemjibaeeglaaGreatDoor
