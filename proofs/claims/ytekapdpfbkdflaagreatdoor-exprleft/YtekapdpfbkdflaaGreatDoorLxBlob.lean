/- What the lexer's beginsBlob and blob answer. Condition: the text lies within the reach. -/
import Derived.Test.YtekapdpfbkdflaaGreatDoorXB
import Derived.Deep.QuietTactic
import Derived.BigQuiet
namespace Go.Proofs.YtekapdpfbkdflaaGreatDoor
open Go.RowKit Go.Lib Go.Sort
set_option linter.unusedVariables false
set_option maxRecDepth 20000

theorem blo_q (r acc : List UInt8) (i : Nat) : blo (39 :: r) acc i = some (acc, i + 1) := by
  cases r with
  | nil => rw [blo, if_pos rfl]
  | cons d r => rw [blo, if_pos rfl]
theorem blo_one {a : UInt8} (h : a ≠ 39) (acc : List UInt8) (i : Nat) : blo [a] acc i = none := by rw [blo, if_neg h]
theorem blo_bad {a b : UInt8} (h : a ≠ 39) (hb : hx (bi a) < 0 ∨ hx (bi b) < 0) (r acc : List UInt8) (i : Nat) : blo (a :: b :: r) acc i = none := by rw [blo, if_neg h, if_pos hb]
theorem blo_ok {a b : UInt8} (h : a ≠ 39) (hb : ¬ (hx (bi a) < 0 ∨ hx (bi b) < 0)) (r acc : List UInt8) (i : Nat) : blo (a :: b :: r) acc i = blo r (acc ++ [UInt8.ofNat (16 * hx (bi a) + hx (bi b)).toNat]) (i + 2) := by rw [blo, if_neg h, if_neg hb]
theorem orFin : ∀ a c : Fin 16, bits .or .i64 ((a.val : Int) * 16) (c.val : Int) % 256 = ((UInt8.ofNat (16 * (a.val : Int) + (c.val : Int)).toNat).toNat : Int) := by decide +kernel
theorem orB {a c : Nat} (ha : a < 16) (hc : c < 16) : bits .or .i64 ((a : Int) * 16) (c : Int) % 256 = ((UInt8.ofNat (16 * (a : Int) + (c : Int)).toNat).toNat : Int) := orFin ⟨a, ha⟩ ⟨c, hc⟩
theorem hx_lt (c : UInt8) : hx (bi c) < 16 := by
  have := c.toNat_lt
  unfold hx bi dig
  split
  · rename_i h; simp at h; omega
  · split
    · omega
    · split <;> omega
theorem hx_ge (c : UInt8) : -1 ≤ hx (bi c) := by
  have := c.toNat_lt
  unfold hx bi dig
  split
  · rename_i h; simp at h; omega
  · split
    · omega
    · split <;> omega

set_option maxHeartbeats 1000000 in
theorem xbeginsBlob_any (s : ByteArray) (w : World) (h : 0 < s.size) (hs : s.size ≤ 140737488351232) :
    Calls Tryz.prog 29 #[.string s] w fun e w' => e = .returned (.bool (isX s.data.toList)) ∧ w' = w := by
  by_cases h1 : s.size = 1
  · have e : isX s.data.toList = false := by
      rw [data_cons h, drop_end s (by omega)]
      rfl
    rw [e]
    have hz : ¬ ((1 : Int) < (s.size : Int)) := by omega
    clear e
    go_enter Tryz.func29, Tryz.ntmps29
    go_wp2
    go_ret
    exact ⟨rfl, rfl⟩
  · have e : isX s.data.toList = (((((s[0].toNat : Nat) : Int) == 120) || (((s[0].toNat : Nat) : Int) == 88)) && (((s[1]'(by omega)).toNat : Int) == 39)) := by
      rw [data_cons h, drop_at s (show 1 < s.size by omega)]
      rfl
    rw [e]
    have hz : (1 : Int) < (s.size : Int) := by omega
    have hz0 : (0 : Int) < (s.size : Int) := by omega
    have hs1 : 1 < s.size := by omega
    clear e
    cases a : (((s[0].toNat : Nat) : Int) == 120) <;> cases b : (((s[0].toNat : Nat) : Int) == 88) <;> cases c : (((s[1].toNat : Nat) : Int) == 39)
    all_goals (
      go_enter Tryz.func29, Tryz.ntmps29
      go_wp2
      go_ret
      exact ⟨rfl, rfl⟩)

theorem Bld.below {B b : Nat} {l : List UInt8} {w w' : World} (h : Bld B b l w) (hb : Below w.heap.size w w') : Bld B b l w' := by
  have key : ∀ p, Lib.BuilderAt 70 5 B b p (byteCells l) w → Lib.BuilderAt 70 5 B b p (byteCells l) w' := by
    rintro p ⟨h1, v, h2, ⟨h3, h4⟩, h5⟩
    refine ⟨h1, v, ?_, ⟨h3, ?_⟩, h5⟩
    · rw [hb.block b (Array.getElem?_eq_some_iff.1 h2).1]; exact h2
    · rcases h4 with h4 | ⟨g, cap, cur, hv, hg, hh, r⟩
      · exact Or.inl h4
      · exact Or.inr ⟨g, cap, cur, hv, hg, by rw [hb.block g (Array.getElem?_eq_some_iff.1 hh).1]; exact hh, r⟩
  rcases h with h | h
  · exact Or.inl (key _ h)
  · exact Or.inr (key _ h)

set_option maxHeartbeats 4000000 in
theorem xblob_any (s : ByteArray) (w : World) (h : 2 ≤ s.size) (hs : s.size ≤ 140737488351232) :
    Calls Tryz.prog 30 #[.string s] w fun e w' => e = .returned (fstV (mapK 4 (blo (s.data.toList.drop 2) [] 2))) ∧ Below w.heap.size w w' := by
  obtain ⟨R, HR⟩ : ∃ R, Hid (blo (s.data.toList.drop 2) [] 2 = R) := ⟨_, rfl⟩
  rw [HR.out]
  go_enter Tryz.func30, Tryz.ntmps30
  go_wp2_with fail
  have HB0 := hid (bldNew (w.alloc (.cells #[.int .i64 0, .string ⟨#[]⟩, .int .i64 0, .int .i64 0] 56)))
  have e1 : (w.alloc (.cells #[.int .i64 0, .string ⟨#[]⟩, .int .i64 0, .int .i64 0] 56)).heap.size = w.heap.size + 1 := by simp
  rw [e1] at HB0
  go_loopw [5] (fun i wr => ∃ (k : Nat) (acc : List UInt8), i = .int .i64 k ∧ 2 ≤ k ∧ k ≤ s.size ∧ acc.length ≤ k ∧ Hid (blo (s.data.toList.drop k) acc k = R) ∧ Hid (Bld (w.heap.size + 1) (w.heap.size + 1) acc wr) ∧ Hid (Below w.heap.size w wr) ∧ Hid (Res wr w.heap.size) ∧ w.heap.size + 1 < wr.heap.size) (fun i _ => s.size - (RowKit.intOf i).toNat)
  case atStart => exact ⟨2, [], rfl, by omega, by omega, by simp, HR, HB0, by show Below _ _ _; go_grown, (Lib.alloc_old _ _ _ (by simp)).trans (heap_alloc_new w _), by simp⟩
  case round =>
    obtain ⟨k, acc, rfl, hk1, hk, hacc, hQ, hB, bel, hres, hsz⟩ := hrel
    by_cases hlt : k < s.size
    · have HD := hid (drop_at s hlt)
      have hkz : (k : Int) < s.size := by omega
      have hkg : ¬ ((s.size : Int) ≤ (k : Int)) := by omega
      cases hc : (((s[k].toNat : Nat) : Int) == 39) with
      | true =>
        have h39 := byte_is39 hc
        have HN : Hid (R = some (acc, k + 1)) := by
          show _ = _
          rw [← hQ.out, HD.out, h39, blo_q]
        have C := hid (bldString (w.heap.size + 1) (w.heap.size + 1) acc wr hB.out (by omega))
        clear hQ HD h39
        by_cases hlt2 : k + 1 < s.size
        · have hkz2 : ((k : Int) + 1) < s.size := by omega
          go_wp2_with (go_at_call 22; with_reducible refine C.out.mono ?_; rintro e w2 ⟨rfl, bel2⟩; obtain ⟨z0, z1, z2, z3⟩ := (hres.out.below bel2 (Nat.lt_succ_self _)).cells; have zf := (hres.out.below bel2 (Nat.lt_succ_self _)).frozen; have BB := hid (bel.out.trans (bel2.mono (Nat.le_succ _))); clear bel2)
          refine bodyPost_ret (by simp [results, Tryz.results30, go_sem, z0, z1, z2, z3]; try rfl) rfl ?_
          exact ⟨by rw [HN.out]; rfl, below_put4 BB.out⟩
        · have hkz2 : ¬ ((k : Int) + 1) < s.size := by omega
          go_wp2_with (go_at_call 22; with_reducible refine C.out.mono ?_; rintro e w2 ⟨rfl, bel2⟩; obtain ⟨z0, z1, z2, z3⟩ := (hres.out.below bel2 (Nat.lt_succ_self _)).cells; have zf := (hres.out.below bel2 (Nat.lt_succ_self _)).frozen; have BB := hid (bel.out.trans (bel2.mono (Nat.le_succ _))); clear bel2)
          refine bodyPost_ret (by simp [results, Tryz.results30, go_sem, z0, z1, z2, z3]; try rfl) rfl ?_
          exact ⟨by rw [HN.out]; rfl, below_put4 BB.out⟩
      | false =>
        have h39 := byte_ne39 hc
        by_cases hlt2 : k + 1 < s.size
        · obtain ⟨k1, hk1e⟩ : ∃ k1 : Nat, k1 = k + 1 := ⟨_, rfl⟩
          have hlt3 : k1 < s.size := by omega
          have HD2 : Hid (s.data.toList.drop (k + 1) = s[k1] :: s.data.toList.drop (k + 1 + 1)) := by
            subst hk1e
            exact drop_at s hlt2
          have hke : ((k : Int) + 1) = (k1 : Int) := by omega
          have hkz2 : (k1 : Int) < s.size := by omega
          clear hk1e hlt2
          have D1 : Hid (∀ d os, Calls Tryz.prog 55 #[.int .u8 (s[k].toNat : Int)] (grow (redrawn wr d) os) fun e w'' => e = .returned (.int .i64 (hx (bi s[k]))) ∧ ∃ p : Regrown, w'' = grow (redrawn wr p.d) p.os) := fun d os => (xhex_any s[k] _).mono fun _ _ h => ⟨h.1, ⟨d, os⟩, h.2⟩
          have D2 : Hid (∀ d os, Calls Tryz.prog 55 #[.int .u8 (s[k1].toNat : Int)] (grow (redrawn wr d) os) fun e w'' => e = .returned (.int .i64 (hx (bi s[k1]))) ∧ ∃ p : Regrown, w'' = grow (redrawn wr p.d) p.os) := fun d os => (xhex_any s[k1] _).mono fun _ _ h => ⟨h.1, ⟨d, os⟩, h.2⟩
          have HQ2 : Hid (blo (s[k] :: s[k1] :: s.data.toList.drop (k + 1 + 1)) acc k = R) := by
            show _ = _
            rw [← hQ.out, HD.out, HD2.out]
          have hA := hx_lt s[k]
          have hA' := hx_ge s[k]
          have hE := hx_lt s[k1]
          have hE' := hx_ge s[k1]
          have HBad : Hid ((hx (bi s[k]) < 0 ∨ hx (bi s[k1]) < 0) → blo (s[k] :: s[k1] :: s.data.toList.drop (k + 1 + 1)) acc k = none) := fun hb => blo_bad h39 hb _ _ _
          have HOk : Hid (¬ (hx (bi s[k]) < 0 ∨ hx (bi s[k1]) < 0) → blo (s[k] :: s[k1] :: s.data.toList.drop (k + 1 + 1)) acc k = blo (s.data.toList.drop (k + 1 + 1)) (acc ++ [UInt8.ofNat (16 * hx (bi s[k]) + hx (bi s[k1])).toNat]) (k + 2)) := fun hb => blo_ok h39 hb _ _ _
          clear hQ HD HD2 h39
          generalize hx (bi s[k]) = A at *
          generalize hx (bi s[k1]) = E at *
          go_wp2_with fail
          refine wp_region_quiet_below (by kernel_rfl) (by kernel_rfl) ?_
          repeat (first
            | go_big_quiet_step (first | (go_at_call 55; with_reducible exact D1.out _ _) | (go_at_call 55; with_reducible exact D2.out _ _))
            | quiet_step (first | (go_at_call 55; with_reducible exact D1.out _ _) | (go_at_call 55; with_reducible exact D2.out _ _)))
          refine wpQuiet_nil ?_
          intro _ hw'
          obtain ⟨⟨dq, osq⟩, hw''⟩ := hw'
          subst hw''
          have bq := below_regrown wr dq osq
          have hB2 := hid (hB.out.below bq)
          have bel2 := hid (bel.out.trans (bq.mono bel.out.size))
          have hres2 := hid (hres.out.below bq hres.out.lt)
          have hsz2 : w.heap.size + 1 < (grow (redrawn wr dq) osq).heap.size := Nat.lt_of_lt_of_le hsz bq.size
          clear bq hB bel hres hsz D1 D2
          generalize grow (redrawn wr dq) osq = wq at *
          by_cases hbad : A < 0 ∨ E < 0
          · have HN : Hid (R = none) := by
              show _ = _
              rw [← HQ2.out]
              exact HBad.out hbad
            obtain ⟨z0, z1, z2, z3⟩ := hres2.out.cells
            have zf := hres2.out.frozen
            clear HQ2 HBad HOk hA hA' hE hE'
            by_cases ha : A < 0
            · clear hbad
              go_wp2_with fail
              refine bodyPost_ret (by simp [results, Tryz.results30, go_sem, z0, z1, z2, z3]; try rfl) rfl ?_
              exact ⟨by rw [HN.out]; rfl, below_put4 bel2.out⟩
            · have he : E < 0 := by omega
              clear hbad
              go_wp2_with fail
              refine bodyPost_ret (by simp [results, Tryz.results30, go_sem, z0, z1, z2, z3]; try rfl) rfl ?_
              exact ⟨by rw [HN.out]; rfl, below_put4 bel2.out⟩
          · have HN : Hid (blo (s.data.toList.drop (k + 2)) (acc ++ [UInt8.ofNat (16 * A + E).toNat]) (k + 2) = R) := by
              show _ = _
              rw [← HQ2.out]
              exact (HOk.out hbad).symm
            have ha : ¬ A < 0 := by omega
            have he : ¬ E < 0 := by omega
            obtain ⟨a, rfl⟩ : ∃ a : Nat, A = a := ⟨A.toNat, by omega⟩
            obtain ⟨c, rfl⟩ : ∃ c : Nat, E = c := ⟨E.toNat, by omega⟩
            have C := hid (bldByte (w.heap.size + 1) (w.heap.size + 1) acc (UInt8.ofNat (16 * (a : Int) + (c : Int)).toNat) (bits .or .i64 ((a : Int) * 16) (c : Int) % 256) wq (orB (by omega) (by omega)) hB2.out (by omega) (by omega))
            have HKE := hid hke
            clear HQ2 HBad HOk hbad
            go_wp2_with (go_at_call 52; with_reducible refine C.out.mono ?_; rintro e w2 ⟨rfl, hb2, bel3⟩; have HB2 := hid hb2; have BB := hid (bel2.out.trans (bel3.mono (Nat.le_succ _))); have HS := hid (hres2.out.below bel3 (Nat.lt_succ_self _)); have hz2 : w.heap.size + 1 < w2.heap.size := Nat.lt_of_lt_of_le hsz2 bel3.size; clear hb2 bel3)
            go_roundw
            case rel => exact ⟨k + 2, _, by go_num, by omega, by omega, by simp; omega, HN, HB2, BB, HS, hz2⟩
            case measure => simp [RowKit.intOf]; omega
        · have HN : Hid (R = none) := by
            show _ = _
            rw [← hQ.out, HD.out, drop_end s (by omega), blo_one h39]
          have hkz2 : ¬ ((k : Int) + 1) < s.size := by omega
          obtain ⟨z0, z1, z2, z3⟩ := hres.out.cells
          have zf := hres.out.frozen
          clear hQ HD h39
          go_wp2_with fail
          refine bodyPost_ret (by simp [results, Tryz.results30, go_sem, z0, z1, z2, z3]; try rfl) rfl ?_
          exact ⟨by rw [HN.out]; rfl, below_put4 bel.out⟩
    · have HN : Hid (R = none) := by
        show _ = _
        rw [← hQ.out, drop_end s (by omega)]
        rfl
      have hkz : ¬ (k : Int) < s.size := by omega
      have hkz2 : ¬ ((k : Int) + 1) < s.size := by omega
      have hkg : (s.size : Int) ≤ (k : Int) := by omega
      obtain ⟨z0, z1, z2, z3⟩ := hres.out.cells
      have zf := hres.out.frozen
      clear hQ
      go_wp2_with fail
      refine bodyPost_ret (by simp [results, Tryz.results30, go_sem, z0, z1, z2, z3]; try rfl) rfl ?_
      exact ⟨by rw [HN.out]; rfl, below_put4 bel.out⟩
end Go.Proofs.YtekapdpfbkdflaaGreatDoor
