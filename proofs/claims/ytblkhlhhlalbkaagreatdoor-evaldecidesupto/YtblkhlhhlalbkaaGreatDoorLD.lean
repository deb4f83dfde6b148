/- What the lexer's beginsBlob and blob answer. Condition: the text lies within the reach. What the lexer's first answers: the word with which a text begins. Conditions: the text lies within the reach; the library's variable of errors holds what its text lays. What the lexer's Tokens answers: the words of a text. Conditions: the text lies within the reach; the library's variable of errors holds what its text lays. -/
import Derived.Test.YtblkhlhhlalbkaaGreatDoorLC
import Derived.Deep.QuietTactic
import Derived.BigQuiet
import Derived.WalkMore
import Derived.Deep.LoopGhost
namespace Go.Proofs.YtblkhlhhlalbkaaGreatDoor
open Go.RowKit Go.Lib Go.Sort
set_option linter.unusedVariables false
set_option maxRecDepth 20000

theorem blo_q (r acc : List UInt8) (i : Nat) : blo (39 :: r) acc i = some (acc, i + 1) := by
  cases r with
  | nil => rw [blo, if_pos rfl]
  | cons d r => rw [blo, if_pos rfl]
theorem blo_one {a : UInt8} (h : a ≠ 39) (acc : List UInt8) (i : Nat) : blo [a] acc i = none := by rw [blo, if_neg h]
theorem blo_bad {a b : UInt8} (h : a ≠ 39) (hb : hx (bi a) < 0 ∨ hx (bi b) < 0) (r acc : List UInt8) (i : Nat) : blo (a :: b :: r) acc i = none := by rw [blo, if_neg h, if_pos hb]
theorem blo_ok {a b : UInt8} (h : a ≠ 39) (hb : ¬ (hx (bi a) < 0 ∨ hx (bi b) < 0)) (r acc : List UInt8) (i : Nat) : blo (a :: b :: r) acc i = blo r (acc ++ [UInt8.ofNat (16 * hx (bi a) + hx (bi b)).toNat]) (i + 2) := by rw [blo, if_neg h, if_neg hb]
theorem orFin : ∀ a c : Fin 16, bits .or .i64 ((a.val : Int) * 16) (c.val : Int) % 256 = ((UInt8.ofNat (16 * (a.val : Int) + (c.val : Int)).toNat).toNat : Int) := by decide +kernel
theorem orB {a c : Nat} (ha : a < 16) (hc : c < 16) : bits .or .i64 ((a : Int) * 16) (c : Int) % 256 = ((UInt8.ofNat (16 * (a : Int) + (c : Int)).toNat).toNat : Int) := orFin ⟨a, ha⟩ ⟨c, hc⟩
theorem hx_lt (c : UInt8) : hx (bi c) < 16 := by
  have := c.toNat_lt
  unfold hx bi dig
  split
  · rename_i h; simp at h; omega
  · split
    · omega
    · split <;> omega
theorem hx_ge (c : UInt8) : -1 ≤ hx (bi c) := by
  have := c.toNat_lt
  unfold hx bi dig
  split
  · rename_i h; simp at h; omega
  · split
    · omega
    · split <;> omega

set_option maxHeartbeats 1000000 in
theorem xbeginsBlob_any (s : ByteArray) (w : World) (h : 0 < s.size) (hs : s.size ≤ 140737488351232) :
    Calls Tryz.prog 86 #[.string s] w fun e w' => e = .returned (.bool (isX s.data.toList)) ∧ w' = w := by
  by_cases h1 : s.size = 1
  · have e : isX s.data.toList = false := by
      rw [data_cons h, drop_end s (by omega)]
      rfl
    rw [e]
    have hz : ¬ ((1 : Int) < (s.size : Int)) := by omega
    clear e
    go_enter Tryz.func86, Tryz.ntmps86
    go_wp2
    go_ret
    exact ⟨rfl, rfl⟩
  · have e : isX s.data.toList = (((((s[0].toNat : Nat) : Int) == 120) || (((s[0].toNat : Nat) : Int) == 88)) && (((s[1]'(by omega)).toNat : Int) == 39)) := by
      rw [data_cons h, drop_at s (show 1 < s.size by omega)]
      rfl
    rw [e]
    have hz : (1 : Int) < (s.size : Int) := by omega
    have hz0 : (0 : Int) < (s.size : Int) := by omega
    have hs1 : 1 < s.size := by omega
    clear e
    cases a : (((s[0].toNat : Nat) : Int) == 120) <;> cases b : (((s[0].toNat : Nat) : Int) == 88) <;> cases c : (((s[1].toNat : Nat) : Int) == 39)
    all_goals (
      go_enter Tryz.func86, Tryz.ntmps86
      go_wp2
      go_ret
      exact ⟨rfl, rfl⟩)

theorem Bld.below {B b : Nat} {l : List UInt8} {w w' : World} (h : Bld B b l w) (hb : Below w.heap.size w w') : Bld B b l w' := by
  have key : ∀ p, Lib.BuilderAt 120 5 B b p (byteCells l) w → Lib.BuilderAt 120 5 B b p (byteCells l) w' := by
    rintro p ⟨h1, v, h2, ⟨h3, h4⟩, h5⟩
    refine ⟨h1, v, ?_, ⟨h3, ?_⟩, h5⟩
    · rw [hb.block b (Array.getElem?_eq_some_iff.1 h2).1]; exact h2
    · rcases h4 with h4 | ⟨g, cap, cur, hv, hg, hh, r⟩
      · exact Or.inl h4
      · exact Or.inr ⟨g, cap, cur, hv, hg, by rw [hb.block g (Array.getElem?_eq_some_iff.1 hh).1]; exact hh, r⟩
  rcases h with h | h
  · exact Or.inl (key _ h)
  · exact Or.inr (key _ h)

set_option maxHeartbeats 4000000 in
theorem xblob_any (s : ByteArray) (w : World) (h : 2 ≤ s.size) (hs : s.size ≤ 140737488351232) :
    Calls Tryz.prog 87 #[.string s] w fun e w' => e = .returned (fstV (mapK 4 (blo (s.data.toList.drop 2) [] 2))) ∧ Below w.heap.size w w' := by
  obtain ⟨R, HR⟩ : ∃ R, Hid (blo (s.data.toList.drop 2) [] 2 = R) := ⟨_, rfl⟩
  rw [HR.out]
  go_enter Tryz.func87, Tryz.ntmps87
  go_wp2_with fail
  have HB0 := hid (bldNew (w.alloc (.cells #[.int .i64 0, .string ⟨#[]⟩, .int .i64 0, .int .i64 0] 106)))
  have e1 : (w.alloc (.cells #[.int .i64 0, .string ⟨#[]⟩, .int .i64 0, .int .i64 0] 106)).heap.size = w.heap.size + 1 := by simp
  rw [e1] at HB0
  go_loopw [5] (fun i wr => ∃ (k : Nat) (acc : List UInt8), i = .int .i64 k ∧ 2 ≤ k ∧ k ≤ s.size ∧ acc.length ≤ k ∧ Hid (blo (s.data.toList.drop k) acc k = R) ∧ Hid (Bld (w.heap.size + 1) (w.heap.size + 1) acc wr) ∧ Hid (Below w.heap.size w wr) ∧ Hid (Res wr w.heap.size) ∧ w.heap.size + 1 < wr.heap.size) (fun i _ => s.size - (RowKit.intOf i).toNat)
  case atStart => exact ⟨2, [], rfl, by omega, by omega, by simp, HR, HB0, by show Below _ _ _; go_grown, (Lib.alloc_old _ _ _ (by simp)).trans (heap_alloc_new w _), by simp⟩
  case round =>
    obtain ⟨k, acc, rfl, hk1, hk, hacc, hQ, hB, bel, hres, hsz⟩ := hrel
    by_cases hlt : k < s.size
    · have HD := hid (drop_at s hlt)
      have hkz : (k : Int) < s.size := by omega
      have hkg : ¬ ((s.size : Int) ≤ (k : Int)) := by omega
      cases hc : (((s[k].toNat : Nat) : Int) == 39) with
      | true =>
        have h39 := byte_is39 hc
        have HN : Hid (R = some (acc, k + 1)) := by
          show _ = _
          rw [← hQ.out, HD.out, h39, blo_q]
        have C := hid (bldString (w.heap.size + 1) (w.heap.size + 1) acc wr hB.out (by omega))
        clear hQ HD h39
        by_cases hlt2 : k + 1 < s.size
        · have hkz2 : ((k : Int) + 1) < s.size := by omega
          go_wp2_with (go_at_call 76; with_reducible refine C.out.mono ?_; rintro e w2 ⟨rfl, bel2⟩; obtain ⟨z0, z1, z2, z3⟩ := (hres.out.below bel2 (Nat.lt_succ_self _)).cells; have zf := (hres.out.below bel2 (Nat.lt_succ_self _)).frozen; have BB := hid (bel.out.trans (bel2.mono (Nat.le_succ _))); clear bel2)
          refine bodyPost_ret (by simp [results, Tryz.results87, go_sem, z0, z1, z2, z3]; try rfl) rfl ?_
          exact ⟨by rw [HN.out]; rfl, below_put4 BB.out⟩
        · have hkz2 : ¬ ((k : Int) + 1) < s.size := by omega
          go_wp2_with (go_at_call 76; with_reducible refine C.out.mono ?_; rintro e w2 ⟨rfl, bel2⟩; obtain ⟨z0, z1, z2, z3⟩ := (hres.out.below bel2 (Nat.lt_succ_self _)).cells; have zf := (hres.out.below bel2 (Nat.lt_succ_self _)).frozen; have BB := hid (bel.out.trans (bel2.mono (Nat.le_succ _))); clear bel2)
          refine bodyPost_ret (by simp [results, Tryz.results87, go_sem, z0, z1, z2, z3]; try rfl) rfl ?_
          exact ⟨by rw [HN.out]; rfl, below_put4 BB.out⟩
      | false =>
        have h39 := byte_ne39 hc
        by_cases hlt2 : k + 1 < s.size
        · obtain ⟨k1, hk1e⟩ : ∃ k1 : Nat, k1 = k + 1 := ⟨_, rfl⟩
          have hlt3 : k1 < s.size := by omega
          have HD2 : Hid (s.data.toList.drop (k + 1) = s[k1] :: s.data.toList.drop (k + 1 + 1)) := by
            subst hk1e
            exact drop_at s hlt2
          have hke : ((k : Int) + 1) = (k1 : Int) := by omega
          have hkz2 : (k1 : Int) < s.size := by omega
          clear hk1e hlt2
          have D1 : Hid (∀ d os, Calls Tryz.prog 127 #[.int .u8 (s[k].toNat : Int)] (grow (redrawn wr d) os) fun e w'' => e = .returned (.int .i64 (hx (bi s[k]))) ∧ ∃ p : Regrown, w'' = grow (redrawn wr p.d) p.os) := fun d os => (xhex_any s[k] _).mono fun _ _ h => ⟨h.1, ⟨d, os⟩, h.2⟩
          have D2 : Hid (∀ d os, Calls Tryz.prog 127 #[.int .u8 (s[k1].toNat : Int)] (grow (redrawn wr d) os) fun e w'' => e = .returned (.int .i64 (hx (bi s[k1]))) ∧ ∃ p : Regrown, w'' = grow (redrawn wr p.d) p.os) := fun d os => (xhex_any s[k1] _).mono fun _ _ h => ⟨h.1, ⟨d, os⟩, h.2⟩
          have HQ2 : Hid (blo (s[k] :: s[k1] :: s.data.toList.drop (k + 1 + 1)) acc k = R) := by
            show _ = _
            rw [← hQ.out, HD.out, HD2.out]
          have hA := hx_lt s[k]
          have hA' := hx_ge s[k]
          have hE := hx_lt s[k1]
          have hE' := hx_ge s[k1]
          have HBad : Hid ((hx (bi s[k]) < 0 ∨ hx (bi s[k1]) < 0) → blo (s[k] :: s[k1] :: s.data.toList.drop (k + 1 + 1)) acc k = none) := fun hb => blo_bad h39 hb _ _ _
          have HOk : Hid (¬ (hx (bi s[k]) < 0 ∨ hx (bi s[k1]) < 0) → blo (s[k] :: s[k1] :: s.data.toList.drop (k + 1 + 1)) acc k = blo (s.data.toList.drop (k + 1 + 1)) (acc ++ [UInt8.ofNat (16 * hx (bi s[k]) + hx (bi s[k1])).toNat]) (k + 2)) := fun hb => blo_ok h39 hb _ _ _
          clear hQ HD HD2 h39
          generalize hx (bi s[k]) = A at *
          generalize hx (bi s[k1]) = E at *
          go_wp2_with fail
          refine wp_region_quiet_below (by kernel_rfl) (by kernel_rfl) ?_
          repeat (first
            | go_big_quiet_step (first | (go_at_call 127; with_reducible exact D1.out _ _) | (go_at_call 127; with_reducible exact D2.out _ _))
            | quiet_step (first | (go_at_call 127; with_reducible exact D1.out _ _) | (go_at_call 127; with_reducible exact D2.out _ _)))
          refine wpQuiet_nil ?_
          intro _ hw'
          obtain ⟨⟨dq, osq⟩, hw''⟩ := hw'
          subst hw''
          have bq := below_regrown wr dq osq
          have hB2 := hid (hB.out.below bq)
          have bel2 := hid (bel.out.trans (bq.mono bel.out.size))
          have hres2 := hid (hres.out.below bq hres.out.lt)
          have hsz2 : w.heap.size + 1 < (grow (redrawn wr dq) osq).heap.size := Nat.lt_of_lt_of_le hsz bq.size
          clear bq hB bel hres hsz D1 D2
          generalize grow (redrawn wr dq) osq = wq at *
          by_cases hbad : A < 0 ∨ E < 0
          · have HN : Hid (R = none) := by
              show _ = _
              rw [← HQ2.out]
              exact HBad.out hbad
            obtain ⟨z0, z1, z2, z3⟩ := hres2.out.cells
            have zf := hres2.out.frozen
            clear HQ2 HBad HOk hA hA' hE hE'
            by_cases ha : A < 0
            · clear hbad
              go_wp2_with fail
              refine bodyPost_ret (by simp [results, Tryz.results87, go_sem, z0, z1, z2, z3]; try rfl) rfl ?_
              exact ⟨by rw [HN.out]; rfl, below_put4 bel2.out⟩
            · have he : E < 0 := by omega
              clear hbad
              go_wp2_with fail
              refine bodyPost_ret (by simp [results, Tryz.results87, go_sem, z0, z1, z2, z3]; try rfl) rfl ?_
              exact ⟨by rw [HN.out]; rfl, below_put4 bel2.out⟩
          · have HN : Hid (blo (s.data.toList.drop (k + 2)) (acc ++ [UInt8.ofNat (16 * A + E).toNat]) (k + 2) = R) := by
              show _ = _
              rw [← HQ2.out]
              exact (HOk.out hbad).symm
            have ha : ¬ A < 0 := by omega
            have he : ¬ E < 0 := by omega
            obtain ⟨a, rfl⟩ : ∃ a : Nat, A = a := ⟨A.toNat, by omega⟩
            obtain ⟨c, rfl⟩ : ∃ c : Nat, E = c := ⟨E.toNat, by omega⟩
            have C := hid (bldByte (w.heap.size + 1) (w.heap.size + 1) acc (UInt8.ofNat (16 * (a : Int) + (c : Int)).toNat) (bits .or .i64 ((a : Int) * 16) (c : Int) % 256) wq (orB (by omega) (by omega)) hB2.out (by omega) (by omega))
            have HKE := hid hke
            clear HQ2 HBad HOk hbad
            go_wp2_with (go_at_call 124; with_reducible refine C.out.mono ?_; rintro e w2 ⟨rfl, hb2, bel3⟩; have HB2 := hid hb2; have BB := hid (bel2.out.trans (bel3.mono (Nat.le_succ _))); have HS := hid (hres2.out.below bel3 (Nat.lt_succ_self _)); have hz2 : w.heap.size + 1 < w2.heap.size := Nat.lt_of_lt_of_le hsz2 bel3.size; clear hb2 bel3)
            go_roundw
            case rel => exact ⟨k + 2, _, by go_num, by omega, by omega, by simp; omega, HN, HB2, BB, HS, hz2⟩
            case measure => simp [RowKit.intOf]; omega
        · have HN : Hid (R = none) := by
            show _ = _
            rw [← hQ.out, HD.out, drop_end s (by omega), blo_one h39]
          have hkz2 : ¬ ((k : Int) + 1) < s.size := by omega
          obtain ⟨z0, z1, z2, z3⟩ := hres.out.cells
          have zf := hres.out.frozen
          clear hQ HD h39
          go_wp2_with fail
          refine bodyPost_ret (by simp [results, Tryz.results87, go_sem, z0, z1, z2, z3]; try rfl) rfl ?_
          exact ⟨by rw [HN.out]; rfl, below_put4 bel.out⟩
    · have HN : Hid (R = none) := by
        show _ = _
        rw [← hQ.out, drop_end s (by omega)]
        rfl
      have hkz : ¬ (k : Int) < s.size := by omega
      have hkz2 : ¬ ((k : Int) + 1) < s.size := by omega
      have hkg : (s.size : Int) ≤ (k : Int) := by omega
      obtain ⟨z0, z1, z2, z3⟩ := hres.out.cells
      have zf := hres.out.frozen
      clear hQ
      go_wp2_with fail
      refine bodyPost_ret (by simp [results, Tryz.results87, go_sem, z0, z1, z2, z3]; try rfl) rfl ?_
      exact ⟨by rw [HN.out]; rfl, below_put4 bel.out⟩
end Go.Proofs.YtblkhlhhlalbkaaGreatDoor
namespace Go.Proofs.YtblkhlhhlalbkaaGreatDoor
open Go.RowKit Go.Lib Go.Sort
set_option linter.unusedVariables false
set_option maxRecDepth 20000

theorem first1_text {s : ByteArray} (h : 0 < s.size) : first1 s.data.toList =
    (if (s[0].toNat : Int) == 39 then mapK 3 (quo (s.data.toList.drop 1) [] 1)
    else if dig (s[0].toNat : Int) then (numD (s.data.toList.take (cntW isD s.data.toList))).map fun v => (⟨2, [], v⟩, cntW isD s.data.toList)
    else if isX s.data.toList then mapK 4 (blo (s.data.toList.drop 2) [] 2)
    else if ltr (s[0].toNat : Int) then some (⟨1, toLowerA (s.data.toList.take (cntW isW s.data.toList)), 0⟩, cntW isW s.data.toList)
    else if sym s.data.toList = 0 then none else some (⟨5, s.data.toList.take (sym s.data.toList), 0⟩, sym s.data.toList)) := by
  have e := data_cons h
  generalize s.data.toList.drop 1 = r at e ⊢
  generalize s.data.toList = l at e ⊢
  generalize s[0] = c at e ⊢
  subst e
  rfl

set_option maxHeartbeats 4000000 in
theorem first_core (s : ByteArray) (X : Option (Tk × Nat)) (c : Int) (b1 b2 b3 b4 : Bool) (w : World) (h : 0 < s.size) (hc : (s[0].toNat : Int) = c) (e1 : (c == 39) = b1)
    (D1 : Hid (∀ w, Calls Tryz.prog 84 #[.int .u8 c] w fun e w' => e = .returned (.bool b2) ∧ w' = w))
    (D2 : Hid (∀ w, Calls Tryz.prog 86 #[.string s] w fun e w' => e = .returned (.bool b3) ∧ w' = w))
    (D3 : Hid (∀ w, Calls Tryz.prog 88 #[.int .u8 c] w fun e w' => e = .returned (.bool b4) ∧ w' = w))
    (F : FuncId) (hF : Hid ((b1 = true → F = 83) ∧ (b1 = false → b2 = true → F = 85) ∧ (b1 = false → b2 = false → b3 = true → F = 87) ∧ (b1 = false → b2 = false → b3 = false → b4 = true → F = 89) ∧ (b1 = false → b2 = false → b3 = false → b4 = false → F = 90)))
    (C : Hid (∀ w', Below w.heap.size w w' → Calls Tryz.prog F #[.string s] w' fun e w'' => e = .returned (fstV X) ∧ Below w'.heap.size w' w'')) :
    Calls Tryz.prog 71 #[.string s] w fun e w' => e = .returned (fstV X) ∧ Below w.heap.size w w' := by
  have hz : (0 : Int) < (s.size : Int) := by omega
  have B0 : Below w.heap.size w (w.alloc (.cells #[.int .i64 0, .string ⟨#[]⟩, .int .i64 0, .int .i64 0] 106)) := (Below.refl _ _).alloc (Nat.le_refl _) _
  have HRES := hid (show Res (w.alloc (.cells #[.int .i64 0, .string ⟨#[]⟩, .int .i64 0, .int .i64 0] 106)) w.heap.size from heap_alloc_new w _)
  have C1 := hid (C.out _ B0)
  have ew : (w.alloc (.cells #[.int .i64 0, .string ⟨#[]⟩, .int .i64 0, .int .i64 0] 106)).heap.size = w.heap.size + 1 := by simp
  rw [ew] at C1
  have HB0 := hid B0
  clear C B0 ew
  unfold fstV at *
  generalize fk X = xk at *
  generalize fn X = xn at *
  generalize fz X = xz at *
  generalize (⟨(fs X).toArray⟩ : ByteArray) = xs at *
  have hFo := hF.out
  clear hF
  cases b1 with
  | true =>
    obtain rfl := hFo.1 rfl
    clear hFo
    go_enter Tryz.func71, Tryz.ntmps71
    go_wp2_with (go_at_call 83; with_reducible refine C1.out.mono ?_; rintro e w2 ⟨rfl, b2⟩; obtain ⟨z0, z1, z2, z3⟩ := (HRES.out.below b2 (Nat.lt_succ_self _)).cells; have zf := (HRES.out.below b2 (Nat.lt_succ_self _)).frozen; have BB := hid (HB0.out.trans (b2.mono (Nat.le_succ _))); clear b2)
    refine bodyPost_ret (by simp [results, Tryz.results71, go_sem, z0, z1, z2, z3]; try rfl) rfl ?_
    exact ⟨rfl, below_put4 BB.out⟩
  | false =>
    cases b2 with
    | true =>
      obtain rfl := hFo.2.1 rfl rfl
      clear hFo
      go_enter Tryz.func71, Tryz.ntmps71
      go_wp2_with (first
        | (go_at_call 84; with_reducible refine (D1.out _).mono ?_; rintro e w2 ⟨rfl, hw⟩; subst hw)
        | (go_at_call 85; with_reducible refine C1.out.mono ?_; rintro e w2 ⟨rfl, b2⟩; obtain ⟨z0, z1, z2, z3⟩ := (HRES.out.below b2 (Nat.lt_succ_self _)).cells; have zf := (HRES.out.below b2 (Nat.lt_succ_self _)).frozen; have BB := hid (HB0.out.trans (b2.mono (Nat.le_succ _))); clear b2))
      refine bodyPost_ret (by simp [results, Tryz.results71, go_sem, z0, z1, z2, z3]; try rfl) rfl ?_
      exact ⟨rfl, below_put4 BB.out⟩
    | false =>
      cases b3 with
      | true =>
        obtain rfl := hFo.2.2.1 rfl rfl rfl
        clear hFo
        go_enter Tryz.func71, Tryz.ntmps71
        go_wp2_with (first
          | (go_at_call 84; with_reducible refine (D1.out _).mono ?_; rintro e w2 ⟨rfl, hw⟩; subst hw)
          | (go_at_call 86; with_reducible refine (D2.out _).mono ?_; rintro e w2 ⟨rfl, hw⟩; subst hw)
          | (go_at_call 87; with_reducible refine C1.out.mono ?_; rintro e w2 ⟨rfl, b2⟩; obtain ⟨z0, z1, z2, z3⟩ := (HRES.out.below b2 (Nat.lt_succ_self _)).cells; have zf := (HRES.out.below b2 (Nat.lt_succ_self _)).frozen; have BB := hid (HB0.out.trans (b2.mono (Nat.le_succ _))); clear b2))
        refine bodyPost_ret (by simp [results, Tryz.results71, go_sem, z0, z1, z2, z3]; try rfl) rfl ?_
        exact ⟨rfl, below_put4 BB.out⟩
      | false =>
        cases b4 with
        | true =>
          obtain rfl := hFo.2.2.2.1 rfl rfl rfl rfl
          clear hFo
          go_enter Tryz.func71, Tryz.ntmps71
          go_wp2_with (first
            | (go_at_call 84; with_reducible refine (D1.out _).mono ?_; rintro e w2 ⟨rfl, hw⟩; subst hw)
            | (go_at_call 86; with_reducible refine (D2.out _).mono ?_; rintro e w2 ⟨rfl, hw⟩; subst hw)
            | (go_at_call 88; with_reducible refine (D3.out _).mono ?_; rintro e w2 ⟨rfl, hw⟩; subst hw)
            | (go_at_call 89; with_reducible refine C1.out.mono ?_; rintro e w2 ⟨rfl, b2⟩; obtain ⟨z0, z1, z2, z3⟩ := (HRES.out.below b2 (Nat.lt_succ_self _)).cells; have zf := (HRES.out.below b2 (Nat.lt_succ_self _)).frozen; have BB := hid (HB0.out.trans (b2.mono (Nat.le_succ _))); clear b2))
          refine bodyPost_ret (by simp [results, Tryz.results71, go_sem, z0, z1, z2, z3]; try rfl) rfl ?_
          exact ⟨rfl, below_put4 BB.out⟩
        | false =>
          obtain rfl := hFo.2.2.2.2 rfl rfl rfl rfl
          clear hFo
          go_enter Tryz.func71, Tryz.ntmps71
          go_wp2_with (first
            | (go_at_call 84; with_reducible refine (D1.out _).mono ?_; rintro e w2 ⟨rfl, hw⟩; subst hw)
            | (go_at_call 86; with_reducible refine (D2.out _).mono ?_; rintro e w2 ⟨rfl, hw⟩; subst hw)
            | (go_at_call 88; with_reducible refine (D3.out _).mono ?_; rintro e w2 ⟨rfl, hw⟩; subst hw)
            | (go_at_call 90; with_reducible refine C1.out.mono ?_; rintro e w2 ⟨rfl, b2⟩; obtain ⟨z0, z1, z2, z3⟩ := (HRES.out.below b2 (Nat.lt_succ_self _)).cells; have zf := (HRES.out.below b2 (Nat.lt_succ_self _)).frozen; have BB := hid (HB0.out.trans (b2.mono (Nat.le_succ _))); clear b2))
          refine bodyPost_ret (by simp [results, Tryz.results71, go_sem, z0, z1, z2, z3]; try rfl) rfl ?_
          exact ⟨rfl, below_put4 BB.out⟩

theorem xfirst_any (s : ByteArray) (w : World) (h : 0 < s.size) (hs : s.size ≤ 140737488351232) (hw : Rdy w) :
    Calls Tryz.prog 71 #[.string s] w fun e w' => e = .returned (fstV (first1 s.data.toList)) ∧ Below w.heap.size w w' := by
  have D1 := hid (fun w => xdigit_any (s[0].toNat : Int) w)
  have D2 := hid (fun w => xbeginsBlob_any s w h hs)
  have D3 := hid (fun w => xletter_any (s[0].toNat : Int) w)
  rw [first1_text h]
  cases hb1 : ((s[0].toNat : Int) == 39) with
  | true =>
    rw [if_pos rfl]
    exact first_core s _ _ true _ _ _ w h rfl hb1 D1 D2 D3 83 ⟨fun _ => rfl, fun h => by simp at h, fun h => by simp at h, fun h => by simp at h, fun h => by simp at h⟩ (fun w' _ => xquoted_any s w' h hs)
  | false =>
    rw [if_neg (by simp)]
    cases hb2 : dig (s[0].toNat : Int) with
    | true =>
      rw [if_pos rfl]
      rw [hb2] at D1
      exact first_core s _ _ false true _ _ w h rfl hb1 D1 D2 D3 85 ⟨fun h => by simp at h, fun _ _ => rfl, fun _ h => by simp at h, fun _ h => by simp at h, fun _ h => by simp at h⟩ (fun w' hb => xnumber_any s w' h hb2 hs (hw.below hb))
    | false =>
      rw [if_neg (by simp)]
      rw [hb2] at D1
      cases hb3 : isX s.data.toList with
      | true =>
        rw [if_pos rfl]
        rw [hb3] at D2
        have h2 : 2 ≤ s.size := by
          rcases Nat.lt_or_ge 1 s.size with h2 | h2
          · exact h2
          · exfalso
            rw [data_cons h, drop_end s h2] at hb3
            simp [isX] at hb3
        exact first_core s _ _ false false true _ w h rfl hb1 D1 D2 D3 87 ⟨fun h => by simp at h, fun _ h => by simp at h, fun _ _ _ => rfl, fun _ _ h => by simp at h, fun _ _ h => by simp at h⟩ (fun w' _ => xblob_any s w' h2 hs)
      | false =>
        rw [if_neg (by simp)]
        rw [hb3] at D2
        cases hb4 : ltr (s[0].toNat : Int) with
        | true =>
          rw [if_pos rfl]
          rw [hb4] at D3
          exact first_core s _ _ false false false true w h rfl hb1 D1 D2 D3 89 ⟨fun h => by simp at h, fun _ h => by simp at h, fun _ _ h => by simp at h, fun _ _ _ _ => rfl, fun _ _ _ h => by simp at h⟩ (fun w' _ => xwordT_any s w' hs)
        | false =>
          rw [if_neg (by simp)]
          rw [hb4] at D3
          exact first_core s _ _ false false false false w h rfl hb1 D1 D2 D3 90 ⟨fun h => by simp at h, fun _ h => by simp at h, fun _ _ h => by simp at h, fun _ _ _ h => by simp at h, fun _ _ _ _ => rfl⟩ (fun w' _ => xsymbol_any s w' h hs)
end Go.Proofs.YtblkhlhhlalbkaaGreatDoor
namespace Go.Proofs.YtblkhlhhlalbkaaGreatDoor
open Go.RowKit Go.Lib Go.Sort
set_option linter.unusedVariables false
set_option maxRecDepth 20000

/-- A place as an error's place. -/
def lexO : Except Nat (List (Tk × Nat)) → Except (Nat × Int) (List (Tk × Nat))
  | .error i => .error (i, 20)
  | .ok xs => .ok xs
/-- The words of a text, or the place and the number of what is wrong. -/
def lexR (l : List UInt8) : Except (Nat × Int) (List (Tk × Nat)) :=
  if 16384 < l.length then .error (0, 8) else lexO (toksOf l)
/-- What Tokens answers. -/
def tokEnd (R : Except (Nat × Int) (List (Tk × Nat))) (w : World) (e : Ending) (w' : World) : Prop :=
  Below w.heap.size w w' ∧ match R with
    | .error x => ∃ b, e = .returned (.tuple #[.slice none 0 0, .iface 100 (.pointer (some ⟨b, 0, none⟩))]) ∧ w'.cell? ⟨b, 0, none⟩ = some (.int .i64 (x.1 : Int)) ∧ w'.cell? ⟨b, 1, none⟩ = some (.iface 35 (.int .i64 x.2))
    | .ok xs => ∃ v, e = .returned (.tuple #[v, .nilIface]) ∧ OT w' w.heap.size v xs

theorem isR_pre (l : List UInt8) : Lib.hasPrefix l [45, 45] = isR l := by
  match l with
  | [] => rfl
  | [c] => simp [Lib.hasPrefix, isR, List.isPrefixOf]
  | c :: d :: r =>
    have hcd : ∀ x : UInt8, ((45 : UInt8) == x) = (bi x == 45) := fun x => by
      rw [Bool.eq_iff_iff, beq_iff_eq, beq_iff_eq]
      constructor
      · rintro rfl; rfl
      · intro h
        apply UInt8.toNat_inj.1
        show 45 = x.toNat
        unfold bi at h
        omega
    simp only [Lib.hasPrefix, isR, List.isPrefixOf, hcd, Bool.and_true]

set_option maxHeartbeats 1000000 in
theorem xtokens_long (s : ByteArray) (w : World) (h : 16384 < s.size) (hs : s.size ≤ 140737488351232) :
    Calls Tryz.prog 56 #[.string s] w (tokEnd (.error (0, 8)) w) := by
  unfold tokEnd
  have hz : (16384 : Int) < (s.size : Int) := by omega
  go_enter Tryz.func56, Tryz.ntmps56
  go_wp2_with fail
  go_step3
  go_wp2_with fail
  rw [Exit.noGoto_ret]
  go_ret2
  refine ⟨by go_grown, _, rfl, ?_, ?_⟩
  · simp
  · simp

/-- Words read so far, and those that are left. -/
def Lft (l : List UInt8) (R : Except Nat (List (Tk × Nat))) (k : Nat) (acc : List (Tk × Nat)) : Prop := ∀ f, (l.drop k).length < f → addT acc (toks f (l.drop k) k) = R
theorem Lft.start (l : List UInt8) : Lft l (toksOf l) 0 [] := fun f hf => by
  rw [addT_nil]
  exact toks_fuel f _ _ _ hf (by simp)
theorem Lft.stop {l : List UInt8} {R : Except Nat (List (Tk × Nat))} {k : Nat} {acc : List (Tk × Nat)} (h : Lft l R k acc) (hk : l.length ≤ k) : R = .ok acc := by
  have := h 1 (by rw [List.drop_eq_nil_of_le hk]; simp)
  rw [List.drop_eq_nil_of_le hk] at this
  simp [toks, addT] at this
  exact this.symm
theorem Lft.blank {l : List UInt8} {R : Except Nat (List (Tk × Nat))} {k : Nat} {acc : List (Tk × Nat)} {c : UInt8} {r : List UInt8} (h : Lft l R k acc) (hd : l.drop k = c :: r) (hr : r = l.drop (k + 1)) (hb : blk (bi c) = true) : Lft l R (k + 1) acc := fun f hf => by
  have := h (f + 1) (by rw [hd, hr]; simp at hf ⊢; omega)
  rw [hd, toks, if_pos hb] at this
  rw [← hr]
  exact this
theorem Lft.remark {l : List UInt8} {R : Except Nat (List (Tk × Nat))} {k : Nat} {acc : List (Tk × Nat)} {c : UInt8} {r : List UInt8} (h : Lft l R k acc) (hd : l.drop k = c :: r) (hb : blk (bi c) = false) (hR : isR (l.drop k) = true) : Lft l R (k + cntW notLF (l.drop k)) acc := fun f hf => by
  have hp : 0 < cntW notLF (l.drop k) := by rw [hd] at hR ⊢; exact isR_cnt hR
  have := h (f + (l.drop k).length + 1) (by omega)
  rw [hd, toks, if_neg (by simp [hb]), if_pos (by rw [← hd]; exact hR), ← hd, List.drop_drop] at this
  rw [toks_fuel f (f + (l.drop k).length) _ _ hf (by omega)]
  exact this
theorem Lft.word {l : List UInt8} {R : Except Nat (List (Tk × Nat))} {k m : Nat} {t : Tk} {acc : List (Tk × Nat)} {c : UInt8} {r : List UInt8} (h : Lft l R k acc) (hd : l.drop k = c :: r) (hb : blk (bi c) = false) (hR : isR (l.drop k) = false) (h1 : first1 (l.drop k) = some (t, m)) : Lft l R (k + m) (acc ++ [(t, k)]) := fun f hf => by
  have := h (f + (l.drop k).length + 1) (by omega)
  rw [hd, toks, if_neg (by simp [hb]), if_neg (by rw [← hd]; simp [hR])] at this
  rw [← hd, h1] at this
  simp only [addT_cons, List.drop_drop] at this
  rw [toks_fuel f (f + (l.drop k).length) _ _ hf (by omega)]
  exact this
theorem Lft.bad {l : List UInt8} {R : Except Nat (List (Tk × Nat))} {k : Nat} {acc : List (Tk × Nat)} {c : UInt8} {r : List UInt8} (h : Lft l R k acc) (hd : l.drop k = c :: r) (hb : blk (bi c) = false) (hR : isR (l.drop k) = false) (h1 : first1 (l.drop k) = none) : R = .error k := by
  have := h ((l.drop k).length + 1) (by omega)
  rw [hd, toks, if_neg (by simp [hb]), if_neg (by rw [← hd]; simp [hR])] at this
  rw [← hd, h1] at this
  exact this.symm
theorem ext_to_end (s : ByteArray) (k : Nat) : (s.extract k s.size).data.toList = s.data.toList.drop k := by
  rw [ext_data]
  exact List.take_of_length_le (by simp)

set_option maxHeartbeats 8000000 in
theorem xtokens_core (s : ByteArray) (R : Except Nat (List (Tk × Nat))) (w : World) (hs : s.size ≤ 16384) (hw : Rdy w) (HR : Hid (toksOf s.data.toList = R)) :
    Calls Tryz.prog 56 #[.string s] w (tokEnd (lexO R) w) := by
  have hz : ¬ (16384 : Int) < (s.size : Int) := by omega
  have HW := hid hw
  clear hw
  go_enter Tryz.func56, Tryz.ntmps56
  go_wp2_with fail
  go_step3
  go_wp2_with fail
  go_step3
  go_wp2_with fail
  go_loopg [4, 5] s.size (fun g v i wr => ∃ (k : Nat) (acc : List (Tk × Nat)), i = .int .i64 k ∧ k ≤ s.size ∧ s.size ≤ k + g ∧ acc.length ≤ k ∧ Hid (OT wr w.heap.size v acc) ∧ Hid (Lft s.data.toList R k acc) ∧ Hid (Below w.heap.size w wr))
  case atStart => exact ⟨0, [], rfl, Nat.zero_le _, by omega, Nat.le_refl _, ot_nil _ _, by rw [← HR.out]; exact Lft.start _, Below.refl _ _⟩
  case round =>
    obtain ⟨k, acc, rfl, hk, hkg, hacc, hO, hL, bel⟩ := hrel
    by_cases hlt : k < s.size
    · obtain ⟨g, rfl⟩ : ∃ g, gk = g + 1 := ⟨gk - 1, by omega⟩
      have HD := hid (drop_at s hlt)
      have hkz : (k : Int) < s.size := by omega
      have C1 := hid (fun w => xblank_any (s[k].toNat : Int) w)
      cases hb : blk (s[k].toNat : Int) with
      | true =>
        rw [hb] at C1
        have HN := hid (hL.out.blank HD.out rfl hb)
        clear hL HD hb
        go_wp2_with (go_at_call 69; with_reducible refine (C1.out _).mono ?_; rintro e w2 ⟨rfl, hw⟩; obtain rfl := hw.symm)
        go_roundg g
        case measure => omega
        case rel => exact ⟨k + 1, acc, by go_num, by omega, by omega, by omega, hO, HN, bel⟩
      | false =>
        rw [hb] at C1
        have C2 := hid (fun w => Tryz.strings_HasPrefix (s.extract k s.size) ⟨#[45, 45]⟩ w)
        rw [ext_to_end, show ((⟨#[45, 45]⟩ : ByteArray).data.toList) = [45, 45] from rfl, isR_pre] at C2
        cases hr : isR (s.data.toList.drop k) with
        | true =>
          rw [hr] at C2
          have HN := hid (hL.out.remark HD.out hb hr)
          have hp : 0 < cntW notLF (s.data.toList.drop k) := by
            have hr' := hr
            rw [HD.out] at hr' ⊢
            exact isR_cnt hr'
          obtain ⟨E, HE⟩ : ∃ E, Hid (k + cntW notLF (s.data.toList.drop k) = E) := ⟨_, rfl⟩
          have hkE : k < E := by rw [← HE.out]; omega
          rw [HE.out] at HN
          clear hL HD hb hr hp
          go_wp2_with (first
            | (go_at_call 69; with_reducible refine (C1.out _).mono ?_; rintro e w2 ⟨rfl, hw⟩; obtain rfl := hw.symm)
            | (go_at_call 70; with_reducible refine (C2.out _).mono ?_; rintro e w2 ⟨rfl, hw⟩; obtain rfl := hw.symm))
          go_loopg [5] s.size (fun g2 i wy => ∃ j : Nat, i = .int .i64 j ∧ j ≤ s.size ∧ s.size ≤ j + g2 ∧ Hid (j + cntW notLF (s.data.toList.drop j) = E) ∧ wy = wr)
          case atStart => exact ⟨k, rfl, hk, by omega, HE, rfl⟩
          case round =>
            obtain ⟨j, rfl, hj, hjg, hJ, rfl⟩ := hrel
            by_cases hjl : j < s.size
            · obtain ⟨g2, rfl⟩ : ∃ g2, gk = g2 + 1 := ⟨gk - 1, by omega⟩
              have HDj := hid (drop_at s hjl)
              have hjz : (j : Int) < s.size := by omega
              cases hc : (((s[j].toNat : Nat) : Int) == 10) with
              | true =>
                have hjE : E = j := by
                  have := hJ.out
                  rw [HDj.out, cntW_miss (show notLF s[j] = false by unfold notLF bi; rw [hc]; rfl)] at this
                  omega
                rw [hjE] at HN hkE
                clear hJ HDj HE hjE
                go_wp2_with fail
                go_roundg g
                case measure => omega
                case rel => exact ⟨j, acc, rfl, hj, by omega, by omega, hO, HN, bel⟩
              | false =>
                have HJ2 : Hid (j + 1 + cntW notLF (s.data.toList.drop (j + 1)) = E) := by
                  have := hJ.out
                  rw [HDj.out, cntW_hit (show notLF s[j] = true by unfold notLF bi; rw [hc]; rfl)] at this
                  show _ = _
                  omega
                clear hJ HDj
                go_wp2_with fail
                go_roundg g2
                case measure => omega
                case rel => exact ⟨j + 1, by go_num, by omega, by omega, HJ2, rfl⟩
            · have hjE : E = j := by
                have := hJ.out
                rw [drop_end s (by omega)] at this
                simp [cntW] at this
                omega
              have hjz : ¬ (j : Int) < s.size := by omega
              rw [hjE] at HN
              have HF : Hid (R = .ok acc) := HN.out.stop (by simp; omega)
              clear hJ HE
              go_wp2_with fail
              try rw [Exit.noGoto_ret]
              go_ret2
              refine ⟨bel.out, ?_⟩
              rw [HF.out]
              exact ⟨_, rfl, hO.out⟩
        | false =>
          rw [hr] at C2
          have hsx : (s.extract k s.size).size = s.size - k := by
            have : (s.extract k s.size).data.toList.length = (s.extract k s.size).size := by simp
            rw [← this, ext_to_end]
            simp
          have C3 := hid (xfirst_any (s.extract k s.size) wr (by omega) (by omega) (HW.out.below bel.out))
          rw [ext_to_end] at C3
          unfold fstV at C3
          cases hf : first1 (s.data.toList.drop k) with
          | none =>
            rw [hf] at C3
            have HN := hid (hL.out.bad HD.out hb hr hf)
            clear hL HD hb hr hf
            go_wp2_with (first
              | (go_at_call 69; with_reducible refine (C1.out _).mono ?_; rintro e w2 ⟨rfl, hw⟩; obtain rfl := hw.symm)
              | (go_at_call 70; with_reducible refine (C2.out _).mono ?_; rintro e w2 ⟨rfl, hw⟩; obtain rfl := hw.symm)
              | (go_at_call 71; with_reducible refine C3.out.mono ?_; rintro e w3 ⟨rfl, b3⟩; have BB := hid (bel.out.trans (b3.mono bel.out.size)); clear b3))
            rw [Exit.noGoto_ret]
            go_ret2
            refine ⟨(BB.out.alloc BB.out.size _).alloc (by have := BB.out.size; simp; omega) _, ?_⟩
            rw [HN.out]
            exact ⟨w3.heap.size + 1, rfl, by simp, by simp⟩
          | some x =>
            obtain ⟨t, m⟩ := x
            rw [hf] at C3
            have HN := hid (hL.out.word HD.out hb hr hf)
            have hm := first1_ge hf
            have hm2 : m ≤ s.size - k := by have := hm.2; simp at this; omega
            have hm0 := hm.1
            clear hL HD hb hr hf hm
            simp only [fk, fs, fn, fz] at C3
            have hmz : ((m : Int) == 0) = false := beq_eq_false_iff_ne.2 (by omega)
            go_wp2_with (first
              | (go_at_call 69; with_reducible refine (C1.out _).mono ?_; rintro e w2 ⟨rfl, hw⟩; obtain rfl := hw.symm)
              | (go_at_call 70; with_reducible refine (C2.out _).mono ?_; rintro e w2 ⟨rfl, hw⟩; obtain rfl := hw.symm)
              | (go_at_call 71; with_reducible refine C3.out.mono ?_; rintro e w3 ⟨rfl, b3⟩; have BB := hid (bel.out.trans (b3.mono bel.out.size))
                 have O3 := hO.out.below b3
                 have O5 := hid (O3.below ((Below.refl w3.heap.size w3).alloc (Nat.le_refl _) (.cells #[.int .i64 t.k, .string ⟨t.s.toArray⟩, .int .i64 (k : Int), .int .i64 t.n] 106)))
                 have B5 := hid (BB.out.alloc BB.out.size (.cells #[.int .i64 t.k, .string ⟨t.s.toArray⟩, .int .i64 (k : Int), .int .i64 t.n] 106))
                 clear b3 O3)
              | (at_builtin; go_loud (refine otApp _ w.heap.size _ _ _ _ acc (t, k) rfl rfl rfl rfl (by simp) O5.out (by omega) B5.out.size ?_); intro v6 w6 O6 b6; have HO6 := hid O6; have B6 := hid (B5.out.trans b6); clear O6 b6))
            go_roundg g
            case measure => omega
            case rel => exact ⟨k + m, acc ++ [(t, k)], by go_num, by omega, by omega, by simp; omega, HO6, HN, B6⟩
    · have HF : Hid (R = .ok acc) := hL.out.stop (by simp; omega)
      have hkz : ¬ (k : Int) < s.size := by omega
      clear hL
      go_wp2_with fail
      try rw [Exit.noGoto_ret]
      go_ret2
      refine ⟨bel.out, ?_⟩
      rw [HF.out]
      exact ⟨_, rfl, hO.out⟩

theorem xtokens_any (s : ByteArray) (w : World) (hs : s.size ≤ 140737488351232) (hw : Rdy w) :
    Calls Tryz.prog 56 #[.string s] w (tokEnd (lexR s.data.toList) w) := by
  have hl : s.data.toList.length = s.size := by simp
  unfold lexR
  rw [hl]
  by_cases h : 16384 < s.size
  · rw [if_pos h]
    exact xtokens_long s w h hs
  · rw [if_neg h]
    exact xtokens_core s _ w (by omega) hw rfl
end Go.Proofs.YtblkhlhhlalbkaaGreatDoor
