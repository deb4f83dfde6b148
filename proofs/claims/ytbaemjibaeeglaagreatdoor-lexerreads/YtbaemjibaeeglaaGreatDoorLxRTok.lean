/- What the document's Tokens answers. Condition: the text lies within the reach. -/
import Derived.Test.YtbaemjibaeeglaaGreatDoorLxTok
import Derived.Test.YtbaemjibaeeglaaGreatDoorLxROne
namespace Go.Proofs.YtbaemjibaeeglaaGreatDoor
open Go.RowKit Go.Lib Go.Sort
set_option linter.unusedVariables false
set_option maxRecDepth 20000

/-- What the document's Tokens answers. -/
def rtokEnd (R : Except (Nat × Int) (List (Tk × Nat))) (w : World) (e : Ending) (w' : World) : Prop :=
  Below w.heap.size w w' ∧ match R with
    | .error x => e = .returned (.tuple #[.slice none 0 0, .agg #[.int .i64 (x.1 : Int), .int .i64 x.2]])
    | .ok xs => ∃ v, e = .returned (.tuple #[v, .agg #[.int .i64 0, .int .i64 0]]) ∧ OT w' w.heap.size v xs

theorem ot_own {w : World} {base k : Nat} {v : Value} {l : List (Tk × Nat)} (h : OT w base v l) (hk : v.ownBlock = some k) : base ≤ k := by
  obtain ⟨h1, h2⟩ := h
  rcases h2 with ⟨rfl, h0⟩ | ⟨g, cap, cur, rfl, hg, r⟩
  · simp [Value.ownBlock] at hk
  · simp [Value.ownBlock] at hk
    omega
/-- The fault's block, as it is made. -/
def RF (w : World) (b : Nat) : Prop := w.heap[b]? = some (.cells #[.int .i64 0, .int .i64 0] 29 (0, 0))
theorem RF.cells {w : World} {b : Nat} (h : RF w b) : w.cell? ⟨b, 0, none⟩ = some (.int .i64 0) ∧ w.cell? ⟨b, 1, none⟩ = some (.int .i64 0) := by
  refine ⟨?_, ?_⟩ <;> (rw [Lib.cell_of_heap h]; rfl)
theorem RF.frozen {w : World} {b : Nat} (h : RF w b) (j : Nat) : w.frozen? ⟨b, j, none⟩ = false := Lib.frozen_of_heap h j
theorem RF.below {w w' : World} {b B : Nat} (h : RF w b) (hb : Below B w w') (hB : b < B) : RF w' b := by
  unfold RF
  rw [hb.block b hB]
  exact h
theorem below_put2 {w w1 : World} {b : Nat} {x0 x1 : Value} (h : Below b w w1) : Below b w ((w1.setCell ⟨b, 0, none⟩ x0).setCell ⟨b, 1, none⟩ x1) :=
  (h.setCell (p := ⟨b, 0, none⟩) (Nat.le_refl _) _).setCell (p := ⟨b, 1, none⟩) (Nat.le_refl _) _

set_option maxHeartbeats 1000000 in
theorem rtokens_long (s : ByteArray) (w : World) (h : 16384 < s.size) (hs : s.size ≤ 140737488351232) :
    Calls Tryz.prog 8 #[.string s] w (rtokEnd (.error (0, 8)) w) := by
  unfold rtokEnd
  have hz : (16384 : Int) < (s.size : Int) := by omega
  go_enter Tryz.func8, Tryz.ntmps8
  go_wp2_with fail
  refine bodyPost_ret (by simp [results, Tryz.results8, go_sem]; try rfl) rfl ?_
  exact ⟨by go_grown, rfl⟩

theorem blk_4 (c : Int) : blk c = true → (c == 32) = true ∨ ((c == 32) = false ∧ (c == 9) = true) ∨ ((c == 32) = false ∧ (c == 9) = false ∧ (c == 10) = true) ∨ ((c == 32) = false ∧ (c == 9) = false ∧ (c == 10) = false ∧ (c == 13) = true) := by
  unfold blk
  cases (c == 32) <;> cases (c == 9) <;> cases (c == 10) <;> cases (c == 13) <;> simp
theorem blk_0 (c : Int) : blk c = false → (c == 32) = false ∧ (c == 9) = false ∧ (c == 10) = false ∧ (c == 13) = false := by
  unfold blk
  cases (c == 32) <;> cases (c == 9) <;> cases (c == 10) <;> cases (c == 13) <;> simp
theorem isR_yes {s : ByteArray} {k : Nat} (hk : k < s.size) (h : isR (s.data.toList.drop k) = true) : (((s[k].toNat : Nat) : Int) == 45) = true ∧ ∃ h : k + 1 < s.size, (((s[k + 1].toNat : Nat) : Int) == 45) = true := by
  by_cases h2 : k + 1 < s.size
  · rw [drop_at s hk, drop_at s h2] at h
    simp only [isR, Bool.and_eq_true] at h
    exact ⟨h.1, h2, h.2⟩
  · rw [drop_at s hk, drop_end s (by omega)] at h
    simp [isR] at h
theorem isR_no {s : ByteArray} {k : Nat} (hk : k < s.size) (h : isR (s.data.toList.drop k) = false) : (((s[k].toNat : Nat) : Int) == 45) = false ∨ ((((s[k].toNat : Nat) : Int) == 45) = true ∧ ¬ (k : Int) + 1 < s.size) ∨ ((((s[k].toNat : Nat) : Int) == 45) = true ∧ ∃ h : k + 1 < s.size, (((s[k + 1].toNat : Nat) : Int) == 45) = false) := by
  cases e : (((s[k].toNat : Nat) : Int) == 45) with
  | false => exact Or.inl rfl
  | true =>
    by_cases h2 : k + 1 < s.size
    · rw [drop_at s hk, drop_at s h2] at h
      have h' : ((((s[k].toNat : Nat) : Int) == 45) && (((s[k + 1].toNat : Nat) : Int) == 45)) = false := h
      rw [e, Bool.true_and] at h'
      exact Or.inr (Or.inr ⟨rfl, h2, h'⟩)
    · exact Or.inr (Or.inl ⟨rfl, by omega⟩)

set_option maxHeartbeats 16000000 in
theorem rtokens_core (s : ByteArray) (R : Except Nat (List (Tk × Nat))) (w : World) (hs : s.size ≤ 16384) (HR : Hid (toksOf s.data.toList = R)) :
    Calls Tryz.prog 8 #[.string s] w (rtokEnd (lexO R) w) := by
  have hz : ¬ (16384 : Int) < (s.size : Int) := by omega
  go_enter Tryz.func8, Tryz.ntmps8
  go_wp2_with fail
  go_loopw [4, 5] (fun v i wr => ∃ (k : Nat) (acc : List (Tk × Nat)), i = .int .i64 k ∧ k ≤ s.size ∧ acc.length ≤ k ∧ Hid (OT wr (w.heap.size + 1) v acc) ∧ Hid (Lft s.data.toList R k acc) ∧ Hid (Below w.heap.size w wr) ∧ Hid (RF wr w.heap.size) ∧ w.heap.size < wr.heap.size) (fun _ i _ => s.size - (RowKit.intOf i).toNat)
  case atStart => exact ⟨0, [], rfl, Nat.zero_le _, Nat.le_refl _, ot_nil _ _, by rw [← HR.out]; exact Lft.start _, (Below.refl _ _).alloc (Nat.le_refl _) _, heap_alloc_new w _, by simp⟩
  case round =>
    obtain ⟨k, acc, rfl, hk, hacc, hO, hL, bel, hF, hsz⟩ := hrel
    by_cases hlt : k < s.size
    · have HD := hid (drop_at s hlt)
      have hkz : (k : Int) < s.size := by omega
      cases hb : blk (s[k].toNat : Int) with
      | true =>
        have HN := hid (hL.out.blank HD.out rfl hb)
        have H4 := hid (blk_4 _ hb)
        clear hL HD hb
        rcases H4.out with e1 | ⟨e1, e2⟩ | ⟨e1, e2, e3⟩ | ⟨e1, e2, e3, e4⟩
        all_goals clear H4
        all_goals go_wp2_with fail
        all_goals go_roundw
        all_goals first
          | exact ⟨k + 1, acc, by go_num, by omega, by omega, hO, HN, bel, hF, hsz⟩
          | (simp [RowKit.intOf]; omega)
      | false =>
        obtain ⟨e1, e2, e3, e4⟩ := blk_0 _ hb
        cases hr : isR (s.data.toList.drop k) with
        | true =>
          have HN := hid (hL.out.remark HD.out hb hr)
          obtain ⟨r1, r2, r3⟩ := isR_yes hlt hr
          have r2' : (k : Int) + 1 < s.size := by omega
          have hp : 0 < cntW notLF (s.data.toList.drop k) := by
            have hr' := hr
            rw [HD.out] at hr' ⊢
            exact isR_cnt hr'
          obtain ⟨E, HE⟩ : ∃ E, Hid (k + cntW notLF (s.data.toList.drop k) = E) := ⟨_, rfl⟩
          have hkE : k < E := by rw [← HE.out]; omega
          rw [HE.out] at HN
          clear hL HD hb hr hp
          go_wp2_with fail
          go_loopw [5] (fun i wy => ∃ j : Nat, i = .int .i64 j ∧ j ≤ s.size ∧ Hid (j + cntW notLF (s.data.toList.drop j) = E) ∧ wy = wr) (fun i _ => s.size - (RowKit.intOf i).toNat)
          case atStart => exact ⟨k, rfl, hk, HE, rfl⟩
          case round =>
            obtain ⟨j, rfl, hj, hJ, rfl⟩ := hrel
            by_cases hjl : j < s.size
            · have HDj := hid (drop_at s hjl)
              have hjz : (j : Int) < s.size := by omega
              cases hc : (((s[j].toNat : Nat) : Int) == 10) with
              | true =>
                have hjE : E = j := by
                  have := hJ.out
                  rw [HDj.out, cntW_miss (show notLF s[j] = false by unfold notLF bi; rw [hc]; rfl)] at this
                  omega
                rw [hjE] at HN hkE
                clear hJ HDj HE hjE
                go_wp2_with fail
                go_roundw
                case rel => exact ⟨j, acc, rfl, hj, by omega, hO, HN, bel, hF, hsz⟩
                case measure => simp [RowKit.intOf]; omega
              | false =>
                have HJ2 : Hid (j + 1 + cntW notLF (s.data.toList.drop (j + 1)) = E) := by
                  have := hJ.out
                  rw [HDj.out, cntW_hit (show notLF s[j] = true by unfold notLF bi; rw [hc]; rfl)] at this
                  show _ = _
                  omega
                clear hJ HDj
                go_wp2_with fail
                go_roundw
                case rel => exact ⟨j + 1, by go_num, by omega, HJ2, trivial⟩
                case measure => simp [RowKit.intOf]; omega
            · have hjE : E = j := by
                have := hJ.out
                rw [drop_end s (by omega)] at this
                simp [cntW] at this
                omega
              have hjz : ¬ (j : Int) < s.size := by omega
              rw [hjE] at HN hkE
              clear hJ HE hjE
              go_wp2_with fail
              go_roundw
              case rel => exact ⟨j, acc, rfl, hj, by omega, hO, HN, bel, hF, hsz⟩
              case measure => simp [RowKit.intOf]; omega
        | false =>
          have H3 := hid (isR_no hlt hr)
          have C3 := hid (fun w => rone_any s k w hlt (by omega))
          unfold oneEnd at C3
          cases hf : first1 (s.data.toList.drop k) with
          | none =>
            rw [hf] at C3
            have HN := hid (hL.out.bad HD.out hb hr hf)
            clear hL HD hb hr hf
            rcases H3.out with r1 | ⟨r1, r2⟩ | ⟨r1, r2, r3⟩
            · clear H3
              go_wp2_with (go_at_call 17; with_reducible refine (C3.out _).mono ?_; rintro e w3 ⟨K, X, I, E, rfl, hE, b3⟩; have s3 := Nat.lt_of_lt_of_le hsz b3.size; have F5 := (hF.out.below b3 hsz).below ((Below.refl w3.heap.size w3).alloc (Nat.le_refl _) (.cells #[.int .i64 K, .string X, .int .i64 (k : Int), .int .i64 I] 38)) s3; obtain ⟨z0, z1⟩ := F5.cells; have zf := F5.frozen; have BB0 := bel.out.trans (b3.mono bel.out.size); have BB := hid (BB0.alloc BB0.size (.cells #[.int .i64 K, .string X, .int .i64 (k : Int), .int .i64 I] 38)); clear b3 hE F5 BB0 s3)
              all_goals refine bodyPost_ret (by simp [results, Tryz.results8, go_sem, z0, z1]; try rfl) rfl ?_
              all_goals refine ⟨below_put2 BB.out, ?_⟩
              all_goals rw [HN.out]
              all_goals rfl
            · clear H3
              go_wp2_with (go_at_call 17; with_reducible refine (C3.out _).mono ?_; rintro e w3 ⟨K, X, I, E, rfl, hE, b3⟩; have s3 := Nat.lt_of_lt_of_le hsz b3.size; have F5 := (hF.out.below b3 hsz).below ((Below.refl w3.heap.size w3).alloc (Nat.le_refl _) (.cells #[.int .i64 K, .string X, .int .i64 (k : Int), .int .i64 I] 38)) s3; obtain ⟨z0, z1⟩ := F5.cells; have zf := F5.frozen; have BB0 := bel.out.trans (b3.mono bel.out.size); have BB := hid (BB0.alloc BB0.size (.cells #[.int .i64 K, .string X, .int .i64 (k : Int), .int .i64 I] 38)); clear b3 hE F5 BB0 s3)
              all_goals refine bodyPost_ret (by simp [results, Tryz.results8, go_sem, z0, z1]; try rfl) rfl ?_
              all_goals refine ⟨below_put2 BB.out, ?_⟩
              all_goals rw [HN.out]
              all_goals rfl
            · clear H3
              have r2' : (k : Int) + 1 < s.size := by omega
              go_wp2_with (go_at_call 17; with_reducible refine (C3.out _).mono ?_; rintro e w3 ⟨K, X, I, E, rfl, hE, b3⟩; have s3 := Nat.lt_of_lt_of_le hsz b3.size; have F5 := (hF.out.below b3 hsz).below ((Below.refl w3.heap.size w3).alloc (Nat.le_refl _) (.cells #[.int .i64 K, .string X, .int .i64 (k : Int), .int .i64 I] 38)) s3; obtain ⟨z0, z1⟩ := F5.cells; have zf := F5.frozen; have BB0 := bel.out.trans (b3.mono bel.out.size); have BB := hid (BB0.alloc BB0.size (.cells #[.int .i64 K, .string X, .int .i64 (k : Int), .int .i64 I] 38)); clear b3 hE F5 BB0 s3)
              all_goals refine bodyPost_ret (by simp [results, Tryz.results8, go_sem, z0, z1]; try rfl) rfl ?_
              all_goals refine ⟨below_put2 BB.out, ?_⟩
              all_goals rw [HN.out]
              all_goals rfl
          | some x =>
            obtain ⟨t, m⟩ := x
            rw [hf] at C3
            have HN := hid (hL.out.word HD.out hb hr hf)
            have hm := first1_ge hf
            have hm2 : m ≤ s.size - k := by have := hm.2; simp at this; omega
            have hm0 := hm.1
            clear hL HD hb hr hf hm
            rcases H3.out with r1 | ⟨r1, r2⟩ | ⟨r1, r2, r3⟩
            · clear H3
              go_wp2_with (first
                | (go_at_call 17; with_reducible refine (C3.out _).mono ?_; rintro e w3 ⟨K, X, I, E, rfl, hE, b3⟩; obtain ⟨rfl, rfl, rfl, rfl⟩ := hE _ rfl
                   have s3 := Nat.lt_of_lt_of_le hsz b3.size
                   have BB := bel.out.trans (b3.mono bel.out.size)
                   have F5 := hid ((hF.out.below b3 hsz).below ((Below.refl w3.heap.size w3).alloc (Nat.le_refl _) (.cells #[.int .i64 t.k, .string ⟨t.s.toArray⟩, .int .i64 (k : Int), .int .i64 t.n] 38)) s3)
                   have O5 := hid ((hO.out.below b3).below ((Below.refl w3.heap.size w3).alloc (Nat.le_refl _) (.cells #[.int .i64 t.k, .string ⟨t.s.toArray⟩, .int .i64 (k : Int), .int .i64 t.n] 38)))
                   have B5 := hid (BB.alloc BB.size (.cells #[.int .i64 t.k, .string ⟨t.s.toArray⟩, .int .i64 (k : Int), .int .i64 t.n] 38))
                   have S5 := hid (show w.heap.size + 1 ≤ (w3.alloc (.cells #[.int .i64 t.k, .string ⟨t.s.toArray⟩, .int .i64 (k : Int), .int .i64 t.n] 38)).heap.size by simp; omega)
                   clear b3 hE s3 BB)
                | (at_builtin; refine otApp _ (w.heap.size + 1) _ _ _ _ acc (t, k) rfl rfl rfl rfl (by simp) O5.out (by omega) S5.out ?_; intro v6 w6 O6 b6; have HO6 := hid O6; have F6 := hid (F5.out.below b6 (Nat.lt_succ_self _)); have B6 := hid (B5.out.trans (b6.mono (Nat.le_succ _))); have S6 := Nat.lt_of_lt_of_le (Nat.lt_of_succ_le S5.out) b6.size; clear O6 b6))
              all_goals go_roundw
              all_goals first
                | exact ⟨k + m, acc ++ [(t, k)], by go_num, by omega, by simp; omega, HO6, HN, B6, F6, S6⟩
                | (simp [RowKit.intOf]; omega)
            · clear H3
              go_wp2_with (first
                | (go_at_call 17; with_reducible refine (C3.out _).mono ?_; rintro e w3 ⟨K, X, I, E, rfl, hE, b3⟩; obtain ⟨rfl, rfl, rfl, rfl⟩ := hE _ rfl
                   have s3 := Nat.lt_of_lt_of_le hsz b3.size
                   have BB := bel.out.trans (b3.mono bel.out.size)
                   have F5 := hid ((hF.out.below b3 hsz).below ((Below.refl w3.heap.size w3).alloc (Nat.le_refl _) (.cells #[.int .i64 t.k, .string ⟨t.s.toArray⟩, .int .i64 (k : Int), .int .i64 t.n] 38)) s3)
                   have O5 := hid ((hO.out.below b3).below ((Below.refl w3.heap.size w3).alloc (Nat.le_refl _) (.cells #[.int .i64 t.k, .string ⟨t.s.toArray⟩, .int .i64 (k : Int), .int .i64 t.n] 38)))
                   have B5 := hid (BB.alloc BB.size (.cells #[.int .i64 t.k, .string ⟨t.s.toArray⟩, .int .i64 (k : Int), .int .i64 t.n] 38))
                   have S5 := hid (show w.heap.size + 1 ≤ (w3.alloc (.cells #[.int .i64 t.k, .string ⟨t.s.toArray⟩, .int .i64 (k : Int), .int .i64 t.n] 38)).heap.size by simp; omega)
                   clear b3 hE s3 BB)
                | (at_builtin; refine otApp _ (w.heap.size + 1) _ _ _ _ acc (t, k) rfl rfl rfl rfl (by simp) O5.out (by omega) S5.out ?_; intro v6 w6 O6 b6; have HO6 := hid O6; have F6 := hid (F5.out.below b6 (Nat.lt_succ_self _)); have B6 := hid (B5.out.trans (b6.mono (Nat.le_succ _))); have S6 := Nat.lt_of_lt_of_le (Nat.lt_of_succ_le S5.out) b6.size; clear O6 b6))
              all_goals go_roundw
              all_goals first
                | exact ⟨k + m, acc ++ [(t, k)], by go_num, by omega, by simp; omega, HO6, HN, B6, F6, S6⟩
                | (simp [RowKit.intOf]; omega)
            · clear H3
              have r2' : (k : Int) + 1 < s.size := by omega
              go_wp2_with (first
                | (go_at_call 17; with_reducible refine (C3.out _).mono ?_; rintro e w3 ⟨K, X, I, E, rfl, hE, b3⟩; obtain ⟨rfl, rfl, rfl, rfl⟩ := hE _ rfl
                   have s3 := Nat.lt_of_lt_of_le hsz b3.size
                   have BB := bel.out.trans (b3.mono bel.out.size)
                   have F5 := hid ((hF.out.below b3 hsz).below ((Below.refl w3.heap.size w3).alloc (Nat.le_refl _) (.cells #[.int .i64 t.k, .string ⟨t.s.toArray⟩, .int .i64 (k : Int), .int .i64 t.n] 38)) s3)
                   have O5 := hid ((hO.out.below b3).below ((Below.refl w3.heap.size w3).alloc (Nat.le_refl _) (.cells #[.int .i64 t.k, .string ⟨t.s.toArray⟩, .int .i64 (k : Int), .int .i64 t.n] 38)))
                   have B5 := hid (BB.alloc BB.size (.cells #[.int .i64 t.k, .string ⟨t.s.toArray⟩, .int .i64 (k : Int), .int .i64 t.n] 38))
                   have S5 := hid (show w.heap.size + 1 ≤ (w3.alloc (.cells #[.int .i64 t.k, .string ⟨t.s.toArray⟩, .int .i64 (k : Int), .int .i64 t.n] 38)).heap.size by simp; omega)
                   clear b3 hE s3 BB)
                | (at_builtin; refine otApp _ (w.heap.size + 1) _ _ _ _ acc (t, k) rfl rfl rfl rfl (by simp) O5.out (by omega) S5.out ?_; intro v6 w6 O6 b6; have HO6 := hid O6; have F6 := hid (F5.out.below b6 (Nat.lt_succ_self _)); have B6 := hid (B5.out.trans (b6.mono (Nat.le_succ _))); have S6 := Nat.lt_of_lt_of_le (Nat.lt_of_succ_le S5.out) b6.size; clear O6 b6))
              all_goals go_roundw
              all_goals first
                | exact ⟨k + m, acc ++ [(t, k)], by go_num, by omega, by simp; omega, HO6, HN, B6, F6, S6⟩
                | (simp [RowKit.intOf]; omega)
    · have HFN : Hid (R = .ok acc) := hL.out.stop (by simp; omega)
      have hkz : ¬ (k : Int) < s.size := by omega
      obtain ⟨z0, z1⟩ := hF.out.cells
      have zf := hF.out.frozen
      clear hL
      go_wp2_with fail
      refine bodyPost_ret (by simp [results, Tryz.results8, go_sem, z0, z1]; try rfl) rfl ?_
      refine ⟨below_put2 bel.out, ?_⟩
      rw [HFN.out]
      exact ⟨_, rfl, ot_mono ((hO.out.put ⟨w.heap.size, 0, none⟩ (.int .i64 0) (fun k hk => Nat.ne_of_gt (ot_own hO.out hk))).put ⟨w.heap.size, 1, none⟩ (.int .i64 0) (fun k hk => Nat.ne_of_gt (ot_own hO.out hk))) (Nat.le_succ _)⟩

theorem rtokens_any (s : ByteArray) (w : World) (hs : s.size ≤ 140737488351232) :
    Calls Tryz.prog 8 #[.string s] w (rtokEnd (lexR s.data.toList) w) := by
  have hl : s.data.toList.length = s.size := by simp
  unfold lexR
  rw [hl]
  by_cases h : 16384 < s.size
  · rw [if_pos h]
    exact rtokens_long s w h hs
  · rw [if_neg h]
    exact rtokens_core s _ w (by omega) rfl
end Go.Proofs.YtbaemjibaeeglaaGreatDoor
