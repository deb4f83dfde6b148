/- The law LexerAgain returns true and writes nothing that was there. Conditions: the text lies within the reach; the library's variables hold what their text lays. -/
import Derived.Test.YtbaemjibaeeglaaGreatDoorLCatWalk
import Derived.Test.YtbaemjibaeeglaaGreatDoorLxAgainP
import Derived.Test.YtbaemjibaeeglaaGreatDoorLwPrint
import Derived.Lib.ItoaLen
namespace Go.Proofs.YtbaemjibaeeglaaGreatDoor
open Go.RowKit Go.Lib Go.Sort
set_option linter.unusedVariables false
set_option maxRecDepth 20000

theorem first1_slen {l : List UInt8} {t : Tk} {k : Nat} (h : first1 l = some (t, k)) : t.s.length ≤ l.length := by
  cases l with
  | nil => simp [first1] at h
  | cons c r =>
    rw [first1_cons] at h
    split at h
    · rw [Option.map_eq_some_iff] at h
      obtain ⟨x, hx, e⟩ := h
      cases e
      have := quo_ge _ _ _ _ hx
      simp at this ⊢
      omega
    · split at h
      · rw [Option.map_eq_some_iff] at h
        obtain ⟨v, hv, e⟩ := h
        cases e
        simp
      · split at h
        · rw [Option.map_eq_some_iff] at h
          obtain ⟨x, hx, e⟩ := h
          cases e
          have := blo_ge _ _ _ _ hx
          have hl : ((c :: r).drop 2).length ≤ (c :: r).length := by rw [List.length_drop]; omega
          rw [List.length_drop] at this
          simp only [List.length_nil] at this
          rename_i hX
          have h2 : 2 ≤ (c :: r).length := by
            cases r with
            | nil => simp [isX] at hX
            | cons d r => simp
          show x.1.length ≤ _
          omega
        · split at h
          · cases h
            show (toLowerA ((c :: r).take _)).length ≤ _
            simp only [toLowerA, List.length_map, List.length_take]
            omega
          · split at h
            · cases h
            · cases h
              show ((c :: r).take _).length ≤ _
              rw [List.length_take]
              omega
theorem toks_slen : ∀ (f : Nat) (l : List UInt8) (i : Nat) (xs : List (Tk × Nat)), toks f l i = .ok xs → ∀ x ∈ xs, x.1.s.length ≤ l.length
  | 0, _, _, xs, h, x, hx => by simp only [toks, Except.ok.injEq] at h; subst h; simp at hx
  | f + 1, [], i, xs, h, x, hx => by simp only [toks, Except.ok.injEq] at h; subst h; simp at hx
  | f + 1, c :: r, i, xs, h, x, hx => by
    rw [toks] at h
    by_cases hb : blk (bi c) = true
    · rw [if_pos hb] at h
      have := toks_slen f r _ xs h x hx
      simp
      omega
    · rw [if_neg hb] at h
      by_cases hR : isR (c :: r) = true
      · rw [if_pos hR] at h
        have := toks_slen f _ _ xs h x hx
        rw [List.length_drop] at this
        omega
      · rw [if_neg hR] at h
        cases h1 : first1 (c :: r) with
        | none => rw [h1] at h; simp at h
        | some y =>
          obtain ⟨t, k⟩ := y
          rw [h1] at h
          simp only [] at h
          cases h2 : toks f ((c :: r).drop k) (i + k) with
          | error j => rw [h2] at h; simp [Except.map] at h
          | ok ys =>
            rw [h2] at h
            simp only [Except.map, Except.ok.injEq] at h
            subst h
            rcases List.mem_cons.1 hx with rfl | hx
            · exact first1_slen h1
            · have := toks_slen f _ _ ys h2 x hx
              rw [List.length_drop] at this
              omega
theorem prT_len {t : Tk} (h : GoodT t) : (prT t).length ≤ 2 * t.s.length + 24 := by
  obtain ⟨tk, ts, tn⟩ := t
  rcases h with ⟨rfl, rfl, _⟩ | ⟨rfl, rfl, h0, h1⟩ | ⟨rfl, rfl⟩ | ⟨rfl, rfl⟩ | ⟨rfl, rfl, _⟩
  · show ts.length ≤ 2 * ts.length + 24; omega
  · show (itoa tn).length ≤ _
    simp only [] at h0 h1
    unfold itoa
    rw [if_neg (by omega)]
    have := nDigits_le20 tn.toNat (by omega)
    rw [← decDigits_length] at this
    omega
  · show (39 :: (rep ts ++ [39])).length ≤ _
    have := (rep_length_le ts).2
    simp
    omega
  · show (88 :: 39 :: (hexL ts ++ [39])).length ≤ _
    have := hexL_length ts
    simp
    omega
  · show ts.length ≤ 2 * ts.length + 24; omega
theorem prtL_good {t : Tk} (h : GoodT t) : prtL t.k t.n ⟨t.s.toArray⟩ = prT t := by
  obtain ⟨tk, ts, tn⟩ := t
  have h3 : litV ⟨3, 0, ⟨ts.toArray⟩⟩ = 39 :: (rep ts ++ [39]) := by
    unfold litV
    rw [if_neg (by simp [checkV, Val.right]), if_neg (show ¬ (3 : Int) = 1 by decide), if_neg (show ¬ (3 : Int) = 2 by decide), if_pos rfl]
  have h4 : litV ⟨4, 0, ⟨ts.toArray⟩⟩ = 88 :: 39 :: (hexL ts ++ [39]) := by
    unfold litV
    rw [if_neg (by simp [checkV, Val.right]), if_neg (show ¬ (4 : Int) = 1 by decide), if_neg (show ¬ (4 : Int) = 2 by decide), if_neg (show ¬ (4 : Int) = 3 by decide), if_pos rfl]
  rcases h with ⟨rfl, rfl, _⟩ | ⟨rfl, rfl, h0, h1⟩ | ⟨rfl, rfl⟩ | ⟨rfl, rfl⟩ | ⟨rfl, rfl, _⟩
  · rfl
  · rfl
  · exact h3
  · exact h4
  · rfl
theorem wrT_app : ∀ (xs ys : List (Tk × Nat)), wrT (xs ++ ys) = wrT xs ++ wrT ys
  | [], ys => rfl
  | x :: xs, ys => by simp only [List.cons_append, wrT, wrT_app xs ys, List.append_assoc]
theorem good_n {t : Tk} (h : GoodT t) : -9223372036854775808 ≤ t.n ∧ t.n ≤ 9223372036854775807 := by
  rcases h with ⟨_, h, _⟩ | ⟨_, _, h0, h1⟩ | ⟨_, h⟩ | ⟨_, h⟩ | ⟨_, h, _⟩ <;> omega

set_option maxHeartbeats 4000000 in
theorem lagain_bad (a : ByteArray) (i : Nat) (n : Int) (w : World) (ha : a.size ≤ 140737488351232) (hw : Rdy w) (hE : ErrT w) (h1 : lexR a.data.toList = .error (i, n)) :
    Calls Tryz.prog 4 #[.string a] w fun e w' => e = .returned (.bool true) ∧ Below w.heap.size w w' := by
  have C0 := hid (works_any w hw hE)
  have C1 := hid (fun w hw => xtok_err a i n w ha hw h1)
  have HW := hid hw
  clear hE h1 hw
  go_enter Tryz.func4, Tryz.ntmps4
  go_wp2_with (first
    | (go_at_call 11; with_reducible refine C0.out.mono ?_; rintro e w1 ⟨rfl, b1⟩; have B1 := hid b1; clear b1)
    | (go_at_call 7; with_reducible refine (C1.out _ (HW.out.below B1.out)).mono ?_; rintro e w2 ⟨p2, rfl, x0, x1, b2⟩; have B2 := hid (B1.out.trans (b2.mono B1.out.size)); clear b2 x0 x1 C1))
  go_ret
  exact ⟨rfl, B2.out⟩

set_option maxHeartbeats 8000000 in
theorem lagain_good (a : ByteArray) (xs : List (Tk × Nat)) (w : World) (ha : a.size ≤ 140737488351232) (hw : Rdy w) (hE : ErrT w) (hy : Ready w) (h1 : lexR a.data.toList = .ok xs) :
    Calls Tryz.prog 4 #[.string a] w fun e w' => e = .returned (.bool true) ∧ Below w.heap.size w w' := by
  have C0 := hid (works_any w hw hE)
  have C1 := hid (fun w hw => xtok_ok a xs w ha hw h1)
  obtain ⟨la, ta⟩ := lexR_ok h1
  have HG : Hid (∀ x ∈ xs, GoodT x.1) := toks_good _ _ _ _ ta
  have hxl : xs.length ≤ 16384 := by have := toks_len _ _ _ _ ta; omega
  have HSL : Hid (∀ x ∈ xs, x.1.s.length ≤ 16384) := fun x hx => by have := toks_slen _ _ _ _ ta x hx; omega
  obtain ⟨ys, ty, hmy⟩ := toksOf_back ta
  have HTY := hid ty
  have hyl : ys.length = xs.length := by have := congrArg List.length hmy; simpa using this
  have HYX : Hid (∀ k (h : k < ys.length) (h' : k < xs.length), ys[k].1 = xs[k].1) := fun k h h' => by
    have := congrArg (fun l => l[k]?) hmy
    simp only [List.getElem?_map, List.getElem?_eq_getElem h, List.getElem?_eq_getElem h', Option.map_some, Option.some.injEq] at this
    exact this
  have HYL := hid hyl
  have HW := hid hw
  have HY := hid hy
  clear h1 hw hE hy la ta ty hmy hyl
  go_enter Tryz.func4, Tryz.ntmps4
  go_wp2_with (first
    | (go_at_call 11; with_reducible refine C0.out.mono ?_; rintro e w1 ⟨rfl, b1⟩; have B1 := hid b1; clear b1)
    | (go_at_call 7; with_reducible refine (C1.out _ (HW.out.below B1.out)).mono ?_; rintro e w2 ⟨p2, c2, rfl, t2, m2, b2⟩; have B2 := hid (B1.out.trans (b2.mono B1.out.size)); have T2 := hid t2; clear b2 t2 m2 C1))
  go_loopw [5, 6] (fun v i wr => ∃ (k : Nat) (S : ByteArray), v = .string S ∧ i = .int .i64 k ∧ k ≤ xs.length ∧ S.size ≤ k * 40000 ∧ Hid (S.data.toList = wrT (xs.take k)) ∧ Hid (Below w2.heap.size w2 wr)) (fun _ i _ => xs.length - (RowKit.intOf i).toNat)
  case atStart => exact ⟨0, ⟨#[]⟩, rfl, rfl, Nat.zero_le _, by decide, rfl, Below.refl _ _⟩
  case round =>
    obtain ⟨k, S, rfl, rfl, hk, hS, hSd, bel⟩ := hrel
    by_cases hlt : k < xs.length
    · have hkz : (k : Int) < (xs.length : Int) := by omega
      obtain ⟨bx, ox, rfl, x0, x1, x2, x3⟩ := (T2.out.below bel.out).at hlt
      have hG := HG.out _ (List.getElem_mem hlt)
      have hsl := HSL.out _ (List.getElem_mem hlt)
      have HN : Hid (wrT (xs.take (k + 1)) = wrT (xs.take k) ++ prT xs[k].1 ++ [32]) := by
        show _ = _
        rw [List.take_succ_eq_append_getElem hlt, wrT_app]
        simp [wrT]
      have hpl := prT_len hG
      have C2 := hid (xprint_any xs[k].1.k (xs[k].2 : Int) xs[k].1.n ⟨xs[k].1.s.toArray⟩ wr (HY.out.below (B2.out.trans (bel.out.mono B2.out.size))) (by simp [ByteArray.size]; omega) (good_n hG).1 (good_n hG).2)
      rw [prtL_good hG] at C2
      generalize prT xs[k].1 = P at *
      clear hG
      generalize xs[k] = u at *
      obtain ⟨⟨uk, us, un⟩, ui⟩ := u
      simp only [] at x0 x1 x2 x3 hsl hpl C2
      have hPs : (⟨P.toArray⟩ : ByteArray).size ≤ 39999 := by simp [ByteArray.size]; omega
      have HND : Hid ((S ++ ⟨P.toArray⟩ ++ ⟨#[32]⟩ : ByteArray).data.toList = wrT (xs.take (k + 1))) := by
        show _ = _
        rw [HN.out, ← hSd.out]
        simp
      have hNS : (S ++ ⟨P.toArray⟩ ++ ⟨#[32]⟩ : ByteArray).size ≤ (k + 1) * 40000 := by
        have e1 : (⟨#[32]⟩ : ByteArray).size = 1 := rfl
        rw [ByteArray.size_append, ByteArray.size_append, e1]
        omega
      have hS2 : S.size ≤ 655360000 := by omega
      clear HN hSd hpl hsl
      generalize (⟨P.toArray⟩ : ByteArray) = PB at *
      go_wp2_with (go_at_call 12; with_reducible refine C2.out.mono ?_; rintro e w3 ⟨rfl, b3⟩; have B3 := hid (bel.out.trans (b3.mono bel.out.size)); clear b3)
      go_roundw
      case rel => exact ⟨k + 1, _, rfl, by go_num, by omega, hNS, HND, B3⟩
      case measure => simp [RowKit.intOf]; omega
    · have hkz : ¬ (k : Int) < (xs.length : Int) := by omega
      have hkx : xs.take k = xs := List.take_of_length_le (by omega)
      rw [hkx] at hSd
      by_cases hbig : 16384 < S.size
      · have hbz : (16384 : Int) < (S.size : Int) := by omega
        go_wp2_with fail
        go_ret
        exact ⟨rfl, B2.out.trans (bel.out.mono B2.out.size)⟩
      · have hbz : ¬ ((16384 : Int) < (S.size : Int)) := by omega
        have hdl : S.data.toList.length = S.size := by simp
        have h2 : lexR S.data.toList = .ok ys := lexR_of (by omega) (by rw [hSd.out]; exact HTY.out)
        have C3 := hid (fun w hw => xtok_ok S ys w (by omega) hw h2)
        rw [HYL.out] at C3
        have B2r := hid (B2.out.trans (bel.out.mono B2.out.size))
        have T2r := hid (T2.out.below bel.out)
        clear h2 hdl hSd hS hkx bel T2 HTY
        go_wp2_with (go_at_call 7; with_reducible refine (C3.out _ (HW.out.below B2r.out)).mono ?_; rintro e w4 ⟨p4, c4, rfl, t4, m4, b4⟩; have B4 := hid (B2r.out.trans (b4.mono B2r.out.size)); have T4 := hid t4; have T24 := hid (T2r.out.below b4); clear t4 b4 m4)
        go_loopw [9] (fun i wz => ∃ k : Nat, i = .int .i64 k ∧ k ≤ xs.length ∧ Hid (Below w4.heap.size w4 wz)) (fun i _ => xs.length - (RowKit.intOf i).toNat)
        case atStart => exact ⟨0, rfl, Nat.zero_le _, Below.refl _ _⟩
        case round =>
          obtain ⟨k, rfl, hk3, belz⟩ := hrel
          by_cases hlt3 : k < xs.length
          · have hkz3 : (k : Int) < (xs.length : Int) := by omega
            have hky : k < ys.length := by rw [HYL.out]; exact hlt3
            obtain ⟨bz, oz, rfl, z0, z1, z2, z3⟩ := (T4.out.below belz.out).at hky
            obtain ⟨bx, ox, rfl, x0, x1, x2, x3⟩ := (T24.out.below belz.out).at hlt3
            have he := HYX.out k hky hlt3
            rw [he] at z0 z1 z3
            clear he
            generalize ys[k].2 = yi at *
            generalize xs[k] = u at *
            obtain ⟨⟨uk, us, un⟩, ui⟩ := u
            simp only [] at z0 z1 z2 z3 x0 x1 x2 x3
            have hbl : bx < wr.heap.size := lxcell_lt x0
            go_wp2_with fail
            have bA : Below wr.heap.size wr (wr.alloc (.cells #[.int .i64 uk, .string ⟨us.toArray⟩, .int .i64 (ui : Int), .int .i64 un] 38)) := (Below.refl _ _).alloc (Nat.le_refl _) _
            have t0 : (wr.alloc (.cells #[.int .i64 uk, .string ⟨us.toArray⟩, .int .i64 (ui : Int), .int .i64 un] 38)).cell? ⟨wr.heap.size, 0, none⟩ = some (.int .i64 uk) := by go_simp
            have t1 : (wr.alloc (.cells #[.int .i64 uk, .string ⟨us.toArray⟩, .int .i64 (ui : Int), .int .i64 un] 38)).cell? ⟨wr.heap.size, 1, none⟩ = some (.string ⟨us.toArray⟩) := by go_simp
            have t2 : (wr.alloc (.cells #[.int .i64 uk, .string ⟨us.toArray⟩, .int .i64 (ui : Int), .int .i64 un] 38)).cell? ⟨wr.heap.size, 2, none⟩ = some (.int .i64 (ui : Int)) := by go_simp
            have t3 : (wr.alloc (.cells #[.int .i64 uk, .string ⟨us.toArray⟩, .int .i64 (ui : Int), .int .i64 un] 38)).cell? ⟨wr.heap.size, 3, none⟩ = some (.int .i64 un) := by go_simp
            have y0 := lxbelow_cell bA x0
            have y1 := lxbelow_cell bA x1
            have y2 := lxbelow_cell bA x2
            have y3 := lxbelow_cell bA x3
            have BW := hid (belz.out.trans (bA.mono belz.out.size))
            clear x0 x1 x2 x3 z0 z1 z2 z3 bA belz
            generalize wr.alloc (.cells #[.int .i64 uk, .string ⟨us.toArray⟩, .int .i64 (ui : Int), .int .i64 un] 38) = W at *
            go_quiet (fail)
            go_wp2_with fail
            go_roundw
            case rel => exact ⟨k + 1, by go_num, by omega, below_drewN _ BW.out⟩
            case measure => simp [RowKit.intOf]; omega
          · have hkz3 : ¬ (k : Int) < (xs.length : Int) := by omega
            go_wp2_with fail
            go_ret
            exact ⟨rfl, B4.out.trans (belz.out.mono B4.out.size)⟩
theorem lagain_any (a : ByteArray) (w : World) (ha : a.size ≤ 140737488351232) (hw : Rdy w) (hE : ErrT w) (hy : Ready w) :
    Calls Tryz.prog 4 #[.string a] w fun e w' => e = .returned (.bool true) ∧ Below w.heap.size w w' := by
  rcases h1 : lexR a.data.toList with ⟨i, n⟩ | xs
  · exact lagain_bad a i n w ha hw hE h1
  · exact lagain_good a xs w ha hw hE hy h1
end Go.Proofs.YtbaemjibaeeglaaGreatDoor
