/- What the lexer's Tokens answers: the words of a text. Conditions: the text lies within the reach; the library's variable of errors holds what its text lays. -/
import Derived.Test.YtekapdpfbkdflaaGreatDoorLxFirst
import Derived.WalkMore
import Derived.Deep.LoopGhost
namespace Go.Proofs.YtekapdpfbkdflaaGreatDoor
open Go.RowKit Go.Lib Go.Sort
set_option linter.unusedVariables false
set_option maxRecDepth 20000

/-- A place as an error's place. -/
def lexO : Except Nat (List (Tk × Nat)) → Except (Nat × Int) (List (Tk × Nat))
  | .error i => .error (i, 20)
  | .ok xs => .ok xs
/-- The words of a text, or the place and the number of what is wrong. -/
def lexR (l : List UInt8) : Except (Nat × Int) (List (Tk × Nat)) :=
  if 16384 < l.length then .error (0, 8) else lexO (toksOf l)
/-- What Tokens answers. -/
def tokEnd (R : Except (Nat × Int) (List (Tk × Nat))) (w : World) (e : Ending) (w' : World) : Prop :=
  Below w.heap.size w w' ∧ match R with
    | .error x => ∃ b, e = .returned (.tuple #[.slice none 0 0, .iface 50 (.pointer (some ⟨b, 0, none⟩))]) ∧ w'.cell? ⟨b, 0, none⟩ = some (.int .i64 (x.1 : Int)) ∧ w'.cell? ⟨b, 1, none⟩ = some (.iface 41 (.int .i64 x.2))
    | .ok xs => ∃ v, e = .returned (.tuple #[v, .nilIface]) ∧ OT w' w.heap.size v xs

theorem isR_pre (l : List UInt8) : Lib.hasPrefix l [45, 45] = isR l := by
  match l with
  | [] => rfl
  | [c] => simp [Lib.hasPrefix, isR, List.isPrefixOf]
  | c :: d :: r =>
    have hcd : ∀ x : UInt8, ((45 : UInt8) == x) = (bi x == 45) := fun x => by
      rw [Bool.eq_iff_iff, beq_iff_eq, beq_iff_eq]
      constructor
      · rintro rfl; rfl
      · intro h
        apply UInt8.toNat_inj.1
        show 45 = x.toNat
        unfold bi at h
        omega
    simp only [Lib.hasPrefix, isR, List.isPrefixOf, hcd, Bool.and_true]

set_option maxHeartbeats 1000000 in
theorem xtokens_long (s : ByteArray) (w : World) (h : 16384 < s.size) (hs : s.size ≤ 140737488351232) :
    Calls Tryz.prog 8 #[.string s] w (tokEnd (.error (0, 8)) w) := by
  unfold tokEnd
  have hz : (16384 : Int) < (s.size : Int) := by omega
  go_enter Tryz.func8, Tryz.ntmps8
  go_wp2_with fail
  go_step3
  go_wp2_with fail
  rw [Exit.noGoto_ret]
  go_ret2
  refine ⟨by go_grown, _, rfl, ?_, ?_⟩
  · simp
  · simp

/-- Words read so far, and those that are left. -/
def Lft (l : List UInt8) (R : Except Nat (List (Tk × Nat))) (k : Nat) (acc : List (Tk × Nat)) : Prop := ∀ f, (l.drop k).length < f → addT acc (toks f (l.drop k) k) = R
theorem Lft.start (l : List UInt8) : Lft l (toksOf l) 0 [] := fun f hf => by
  rw [addT_nil]
  exact toks_fuel f _ _ _ hf (by simp)
theorem Lft.stop {l : List UInt8} {R : Except Nat (List (Tk × Nat))} {k : Nat} {acc : List (Tk × Nat)} (h : Lft l R k acc) (hk : l.length ≤ k) : R = .ok acc := by
  have := h 1 (by rw [List.drop_eq_nil_of_le hk]; simp)
  rw [List.drop_eq_nil_of_le hk] at this
  simp [toks, addT] at this
  exact this.symm
theorem Lft.blank {l : List UInt8} {R : Except Nat (List (Tk × Nat))} {k : Nat} {acc : List (Tk × Nat)} {c : UInt8} {r : List UInt8} (h : Lft l R k acc) (hd : l.drop k = c :: r) (hr : r = l.drop (k + 1)) (hb : blk (bi c) = true) : Lft l R (k + 1) acc := fun f hf => by
  have := h (f + 1) (by rw [hd, hr]; simp at hf ⊢; omega)
  rw [hd, toks, if_pos hb] at this
  rw [← hr]
  exact this
theorem Lft.remark {l : List UInt8} {R : Except Nat (List (Tk × Nat))} {k : Nat} {acc : List (Tk × Nat)} {c : UInt8} {r : List UInt8} (h : Lft l R k acc) (hd : l.drop k = c :: r) (hb : blk (bi c) = false) (hR : isR (l.drop k) = true) : Lft l R (k + cntW notLF (l.drop k)) acc := fun f hf => by
  have hp : 0 < cntW notLF (l.drop k) := by rw [hd] at hR ⊢; exact isR_cnt hR
  have := h (f + (l.drop k).length + 1) (by omega)
  rw [hd, toks, if_neg (by simp [hb]), if_pos (by rw [← hd]; exact hR), ← hd, List.drop_drop] at this
  rw [toks_fuel f (f + (l.drop k).length) _ _ hf (by omega)]
  exact this
theorem Lft.word {l : List UInt8} {R : Except Nat (List (Tk × Nat))} {k m : Nat} {t : Tk} {acc : List (Tk × Nat)} {c : UInt8} {r : List UInt8} (h : Lft l R k acc) (hd : l.drop k = c :: r) (hb : blk (bi c) = false) (hR : isR (l.drop k) = false) (h1 : first1 (l.drop k) = some (t, m)) : Lft l R (k + m) (acc ++ [(t, k)]) := fun f hf => by
  have := h (f + (l.drop k).length + 1) (by omega)
  rw [hd, toks, if_neg (by simp [hb]), if_neg (by rw [← hd]; simp [hR])] at this
  rw [← hd, h1] at this
  simp only [addT_cons, List.drop_drop] at this
  rw [toks_fuel f (f + (l.drop k).length) _ _ hf (by omega)]
  exact this
theorem Lft.bad {l : List UInt8} {R : Except Nat (List (Tk × Nat))} {k : Nat} {acc : List (Tk × Nat)} {c : UInt8} {r : List UInt8} (h : Lft l R k acc) (hd : l.drop k = c :: r) (hb : blk (bi c) = false) (hR : isR (l.drop k) = false) (h1 : first1 (l.drop k) = none) : R = .error k := by
  have := h ((l.drop k).length + 1) (by omega)
  rw [hd, toks, if_neg (by simp [hb]), if_neg (by rw [← hd]; simp [hR])] at this
  rw [← hd, h1] at this
  exact this.symm
theorem ext_to_end (s : ByteArray) (k : Nat) : (s.extract k s.size).data.toList = s.data.toList.drop k := by
  rw [ext_data]
  exact List.take_of_length_le (by simp)

set_option maxHeartbeats 8000000 in
theorem xtokens_core (s : ByteArray) (R : Except Nat (List (Tk × Nat))) (w : World) (hs : s.size ≤ 16384) (hw : Rdy w) (HR : Hid (toksOf s.data.toList = R)) :
    Calls Tryz.prog 8 #[.string s] w (tokEnd (lexO R) w) := by
  have hz : ¬ (16384 : Int) < (s.size : Int) := by omega
  have HW := hid hw
  clear hw
  go_enter Tryz.func8, Tryz.ntmps8
  go_wp2_with fail
  go_step3
  go_wp2_with fail
  go_step3
  go_wp2_with fail
  go_loopg [4, 5] s.size (fun g v i wr => ∃ (k : Nat) (acc : List (Tk × Nat)), i = .int .i64 k ∧ k ≤ s.size ∧ s.size ≤ k + g ∧ acc.length ≤ k ∧ Hid (OT wr w.heap.size v acc) ∧ Hid (Lft s.data.toList R k acc) ∧ Hid (Below w.heap.size w wr))
  case atStart => exact ⟨0, [], rfl, Nat.zero_le _, by omega, Nat.le_refl _, ot_nil _ _, by rw [← HR.out]; exact Lft.start _, Below.refl _ _⟩
  case round =>
    obtain ⟨k, acc, rfl, hk, hkg, hacc, hO, hL, bel⟩ := hrel
    by_cases hlt : k < s.size
    · obtain ⟨g, rfl⟩ : ∃ g, gk = g + 1 := ⟨gk - 1, by omega⟩
      have HD := hid (drop_at s hlt)
      have hkz : (k : Int) < s.size := by omega
      have C1 := hid (fun w => xblank_any (s[k].toNat : Int) w)
      cases hb : blk (s[k].toNat : Int) with
      | true =>
        rw [hb] at C1
        have HN := hid (hL.out.blank HD.out rfl hb)
        clear hL HD hb
        go_wp2_with (go_at_call 16; with_reducible refine (C1.out _).mono ?_; rintro e w2 ⟨rfl, hw⟩; obtain rfl := hw.symm)
        go_roundg g
        case measure => omega
        case rel => exact ⟨k + 1, acc, by go_num, by omega, by omega, by omega, hO, HN, bel⟩
      | false =>
        rw [hb] at C1
        have C2 := hid (fun w => Tryz.strings_HasPrefix (s.extract k s.size) ⟨#[45, 45]⟩ w)
        rw [ext_to_end, show ((⟨#[45, 45]⟩ : ByteArray).data.toList) = [45, 45] from rfl, isR_pre] at C2
        cases hr : isR (s.data.toList.drop k) with
        | true =>
          rw [hr] at C2
          have HN := hid (hL.out.remark HD.out hb hr)
          have hp : 0 < cntW notLF (s.data.toList.drop k) := by
            have hr' := hr
            rw [HD.out] at hr' ⊢
            exact isR_cnt hr'
          obtain ⟨E, HE⟩ : ∃ E, Hid (k + cntW notLF (s.data.toList.drop k) = E) := ⟨_, rfl⟩
          have hkE : k < E := by rw [← HE.out]; omega
          rw [HE.out] at HN
          clear hL HD hb hr hp
          go_wp2_with (first
            | (go_at_call 16; with_reducible refine (C1.out _).mono ?_; rintro e w2 ⟨rfl, hw⟩; obtain rfl := hw.symm)
            | (go_at_call 17; with_reducible refine (C2.out _).mono ?_; rintro e w2 ⟨rfl, hw⟩; obtain rfl := hw.symm))
          go_loopg [5] s.size (fun g2 i wy => ∃ j : Nat, i = .int .i64 j ∧ j ≤ s.size ∧ s.size ≤ j + g2 ∧ Hid (j + cntW notLF (s.data.toList.drop j) = E) ∧ wy = wr)
          case atStart => exact ⟨k, rfl, hk, by omega, HE, rfl⟩
          case round =>
            obtain ⟨j, rfl, hj, hjg, hJ, rfl⟩ := hrel
            by_cases hjl : j < s.size
            · obtain ⟨g2, rfl⟩ : ∃ g2, gk = g2 + 1 := ⟨gk - 1, by omega⟩
              have HDj := hid (drop_at s hjl)
              have hjz : (j : Int) < s.size := by omega
              cases hc : (((s[j].toNat : Nat) : Int) == 10) with
              | true =>
                have hjE : E = j := by
                  have := hJ.out
                  rw [HDj.out, cntW_miss (show notLF s[j] = false by unfold notLF bi; rw [hc]; rfl)] at this
                  omega
                rw [hjE] at HN hkE
                clear hJ HDj HE hjE
                go_wp2_with fail
                go_roundg g
                case measure => omega
                case rel => exact ⟨j, acc, rfl, hj, by omega, by omega, hO, HN, bel⟩
              | false =>
                have HJ2 : Hid (j + 1 + cntW notLF (s.data.toList.drop (j + 1)) = E) := by
                  have := hJ.out
                  rw [HDj.out, cntW_hit (show notLF s[j] = true by unfold notLF bi; rw [hc]; rfl)] at this
                  show _ = _
                  omega
                clear hJ HDj
                go_wp2_with fail
                go_roundg g2
                case measure => omega
                case rel => exact ⟨j + 1, by go_num, by omega, by omega, HJ2, rfl⟩
            · have hjE : E = j := by
                have := hJ.out
                rw [drop_end s (by omega)] at this
                simp [cntW] at this
                omega
              have hjz : ¬ (j : Int) < s.size := by omega
              rw [hjE] at HN
              have HF : Hid (R = .ok acc) := HN.out.stop (by simp; omega)
              clear hJ HE
              go_wp2_with fail
              try rw [Exit.noGoto_ret]
              go_ret2
              refine ⟨bel.out, ?_⟩
              rw [HF.out]
              exact ⟨_, rfl, hO.out⟩
        | false =>
          rw [hr] at C2
          have hsx : (s.extract k s.size).size = s.size - k := by
            have : (s.extract k s.size).data.toList.length = (s.extract k s.size).size := by simp
            rw [← this, ext_to_end]
            simp
          have C3 := hid (xfirst_any (s.extract k s.size) wr (by omega) (by omega) (HW.out.below bel.out))
          rw [ext_to_end] at C3
          unfold fstV at C3
          cases hf : first1 (s.data.toList.drop k) with
          | none =>
            rw [hf] at C3
            have HN := hid (hL.out.bad HD.out hb hr hf)
            clear hL HD hb hr hf
            go_wp2_with (first
              | (go_at_call 16; with_reducible refine (C1.out _).mono ?_; rintro e w2 ⟨rfl, hw⟩; obtain rfl := hw.symm)
              | (go_at_call 17; with_reducible refine (C2.out _).mono ?_; rintro e w2 ⟨rfl, hw⟩; obtain rfl := hw.symm)
              | (go_at_call 18; with_reducible refine C3.out.mono ?_; rintro e w3 ⟨rfl, b3⟩; have BB := hid (bel.out.trans (b3.mono bel.out.size)); clear b3))
            rw [Exit.noGoto_ret]
            go_ret2
            refine ⟨(BB.out.alloc BB.out.size _).alloc (by have := BB.out.size; simp; omega) _, ?_⟩
            rw [HN.out]
            exact ⟨w3.heap.size + 1, rfl, by simp, by simp⟩
          | some x =>
            obtain ⟨t, m⟩ := x
            rw [hf] at C3
            have HN := hid (hL.out.word HD.out hb hr hf)
            have hm := first1_ge hf
            have hm2 : m ≤ s.size - k := by have := hm.2; simp at this; omega
            have hm0 := hm.1
            clear hL HD hb hr hf hm
            simp only [fk, fs, fn, fz] at C3
            have hmz : ((m : Int) == 0) = false := beq_eq_false_iff_ne.2 (by omega)
            go_wp2_with (first
              | (go_at_call 16; with_reducible refine (C1.out _).mono ?_; rintro e w2 ⟨rfl, hw⟩; obtain rfl := hw.symm)
              | (go_at_call 17; with_reducible refine (C2.out _).mono ?_; rintro e w2 ⟨rfl, hw⟩; obtain rfl := hw.symm)
              | (go_at_call 18; with_reducible refine C3.out.mono ?_; rintro e w3 ⟨rfl, b3⟩; have BB := hid (bel.out.trans (b3.mono bel.out.size))
                 have O3 := hO.out.below b3
                 have O5 := hid (O3.below ((Below.refl w3.heap.size w3).alloc (Nat.le_refl _) (.cells #[.int .i64 t.k, .string ⟨t.s.toArray⟩, .int .i64 (k : Int), .int .i64 t.n] 56)))
                 have B5 := hid (BB.out.alloc BB.out.size (.cells #[.int .i64 t.k, .string ⟨t.s.toArray⟩, .int .i64 (k : Int), .int .i64 t.n] 56))
                 clear b3 O3)
              | (at_builtin; go_loud (refine otApp _ w.heap.size _ _ _ _ acc (t, k) rfl rfl rfl rfl (by simp) O5.out (by omega) B5.out.size ?_); intro v6 w6 O6 b6; have HO6 := hid O6; have B6 := hid (B5.out.trans b6); clear O6 b6))
            go_roundg g
            case measure => omega
            case rel => exact ⟨k + m, acc ++ [(t, k)], by go_num, by omega, by omega, by simp; omega, HO6, HN, B6⟩
    · have HF : Hid (R = .ok acc) := hL.out.stop (by simp; omega)
      have hkz : ¬ (k : Int) < s.size := by omega
      clear hL
      go_wp2_with fail
      try rw [Exit.noGoto_ret]
      go_ret2
      refine ⟨bel.out, ?_⟩
      rw [HF.out]
      exact ⟨_, rfl, hO.out⟩

theorem xtokens_any (s : ByteArray) (w : World) (hs : s.size ≤ 140737488351232) (hw : Rdy w) :
    Calls Tryz.prog 8 #[.string s] w (tokEnd (lexR s.data.toList) w) := by
  have hl : s.data.toList.length = s.size := by simp
  unfold lexR
  rw [hl]
  by_cases h : 16384 < s.size
  · rw [if_pos h]
    exact xtokens_long s w h hs
  · rw [if_neg h]
    exact xtokens_core s _ w (by omega) hw rfl
end Go.Proofs.YtekapdpfbkdflaaGreatDoor
