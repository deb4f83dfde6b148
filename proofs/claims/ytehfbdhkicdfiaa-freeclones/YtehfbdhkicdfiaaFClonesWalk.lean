/- What FreeClones does: whatever numbers it is called with, it answers true and leaves memory as it was. No conditions. -/
import Derived.Test.YtehfbdhkicdfiaaFrTwo
namespace Go.Proofs.Ytehfbdhkicdfiaa
open Go.RowKit
set_option linter.unusedVariables false
set_option maxRecDepth 20000

set_option maxHeartbeats 4000000 in
theorem fclones_walk (pages : Int) (us : List Int) (p : Option Addr) (c : Nat) (w : World) (hL : us.length ≤ maxLen) (hU : Ints w p us) :
    Calls Try.prog 5 #[.int .i64 pages, .slice p us.length c] w fun e w' => e = .returned (.bool true) ∧ Below w.heap.size w w' := by
  have CW := hid (works_any w)
  have HU := hid hU
  obtain ⟨K, hq, hq1⟩ := umod_nat pages 100 (by omega) (by omega)
  have CN : Hid (∀ w1 : World, Calls Try.prog 6 #[.int .i64 (3 + (K : Int))] w1 (newEnd w1 (K + 3))) := fun w1 => by
    have := new_any (3 + (K : Int)) w1
    rwa [show sizeN (3 + (K : Int)) = K + 3 by unfold sizeN; omega] at this
  have hLi : (us.length : Int) ≤ 9223372036854775807 := by unfold maxLen at hL; omega
  clear hU hL
  go_enter Try.func5, Try.ntmps5
  go_wp2_with (first
    | (go_at_call 19; go_loud ((with_reducible refine CW.out.mono ?_); rintro e w1 ⟨rfl, B1⟩; have HB1 := hid B1; have CN1 := hid (CN.out w1); clear B1))
    | (go_at_call 6; go_loud ((with_reducible refine CN1.out.mono ?_); rintro e w2 ⟨rfl, F2, B2, S2⟩; have HF2 := hid F2; have HB2 := hid (HB1.out.trans (B2.mono HB1.out.size)); have HS2 := hid S2; clear F2 B2 S2))
    | fail)
  clear CW CN CN1 hq
  have HS1 := hid HB1.out.size
  clear HB1
  generalize w1.heap.size = g at *
  obtain ⟨D, hD⟩ : ∃ D : Nat, 3 + (K : Int) = (D : Int) + 2 := ⟨K + 1, by omega⟩
  obtain ⟨N, hN⟩ : ∃ N, K + 3 = N := ⟨_, rfl⟩
  rw [hN] at HF2
  rw [hD]
  have hD1 : 1 ≤ D := by omega
  have hD2 : D ≤ 101 := by omega
  have hND : N = D + 2 := by omega
  clear hN hD hq1
  go_loopw [6, 7] (fun v i wr => ∃ (k : Nat) (l : List Int), i = .int .i64 (k : Int) ∧ k ≤ us.length ∧ k ≤ 50 ∧ l.length = k ∧ OwnI wr w2.heap.size v l ∧ (∀ x ∈ l, 2 ≤ x ∧ x < (N : Int)) ∧ Below w2.heap.size w2 wr) (fun _ i _ => 50 - (RowKit.intOf i).toNat)
  case atStart => exact ⟨0, [], rfl, Nat.zero_le _, Nat.zero_le _, rfl, World.ownsRow_nil _ _ _ _, fun x hx => (by simp at hx), Below.refl _ _⟩
  case round =>
    obtain ⟨k, l, rfl, hk, hk2, hln, hO, hA, hB⟩ := hrel
    have HO := hid hO
    have HA := hid hA
    have HB := hid hB
    have HZ := hid hB.size
    have HLN := hid hln
    by_cases hx : k < us.length ∧ k < 50
    · obtain ⟨hx1, hx2⟩ := hx
      obtain ⟨b, off, rfl, hv⟩ := ((HU.out.below HB2.out).below hB).at hx1
      generalize us[k] = x at *
      obtain ⟨R, hr, hr1⟩ := umod_nat x (D : Int) (by omega) (by omega)
      have hDw : IntKind.u64.wrap (D : Int) = (D : Int) := by
        have e : IntKind.u64.wrap (D : Int) = (D : Int) % 18446744073709551616 := by simp [IntKind.wrap, IntKind.bits, IntKind.signed]
        rw [e]; omega
      have hD0 : ¬ ((D : Int) = 0) := by omega
      have hx1' : (k : Int) < (us.length : Int) := by omega
      have hx2' : (k : Int) < 50 := by omega
      have HCN : Hid ((wr.alloc (.cells #[.int .i64 (2 + (R : Int))] 3)).cell? ⟨wr.heap.size, 0, none⟩ = some (.int .i64 (2 + (R : Int)))) := by
        show _ = _
        rw [cell_of_row _ _ 0 _ _ _ (heap_alloc_new wr _)]
        rfl
      have HLl : Hid (l.length < 1000000) := by show _ < _; omega
      have HA' : Hid (∀ y ∈ l ++ [2 + (R : Int)], 2 ≤ y ∧ y < (N : Int)) := by
        intro y hy
        rcases List.mem_append.1 hy with hy | hy
        · exact HA.out y hy
        · rw [List.mem_singleton] at hy
          subst hy
          omega
      clear hO hA hB hln
      go_wp2_with (first
        | (at_builtin; go_loud (refine appI w2.heap.size _ _ _ l (2 + (R : Int)) rfl rfl rfl _ _ rfl ?hO ?hX ?hl ?hb ?_; (case hO => exact World.ownsRow.alloc HO.out _); (case hX => exact HCN.out); (case hl => exact HLl.out); (case hb => have := HZ.out; simp; omega); intro v' w' O' G'; have HO' := hid O'; have HG' := hid G'; clear O' G'; try go_frame))
        | fail)
      go_roundw
      case rel => exact ⟨k + 1, l ++ [2 + (R : Int)], by go_num, by omega, by omega, by rw [List.length_append, HLN.out]; rfl, HO'.out, HA'.out, below_own (HB.out.alloc HZ.out _) HG'.out (by have := HZ.out; simp; omega) (fun j hj => (World.ownsRow.lt HO.out j hj).1)⟩
      case measure => simp [RowKit.intOf]; omega
    · have HX := hid hx
      obtain ⟨pl, cl, rfl, hI, hpl⟩ := hO.ints
      have hFr := HF2.out.below hB
      have hlen : (List.replicate N false).length = N := List.length_replicate
      obtain ⟨hE, hM⟩ := only_right (u := List.replicate N false) (l := l) (by rw [hlen]; exact hA)
      have CO := only_any (g + 1) g _ pl l cl wr hFr hI (by unfold maxLen; omega) (fun _ b off e => by have := hpl b off e; have := HF2.out.lt; omega)
      rw [hE] at CO
      have hul : (onlyU (List.replicate N false) l).length = N := by rw [onlyU_len, hlen]
      generalize onlyU (List.replicate N false) l = u at *
      have HCO := hid CO
      have HI := hid hI
      have HUL := hid hul
      have HAl : Hid (left u ≤ N) := by show _ ≤ _; rw [← hul]; exact leftTo_le u _
      have HBr : Hid (Below w.heap.size w wr) := HB2.out.trans (hB.mono HB2.out.size)
      have HMk : Hid (∀ (w3 w4 : World) (cb cg : Nat), FSt w3 (g + 1) g u → Chg (· = g) wr w3 → FSt w4 cb cg u → w3.heap.size ≤ cb → w3.heap.size ≤ cg → Below w3.heap.size w3 w4 → TS w.heap.size w w4 (g + 1) g cb cg u u) := by
        intro w3 w4 cb cg f3 c3 f4 q1 q2 b4
        have b3 := chg_below HBr.out c3 HS1.out HBr.out.size
        have a1 := f3.lt
        have a2 := f3.slt
        have a3 := HS1.out
        have a4 := b3.size
        exact ⟨f3.below b4, f4, b3.trans (b4.mono a4), by omega, by omega, by omega, by omega, Nat.le_trans a4 b4.size, by omega, by omega, by omega⟩
      have CC : Hid (∀ w3 : World, FSt w3 (g + 1) g u → Calls Try.prog 14 #[.pointer (some ⟨g + 1, 0, none⟩)] w3 (clEnd w3 u)) := fun w3 f => clone_any (g + 1) g u w3 f
      have HTL : Hid (∀ (w4 : World) (cb cg : Nat), TS w.heap.size w w4 (g + 1) g cb cg u u → Calls Try.prog 8 #[.pointer (some ⟨g + 1, 0, none⟩)] w4 fun e w' => e = .returned (.tuple #[.int .i64 (takeN u), .bool (takeB u)]) ∧ TS w.heap.size w w' (g + 1) g cb cg (takeU u) u ∧ Tw g cg w4 w') := fun w4 cb cg t => t.takeL
      have HTR : Hid (∀ (w4 : World) (cb cg : Nat), TS w.heap.size w w4 (g + 1) g cb cg (takeU u) u → Calls Try.prog 8 #[.pointer (some ⟨cb, 0, none⟩)] w4 fun e w' => e = .returned (.tuple #[.int .i64 (takeN u), .bool (takeB u)]) ∧ TS w.heap.size w w' (g + 1) g cb cg (takeU u) (takeU u) ∧ Tw g cg w4 w') := fun w4 cb cg t => t.takeR
      have HL1 : Hid (∀ (w4 : World) (cb cg : Nat), TS w.heap.size w w4 (g + 1) g cb cg u u → Calls Try.prog 15 #[.pointer (some ⟨g + 1, 0, none⟩)] w4 fun e w' => e = .returned (.int .i64 (left u : Int)) ∧ w' = w4) := fun w4 cb cg t => t.leftL
      have HL2 : Hid (∀ (w4 : World) (cb cg : Nat), TS w.heap.size w w4 (g + 1) g cb cg u u → Calls Try.prog 15 #[.pointer (some ⟨cb, 0, none⟩)] w4 fun e w' => e = .returned (.int .i64 (left u : Int)) ∧ w' = w4) := fun w4 cb cg t => t.leftR
      clear hO hA hB hln hI hpl hFr hM hE hul CO
      by_cases hA0 : left u = 0
      · obtain ⟨e1, e2, e3, _⟩ := take_none hA0
        rw [e1, e2, e3] at HTL
        rw [e1, e2, e3] at HTR
        rw [hA0] at HL1 HL2
        clear e1 e2 e3 hA0 HAl
        have hdec : (us.length : Int) ≤ (k : Int) ∨ ((k : Int) < (us.length : Int) ∧ (50 : Int) ≤ (k : Int)) := by have := HX.out; omega
        rcases hdec with hd | ⟨hd1, hd2⟩
        all_goals
          go_wp2_with (first
            | (go_at_call 12; go_loud ((with_reducible refine HCO.out.mono ?_); rintro e w3 ⟨rfl, f3, c3, s3⟩; have HF3 := hid f3; have HC3 := hid c3; have CC3 := hid (CC.out w3 f3); clear f3 c3 s3))
            | (go_at_call 14; go_loud ((with_reducible refine CC3.out.mono ?_); rintro e w4 ⟨cb, cg, rfl, f4, q1, q2, b4⟩; have T4 := hid (HMk.out w3 w4 cb cg HF3.out HC3.out f4 q1 q2 b4); have M1 := hid (HL1.out w4 cb cg T4.out); have M2 := hid (HL2.out w4 cb cg T4.out); have M3 := hid (HTL.out w4 cb cg T4.out); clear f4 q1 q2 b4))
            | (go_at_call 15; first
              | ((with_reducible refine M1.out.mono ?_); rintro e w5 ⟨rfl, hw⟩; subst w5)
              | ((with_reducible refine M2.out.mono ?_); rintro e w5 ⟨rfl, hw⟩; subst w5))
            | (go_at_call 8; first
              | ((with_reducible refine M3.out.mono ?_); rintro e w5 ⟨rfl, t5, _⟩; have M4 := hid (HTR.out w5 cb cg t5); clear t5 M3)
              | ((with_reducible refine M4.out.mono ?_); rintro e w6 ⟨rfl, t6, _⟩; have HB6 := hid t6.bel; clear t6 M4))
            | fail)
          go_ret
          exact ⟨rfl, HB6.out⟩
      · obtain ⟨n, e1, e2, e3, n2, nL, nf, _, eL⟩ := take_some (u := u) (by omega)
        rw [e1, e2] at HTL HTR
        have eU := e3
        generalize takeU u = u' at *
        obtain ⟨g1, g2⟩ := give_back n2 nL nf
        rw [← e3] at g1 g2
        have f2 := fr_set_same nL
        rw [← e3] at f2
        have HL3 : Hid (∀ (w4 : World) (cb cg : Nat), TS w.heap.size w w4 (g + 1) g cb cg u' u' → Calls Try.prog 15 #[.pointer (some ⟨g + 1, 0, none⟩)] w4 fun e w' => e = .returned (.int .i64 (left u' : Int)) ∧ w' = w4) := fun w4 cb cg t => t.leftL
        have HL4 : Hid (∀ (w4 : World) (cb cg : Nat), TS w.heap.size w w4 (g + 1) g cb cg u' u' → Calls Try.prog 15 #[.pointer (some ⟨cb, 0, none⟩)] w4 fun e w' => e = .returned (.int .i64 (left u' : Int)) ∧ w' = w4) := fun w4 cb cg t => t.leftR
        have HL5 : Hid (∀ (w4 : World) (cb cg : Nat), TS w.heap.size w w4 (g + 1) g cb cg u u' → Calls Try.prog 15 #[.pointer (some ⟨cb, 0, none⟩)] w4 fun e w' => e = .returned (.int .i64 (left u' : Int)) ∧ w' = w4) := fun w4 cb cg t => t.leftR
        have HG : Hid (∀ (w4 : World) (cb cg : Nat), TS w.heap.size w w4 (g + 1) g cb cg u' u' → Calls Try.prog 10 #[.pointer (some ⟨g + 1, 0, none⟩), .int .i64 (n : Int)] w4 fun e w' => e = .returned (.bool true) ∧ TS w.heap.size w w' (g + 1) g cb cg u u' ∧ Tw g cg w4 w') := fun w4 cb cg t => by
          have := t.giveL (n : Int)
          rwa [g1, g2] at this
        have HFS : Hid (∀ (w4 : World) (cb cg : Nat), TS w.heap.size w w4 (g + 1) g cb cg u u' → Calls Try.prog 17 #[.pointer (some ⟨g + 1, 0, none⟩), .int .i64 (n : Int)] w4 fun e w' => e = .returned (.bool true) ∧ w' = w4) := fun w4 cb cg t => by
          have := t.freeL (n : Int)
          rwa [nf] at this
        have HFC : Hid (∀ (w4 : World) (cb cg : Nat), TS w.heap.size w w4 (g + 1) g cb cg u u' → Calls Try.prog 17 #[.pointer (some ⟨cb, 0, none⟩), .int .i64 (n : Int)] w4 fun e w' => e = .returned (.bool false) ∧ w' = w4) := fun w4 cb cg t => by
          have := t.freeR (n : Int)
          rwa [f2] at this
        have eLi : (left u : Int) = (left u' : Int) + 1 := by omega
        have hAb : (left u' : Int) < 4096 := by have := HAl.out; omega
        rw [eLi] at HL1 HL2
        clear e1 e2 e3 eU g1 g2 f2 nf nL n2 eL eLi hA0 HAl
        generalize left u' = A at *
        have hdec : (us.length : Int) ≤ (k : Int) ∨ ((k : Int) < (us.length : Int) ∧ (50 : Int) ≤ (k : Int)) := by have := HX.out; omega
        rcases hdec with hd | ⟨hd1, hd2⟩
        all_goals
          go_wp2_with (first
            | (go_at_call 12; go_loud ((with_reducible refine HCO.out.mono ?_); rintro e w3 ⟨rfl, f3, c3, s3⟩; have HF3 := hid f3; have HC3 := hid c3; have CC3 := hid (CC.out w3 f3); clear f3 c3 s3))
            | (go_at_call 14; go_loud ((with_reducible refine CC3.out.mono ?_); rintro e w4 ⟨cb, cg, rfl, f4, q1, q2, b4⟩; have T4 := hid (HMk.out w3 w4 cb cg HF3.out HC3.out f4 q1 q2 b4); have M1 := hid (HL1.out w4 cb cg T4.out); have M2 := hid (HL2.out w4 cb cg T4.out); have M3 := hid (HTL.out w4 cb cg T4.out); clear f4 q1 q2 b4))
            | (go_at_call 15; first
              | ((with_reducible refine M1.out.mono ?_); rintro e w5 ⟨rfl, hw⟩; subst w5)
              | ((with_reducible refine M2.out.mono ?_); rintro e w5 ⟨rfl, hw⟩; subst w5)
              | ((with_reducible refine M6.out.mono ?_); rintro e w7 ⟨rfl, hw⟩; subst w7)
              | ((with_reducible refine M7.out.mono ?_); rintro e w7 ⟨rfl, hw⟩; subst w7)
              | ((with_reducible refine M9.out.mono ?_); rintro e w8 ⟨rfl, hw⟩; subst w8))
            | (go_at_call 8; first
              | ((with_reducible refine M3.out.mono ?_); rintro e w5 ⟨rfl, t5, _⟩; have M4 := hid (HTR.out w5 cb cg t5); clear t5 M3 M1 M2 T4)
              | ((with_reducible refine M4.out.mono ?_); rintro e w6 ⟨rfl, t6, _⟩; have M6 := hid (HL3.out w6 cb cg t6); have M7 := hid (HL4.out w6 cb cg t6); have M8 := hid (HG.out w6 cb cg t6); clear t6 M4))
            | (go_at_call 10; go_loud ((with_reducible refine M8.out.mono ?_); rintro e w9 ⟨rfl, t9, _⟩; have HB9 := hid t9.bel; have M9 := hid (HL5.out w9 cb cg t9); have M10 := hid (HFS.out w9 cb cg t9); have M11 := hid (HFC.out w9 cb cg t9); clear t9 M8 M6 M7))
            | (go_at_call 17; first
              | ((with_reducible refine M10.out.mono ?_); rintro e w10 ⟨rfl, hw⟩; subst w10)
              | ((with_reducible refine M11.out.mono ?_); rintro e w10 ⟨rfl, hw⟩; subst w10))
            | fail)
          go_ret
          exact ⟨rfl, HB9.out⟩
end Go.Proofs.Ytehfbdhkicdfiaa
