/- What FreeTakes does: whatever numbers it is called with, it answers true and leaves memory as it was. No conditions. -/
import Derived.Test.YtehfbdhkicdfiaaFrTwo
namespace Go.Proofs.Ytehfbdhkicdfiaa
open Go.RowKit
set_option linter.unusedVariables false
set_option maxRecDepth 20000

/-- One set, all that it owns above the first world. -/
structure S1 (w0 w : World) (g : Nat) (u : List Bool) : Prop where
  f : FSt w (g + 1) g u
  bel : Below w0.heap.size w0 w
  hg : w0.heap.size ≤ g
theorem S1.take {w0 w : World} {g : Nat} {u : List Bool} (h : S1 w0 w g u) : Calls Try.prog 8 #[.pointer (some ⟨g + 1, 0, none⟩)] w fun e w' => e = .returned (.tuple #[.int .i64 (takeN u), .bool (takeB u)]) ∧ S1 w0 w' g (takeU u) ∧ Chg (· = g) w w' := by
  refine (take_any (g + 1) g u w h.f).mono ?_
  rintro e w' ⟨he, f, c, _⟩
  exact ⟨he, ⟨f, chg_below h.bel c h.hg h.bel.size, h.hg⟩, c⟩
theorem S1.give {w0 w : World} {g : Nat} {u : List Bool} (h : S1 w0 w g u) (n : Int) : Calls Try.prog 10 #[.pointer (some ⟨g + 1, 0, none⟩), .int .i64 n] w fun e w' => e = .returned (.bool (giveB u n)) ∧ S1 w0 w' g (giveU u n) := by
  refine (give_any (g + 1) g u n w h.f).mono ?_
  rintro e w' ⟨he, f, c, _⟩
  exact ⟨he, ⟨f, chg_below h.bel c h.hg h.bel.size, h.hg⟩⟩
theorem S1.lefts {w0 w : World} {g : Nat} {u : List Bool} (h : S1 w0 w g u) : Calls Try.prog 15 #[.pointer (some ⟨g + 1, 0, none⟩)] w fun e w' => e = .returned (.int .i64 (left u : Int)) ∧ w' = w := left_any (g + 1) g u w h.f
theorem S1.free {w0 w : World} {g : Nat} {u : List Bool} (h : S1 w0 w g u) (n : Int) : Calls Try.prog 17 #[.pointer (some ⟨g + 1, 0, none⟩), .int .i64 n] w fun e w' => e = .returned (.bool (fr u n)) ∧ w' = w := free_any (g + 1) g u n w h.f
/-- Behind so many givings back: the pages below are free, the others in use. -/
def given (u : List Bool) (m : Nat) : Prop := ∀ j (hj : j < u.length), 2 ≤ j → u[j] = decide (m ≤ j + 1)
theorem given_all {u : List Bool} (h : ∀ n : Nat, fr u (n : Int) = false) : given u 0 := by
  intro j hj h2
  have := h j
  rw [fr_of h2 hj] at this
  simpa using this
theorem given_step {u : List Bool} {m : Nat} (h : given u m) (hm : 3 ≤ m) (hl : m - 1 < u.length) : giveB u ((m : Int) - 1) = true ∧ given (giveU u ((m : Int) - 1)) (m + 1) := by
  obtain ⟨k, rfl⟩ : ∃ k, m = k + 1 := ⟨m - 1, by omega⟩
  have e : ((k + 1 : Nat) : Int) - 1 = (k : Int) := by omega
  rw [e]
  have hk : k < u.length := by omega
  have hh : hs u (k : Int) = true := hs_true.2 ⟨by omega, by omega⟩
  have hb : giveB u (k : Int) = true := by
    unfold giveB
    rw [hh]
    have := h k hk (by omega)
    simp [hk, this]
  refine ⟨hb, ?_⟩
  unfold giveU
  rw [hb, if_pos rfl, Int.toNat_natCast]
  intro j hj h2
  rw [List.length_set] at hj
  rw [List.getElem_set]
  split
  · rename_i q; subst q; simp
  · rename_i q
    rw [h j hj h2]
    have : (k + 1 ≤ j + 1) ↔ (k + 1 + 1 ≤ j + 1) := by omega
    simp only [this]
theorem given_same {u : List Bool} {m : Nat} (h : given u m) (hm : m < 3 ∨ u.length ≤ m - 1) : giveB u ((m : Int) - 1) = false ∧ given (giveU u ((m : Int) - 1)) (m + 1) := by
  have hh : hs u ((m : Int) - 1) = false := hs_false.2 (by omega)
  have hb : giveB u ((m : Int) - 1) = false := by unfold giveB; rw [hh]; rfl
  refine ⟨hb, ?_⟩
  unfold giveU
  rw [hb]
  intro j hj h2
  have := h j hj h2
  simp only [Bool.false_eq_true, if_false]
  rw [this]
  have : (m ≤ j + 1) ↔ (m + 1 ≤ j + 1) := by
    have : j < u.length := hj
    omega
  simp only [this]
theorem given_left {u : List Bool} {m : Nat} (h : given u m) (hm : u.length + 1 ≤ m) : left u = u.length - 2 := left_all (fun j hj h2 => by rw [h j hj h2]; exact decide_eq_false (by omega)) _ (Nat.le_refl _)
theorem fr_from2 {u : List Bool} {j : Nat} (h : fr u (j : Int) = true) : 1 < j := by
  rcases Nat.lt_or_ge j 2 with q | q
  · rw [fr_low q] at h; cases h
  · exact q
/-- What one more taking does. -/
theorem take_more {u : List Bool} {l : List Int} {last : Nat} (h : 0 < left u) (hf : ∀ j : Nat, fr u (j : Int) = true → last < j) (hl : ∀ n : Nat, (n : Int) ∈ l → fr u (n : Int) = false) :
    ∃ n : Nat, takeN u = (n : Int) ∧ takeB u = true ∧ last < n ∧ n < u.length ∧ fr (takeU u) (n : Int) = false ∧ (n : Int) ∉ l ∧ (∀ j : Nat, fr (takeU u) (j : Int) = true → n < j) ∧ (∀ n : Nat, (n : Int) ∈ l → fr (takeU u) (n : Int) = false) ∧ left (takeU u) + 1 = left u := by
  obtain ⟨n, e1, e2, e3, n2, nL, nf, nj, eL⟩ := take_some h
  refine ⟨n, e1, e2, hf n nf, nL, by rw [e3]; exact fr_set_same nL, fun q => (by rw [hl n q] at nf; cases nf), fun j hj => ?_, fun m hm => ?_, eL⟩
  · rw [e3] at hj
    rcases Nat.lt_trichotomy j n with q | q | q
    · rw [fr_set true (by omega), nj j q] at hj; cases hj
    · subst q; rw [fr_set_same nL] at hj; cases hj
    · exact q
  · rw [e3]
    by_cases q : m = n
    · subst q; exact fr_set_same nL
    · rw [fr_set true q]; exact hl m hm
set_option maxHeartbeats 4000000 in
theorem ftakes_walk (pages : Int) (us : List Int) (p : Option Addr) (c : Nat) (w : World) (hL : us.length ≤ maxLen) (hU : Ints w p us) :
    Calls Try.prog 4 #[.int .i64 pages, .slice p us.length c] w fun e w' => e = .returned (.bool true) ∧ Below w.heap.size w w' := by
  have CW := hid (works_any w)
  have HU := hid hU
  obtain ⟨N, hq, hq1⟩ := umod_nat pages 200 (by omega) (by omega)
  have CN : Hid (∀ w1 : World, Calls Try.prog 6 #[.int .i64 (N : Int)] w1 (newEnd w1 N)) := fun w1 => by
    have := new_any (N : Int) w1
    rwa [show sizeN (N : Int) = N by unfold sizeN; omega] at this
  have hLi : (us.length : Int) ≤ 9223372036854775807 := by unfold maxLen at hL; omega
  clear hU hL
  go_enter Try.func4, Try.ntmps4
  go_wp2_with (first
    | (go_at_call 19; go_loud ((with_reducible refine CW.out.mono ?_); rintro e w1 ⟨rfl, B1⟩; have HB1 := hid B1; have CN1 := hid (CN.out w1); clear B1))
    | (go_at_call 6; go_loud ((with_reducible refine CN1.out.mono ?_); rintro e w2 ⟨rfl, F2, B2, S2⟩; have HF2 := hid F2; have HB2 := hid (HB1.out.trans (B2.mono HB1.out.size)); have HS2 := hid S2; clear F2 B2 S2))
    | fail)
  clear CW CN CN1 hq
  have HS1 := hid HB1.out.size
  clear HB1
  generalize w1.heap.size = g at *
  go_loopw [6, 7] (fun v i wr => ∃ (k : Nat) (l : List Int), i = .int .i64 (k : Int) ∧ k ≤ us.length ∧ k ≤ 100 ∧ l.length ≤ k ∧ OwnI wr w2.heap.size v l ∧ (∀ x ∈ l, 2 ≤ x ∧ x < (N : Int)) ∧ Below w2.heap.size w2 wr) (fun _ i _ => 100 - (RowKit.intOf i).toNat)
  case atStart => exact ⟨0, [], rfl, Nat.zero_le _, Nat.zero_le _, Nat.zero_le _, World.ownsRow_nil _ _ _ _, fun x hx => (by simp at hx), Below.refl _ _⟩
  case round =>
    obtain ⟨k, l, rfl, hk, hk2, hln, hO, hA, hB⟩ := hrel
    have HO := hid hO
    have HA := hid hA
    have HB := hid hB
    have HZ := hid hB.size
    have HLN := hid hln
    by_cases hx : k < us.length ∧ k < 100
    · obtain ⟨hx1, hx2⟩ := hx
      have hx1' : (k : Int) < (us.length : Int) := by omega
      have hx2' : (k : Int) < 100 := by omega
      by_cases hN : N ≤ 2
      · have hN' : (N : Int) ≤ 2 := by omega
        clear hO hA hB hln
        go_wp2
        go_roundw
        case rel => exact ⟨k + 1, l, by go_num, by omega, by omega, Nat.le_succ_of_le HLN.out, HO.out, HA.out, HB.out⟩
        case measure => simp [RowKit.intOf]; omega
      · obtain ⟨D, rfl⟩ : ∃ D : Nat, N = D + 2 := ⟨N - 2, by omega⟩
        have hN' : 2 < ((D + 2 : Nat) : Int) := by omega
        obtain ⟨b, off, rfl, hv⟩ := ((HU.out.below HB2.out).below hB).at hx1
        generalize us[k] = x at *
        obtain ⟨R, hr, hr1⟩ := umod_nat x (D : Int) (by omega) (by omega)
        have hDw : IntKind.u64.wrap (D : Int) = (D : Int) := by
          have e : IntKind.u64.wrap (D : Int) = (D : Int) % 18446744073709551616 := by simp [IntKind.wrap, IntKind.bits, IntKind.signed]
          rw [e]; omega
        have hD0 : ¬ ((D : Int) = 0) := by omega
        have HCN : Hid ((wr.alloc (.cells #[.int .i64 (2 + (R : Int))] 3)).cell? ⟨wr.heap.size, 0, none⟩ = some (.int .i64 (2 + (R : Int)))) := by
          show _ = _
          rw [cell_of_row _ _ 0 _ _ _ (heap_alloc_new wr _)]
          rfl
        have HLl : Hid (l.length < 1000000) := by show _ < _; omega
        have HA' : Hid (∀ y ∈ l ++ [2 + (R : Int)], 2 ≤ y ∧ y < ((D + 2 : Nat) : Int)) := by
          intro y hy
          rcases List.mem_append.1 hy with hy | hy
          · exact HA.out y hy
          · rw [List.mem_singleton] at hy
            subst hy
            omega
        clear hO hA hB hln
        go_wp2_with (first
          | (at_builtin; go_loud (refine appI w2.heap.size _ _ _ l (2 + (R : Int)) rfl rfl rfl _ _ rfl ?hO ?hX ?hl ?hb ?_; (case hO => exact World.ownsRow.alloc HO.out _); (case hX => exact HCN.out); (case hl => exact HLl.out); (case hb => have := HZ.out; simp; omega); intro v' w' O' G'; have HO' := hid O'; have HG' := hid G'; clear O' G'; try go_frame))
          | fail)
        go_roundw
        case rel => exact ⟨k + 1, l ++ [2 + (R : Int)], by go_num, by omega, by omega, by rw [List.length_append]; exact Nat.succ_le_succ HLN.out, HO'.out, HA'.out, below_own (HB.out.alloc HZ.out _) HG'.out (by have := HZ.out; simp; omega) (fun j hj => (World.ownsRow.lt HO.out j hj).1)⟩
        case measure => simp [RowKit.intOf]; omega
    · have HX := hid hx
      obtain ⟨pl, cl, rfl, hI, hpl⟩ := hO.ints
      have hFr := HF2.out.below hB
      have hlen : (List.replicate N false).length = N := List.length_replicate
      obtain ⟨hE, hM⟩ := only_right (u := List.replicate N false) (l := l) (by rw [hlen]; exact hA)
      have hne : ∀ b off, pl = some ⟨b, off, none⟩ → b ≠ g := fun b off e => by have := hpl b off e; have := HF2.out.lt; omega
      have CO := only_any (g + 1) g _ pl l cl wr hFr hI (by unfold maxLen; omega) (fun _ => hne)
      rw [hE] at CO
      have hul : (onlyU (List.replicate N false) l).length = N := by rw [onlyU_len, hlen]
      generalize onlyU (List.replicate N false) l = u at *
      have HBr : Hid (Below w.heap.size w wr) := HB2.out.trans (hB.mono HB2.out.size)
      have HCO : Hid (Calls Try.prog 12 #[.pointer (some ⟨g + 1, 0, none⟩), .slice pl l.length cl] wr fun e w' => e = .returned (.int .i64 0) ∧ S1 w w' g u ∧ Ints w' pl l) := by
        refine CO.mono ?_
        rintro e w' ⟨he, f, ch, _⟩
        exact ⟨he, ⟨f, chg_below HBr.out ch HS1.out HBr.out.size, HS1.out⟩, hI.chg ch (fun _ b off e q => hne b off e q)⟩
      have HNE := hid hne
      have HUL := hid hul
      have HM := hid hM
      have HAl : Hid (left u ≤ N) := by show _ ≤ _; rw [← hul]; exact leftTo_le u _
      have HLm : Hid (l.length ≤ 100) := by show _ ≤ _; omega
      have hlI : (l.length : Int) ≤ 100 := by omega
      clear hO hA hB hln hI hpl hFr hM hE hul CO hne HF2 HB2 HS2 HO HA HB HZ HLN HBr HU
      have hdec : (us.length : Int) ≤ (k : Int) ∨ ((k : Int) < (us.length : Int) ∧ (100 : Int) ≤ (k : Int)) := by have := HX.out; omega
      rcases hdec with hd | ⟨hd1, hd2⟩
      all_goals
        go_wp2_with (first
          | (go_at_call 12; go_loud ((with_reducible refine HCO.out.mono ?_); rintro e w3 ⟨rfl, s3, i3⟩; have HS3 := hid s3; have HI3 := hid i3; have M1 := hid s3.lefts; clear s3 i3 HCO))
          | (go_at_call 15; go_loud ((with_reducible refine M1.out.mono ?_); rintro e w4 ⟨rfl, hw⟩; subst w4))
          | fail)
        clear M1
        have hAI : (left u : Int) ≤ 4096 := by have := HAl.out; have := HUL.out; omega
        go_loopw [9, 10] (fun la i wr => ∃ (q last : Nat) (v : List Bool), la = .int .i64 (last : Int) ∧ i = .int .i64 (q : Int) ∧ q + left v = left u ∧ v.length = N ∧ 1 ≤ last ∧ last < 4096 ∧ (∀ j : Nat, fr v (j : Int) = true → last < j) ∧ (∀ n : Nat, (n : Int) ∈ l → fr v (n : Int) = false) ∧ S1 w wr g v ∧ Ints wr pl l) (fun _ i _ => left u - (RowKit.intOf i).toNat)
        case atStart => exact ⟨0, 1, u, rfl, rfl, by omega, HUL.out, by omega, by omega, fun j hj => fr_from2 hj, HM.out, HS3.out, HI3.out⟩
        case round =>
          clear HS3 HI3
          obtain ⟨q, last, v, rfl, rfl, hqe, hvl, hla, hla2, hvf, hvn, hS, hI⟩ := hrel
          have HVL := hid hvl
          have HVF := hid hvf
          have HVN := hid hvn
          have HS := hid hS
          have HI := hid hI
          have HQE := hid hqe
          by_cases hx : q < left u
          · obtain ⟨n, e1, e2, n1, n2, n3, n4, n5, n6, n7⟩ := take_more (u := v) (l := l) (by omega) hvf hvn
            have T := hS.take
            rw [e1, e2] at T
            have HT := hid T
            have HFr : Hid (∀ w5 : World, S1 w w5 g (takeU v) → Calls Try.prog 17 #[.pointer (some ⟨g + 1, 0, none⟩), .int .i64 (n : Int)] w5 fun e w' => e = .returned (.bool false) ∧ w' = w5) := fun w5 t => by
              have := t.free (n : Int)
              rwa [n3] at this
            have hvl2 : (takeU v).length = N := by rw [takeU_len]; exact hvl
            have HV2 := hid hvl2
            have H5 := hid n5
            have H6 := hid n6
            have H7 := hid n7
            have H4 := hid n4
            have m1 : (last : Int) < (n : Int) := by omega
            have m2 : (n : Int) < (N : Int) := by omega
            have HQ1 : Hid (q + 1 + left (takeU v) = left u) := by show _ = _; omega
            have hxi : (q : Int) < (left u : Int) := by omega
            clear hqe hvl hvf hvn hS hI T e1 e2 n3 n4 n5 n6 n7 hvl2
            generalize takeU v = v' at *
            go_wp2_with (first
              | (go_at_call 8; go_loud ((with_reducible refine HT.out.mono ?_); rintro e w5 ⟨rfl, s5, c5⟩; have HS5 := hid s5; have HI5 := hid (HI.out.chg c5 (fun _ b off e q => HNE.out b off e q)); have M2 := hid (HFr.out w5 s5); clear s5 c5 HT))
              | (go_at_call 17; go_loud ((with_reducible refine M2.out.mono ?_); rintro e w6 ⟨rfl, hw⟩; subst w6))
              | fail)
            clear M2 HFr
            go_loopw [13] (fun i wq => ∃ k : Nat, i = .int .i64 (k : Int) ∧ k ≤ l.length ∧ wq = w5) (fun i _ => l.length - (RowKit.intOf i).toNat)
            case atStart => exact ⟨0, rfl, Nat.zero_le _, rfl⟩
            case round =>
              obtain ⟨k2, rfl, hk3, hw⟩ := hrel
              subst hw
              by_cases hy : k2 < l.length
              · obtain ⟨b, off, rfl, hv⟩ := HI5.out.at hy
                have hnn : ¬ (l[k2] = (n : Int)) := fun e => H4.out (by rw [← e]; exact List.getElem_mem hy)
                have hnb : (l[k2] == (n : Int)) = false := by simpa using hnn
                generalize l[k2] = y at *
                go_wp2
                go_roundw
                case rel => exact ⟨k2 + 1, by go_num, by omega, trivial⟩
                case measure => simp [RowKit.intOf]; omega
              · obtain rfl : k2 = l.length := by omega
                go_wp2
                go_roundw
                case rel => exact ⟨q + 1, n, v', rfl, by go_num, HQ1.out, HV2.out, by omega, by have := HUL.out; omega, H5.out, H6.out, HS5.out, HI5.out⟩
                case measure => simp [RowKit.intOf]; omega
          · have hv0 : left v = 0 := by omega
            obtain ⟨e1, e2, e3, e4⟩ := take_none hv0
            have T := hS.take
            rw [e1, e2, e3] at T
            have HT := hid T
            have HG0 := hid (given_all e4)
            have HLf : Hid (∀ w5 : World, S1 w w5 g v → Calls Try.prog 15 #[.pointer (some ⟨g + 1, 0, none⟩)] w5 fun e w' => e = .returned (.int .i64 0) ∧ w' = w5) := fun w5 t => by
              have := t.lefts
              rwa [hv0] at this
            have hxi : ¬ ((q : Int) < (left u : Int)) := by omega
            clear hqe hvl hvf hvn hS hI T e1 e2 e3 e4 hv0 HVF HVN HQE
            go_wp2_with (first
              | (go_at_call 8; go_loud ((with_reducible refine HT.out.mono ?_); rintro e w5 ⟨rfl, s5, c5⟩; have HS5 := hid s5; have M2 := hid (HLf.out w5 s5); clear s5 c5 HT))
              | (go_at_call 15; go_loud ((with_reducible refine M2.out.mono ?_); rintro e w6 ⟨rfl, hw⟩; subst w6))
              | fail)
            clear M2 HLf HS HI
            go_loopw [16, 17] (fun gi i wq => ∃ (m : Nat) (x : List Bool), i = .int .i64 ((m : Int) - 1) ∧ m ≤ N + 2 ∧ gi = .int .i64 ((min (m - 1) N - 2 : Nat) : Int) ∧ x.length = N ∧ given x m ∧ S1 w wq g x) (fun _ i _ => N + 2 - (RowKit.intOf i + 1).toNat)
            case atStart => exact ⟨0, v, rfl, by omega, by simp, HVL.out, HG0.out, HS5.out⟩
            case round =>
              clear HG0 HS5
              obtain ⟨m, x, rfl, hm, rfl, hxl, hgx, hSx⟩ := hrel
              have HXL := hid hxl
              have HGX := hid hgx
              have HSX := hid hSx
              by_cases hy : m ≤ N + 1
              · by_cases hz : 3 ≤ m ∧ m - 1 < N
                · obtain ⟨g1, g2⟩ := given_step hgx hz.1 (by omega)
                  have T := hSx.give ((m : Int) - 1)
                  rw [g1] at T
                  have HT := hid T
                  have HG2 := hid g2
                  have HL2 : Hid ((giveU x ((m : Int) - 1)).length = N) := by show _ = _; rw [giveU_len]; exact hxl
                  have he : min (m - 1) N - 2 = m - 3 := by omega
                  have HE : Hid ((((min (m + 1 - 1) N - 2 : Nat)) : Int) = ((m - 3 : Nat) : Int) + 1) := by show _ = _; omega
                  rw [he]
                  have hyi : (m : Int) - 1 ≤ (N : Int) := by omega
                  obtain ⟨t, ht⟩ : ∃ t, m - 3 = t := ⟨_, rfl⟩
                  rw [ht] at HE ⊢
                  have htb : (t : Int) < 1000 := by omega
                  clear hxl hgx hSx T g1 g2 he ht hz
                  generalize giveU x ((m : Int) - 1) = x' at *
                  go_wp2_with (first
                    | (go_at_call 10; go_loud ((with_reducible refine HT.out.mono ?_); rintro e w7 ⟨rfl, s7⟩; have HS7 := hid s7; clear s7 HT))
                    | fail)
                  go_roundw
                  case rel => exact ⟨m + 1, x', by go_num, by omega, by rw [HE.out], HL2.out, HG2.out, HS7.out⟩
                  case measure => simp [RowKit.intOf]; omega
                · obtain ⟨g1, g2⟩ := given_same hgx (by omega)
                  have T := hSx.give ((m : Int) - 1)
                  rw [g1] at T
                  have HT := hid T
                  have HG2 := hid g2
                  have HL2 : Hid ((giveU x ((m : Int) - 1)).length = N) := by show _ = _; rw [giveU_len]; exact hxl
                  have HE : Hid ((((min (m + 1 - 1) N - 2 : Nat)) : Int) = ((min (m - 1) N - 2 : Nat) : Int)) := by show _ = _; omega
                  have hyi : (m : Int) - 1 ≤ (N : Int) := by omega
                  generalize ((min (m - 1) N - 2 : Nat) : Int) = t at *
                  clear hxl hgx hSx T g1 g2 hz
                  generalize giveU x ((m : Int) - 1) = x' at *
                  go_wp2_with (first
                    | (go_at_call 10; go_loud ((with_reducible refine HT.out.mono ?_); rintro e w7 ⟨rfl, s7⟩; have HS7 := hid s7; clear s7 HT))
                    | fail)
                  go_roundw
                  case rel => exact ⟨m + 1, x', by go_num, by omega, by rw [HE.out], HL2.out, HG2.out, HS7.out⟩
                  case measure => simp [RowKit.intOf]; omega
              · have hlf := given_left hgx (by omega)
                rw [hxl] at hlf
                have T := hSx.lefts
                rw [hlf] at T
                have HT := hid T
                have HBx := hid hSx.bel
                have he : min (m - 1) N - 2 = N - 2 := by omega
                rw [he]
                have hyi : ¬ ((m : Int) - 1 ≤ (N : Int)) := by omega
                clear hxl hgx hSx T hlf he
                by_cases hN : 2 < N
                · obtain ⟨D, rfl⟩ : ∃ D : Nat, N = D + 2 := ⟨N - 2, by omega⟩
                  have e2 : D + 2 - 2 = D := by omega
                  rw [e2] at HT ⊢
                  have hD0 : (0 : Int) < (D : Int) := by omega
                  have hD1 : 0 < D := by omega
                  clear e2
                  go_wp2_with (first
                    | (go_at_call 15; go_loud ((with_reducible refine HT.out.mono ?_); rintro e w7 ⟨rfl, hw⟩; subst w7))
                    | fail)
                  go_ret
                  exact ⟨rfl, HBx.out⟩
                · have e2 : N - 2 = 0 := by omega
                  rw [e2] at HT ⊢
                  have hNi : (N : Int) - 2 ≤ 0 := by omega
                  have hz0 : ((0 : Nat) : Int) = 0 := rfl
                  rw [hz0] at HT ⊢
                  clear e2
                  by_cases hN2 : N = 2
                  · subst hN2
                    go_wp2_with (first
                      | (go_at_call 15; go_loud ((with_reducible refine HT.out.mono ?_); rintro e w7 ⟨rfl, hw⟩; subst w7))
                      | fail)
                    go_ret
                    exact ⟨rfl, HBx.out⟩
                  · have hN3 : (N : Int) < 2 := by omega
                    go_wp2_with (first
                      | (go_at_call 15; go_loud ((with_reducible refine HT.out.mono ?_); rintro e w7 ⟨rfl, hw⟩; subst w7))
                      | fail)
                    go_ret
                    exact ⟨rfl, HBx.out⟩
end Go.Proofs.Ytehfbdhkicdfiaa
