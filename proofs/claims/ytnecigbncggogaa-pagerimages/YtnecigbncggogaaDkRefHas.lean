/- What the document's has and Read do. No conditions. -/
import Derived.Test.YtnecigbncggogaaDkRef
import Derived.Test.YtnecigbncggogaaDkRefLoad
namespace Go.Proofs.Ytnecigbncggogaa
open Go.RowKit
set_option linter.unusedVariables false
set_option maxRecDepth 20000

theorem flat_byts {w : World} {lb : Nat} {L : Int → List UInt8} {p : Nat} (h : Blk w lb (bcells (flatL L p)) 5) (hl : ∀ k, (L k).length = 512) {m : Nat} (hm : m < p) : Byts w (some ⟨lb, m * 512, none⟩) (L (m : Int)) := by
  refine Or.inr ⟨lb, m * 512, rfl, fun i hi => ?_⟩
  rw [hl] at hi
  have e := flatL_at hl m p hm i hi
  have hi' : i < (L (m : Int)).length := by rw [hl]; exact hi
  rw [h.cell, bcells, List.getElem?_map, e, List.getElem?_eq_getElem hi']
  rfl
set_option maxHeartbeats 1000000 in
theorem rhas_any (rb lb : Nat) (pv : Value) (rp : RP) (d : Dk) (m : Nat) (w : World) (h : RDisk w rb lb pv rp d) (hm : m < d.pages) (hk : d.pend.length < 1000000) :
    Calls Try.prog 56 #[.pointer (some ⟨rb, 0, none⟩), .int .i64 (m : Int)] w fun e w' => ∃ v, e = .returned v ∧ OwnB w' w.heap.size v (d.has (m : Int)) ∧ Below w.heap.size w w' := by
  obtain ⟨pp, pc, rfl, hpc⟩ := own_form h.pd
  obtain ⟨c0, c1, c2, c3, fz⟩ := h.cells
  have H := hid h
  have hp := h.ok.pages
  have HB0 := hid (flat_byts h.lm h.ok.last hm)
  have HK := hid hk
  have hm1 : (m : Int) < 4096 := by omega
  obtain ⟨L, hL⟩ : ∃ L, L = d.pages * 512 := ⟨_, rfl⟩
  rw [← hL] at c0
  have hm2 : m * 512 + 512 ≤ L := by omega
  have hm3 : (L : Int) ≤ 2097152 := by omega
  clear hL
  have HN : Hid (d.has (m : Int) = hasIn (m : Int) (d.last (m : Int)) d.pend) := rfl
  have HL : Hid ((d.has (m : Int)).length = 512) := h.ok.has _
  have HE := hid h.pe
  have HRL := hid h.len
  generalize d.has (m : Int) = hs at *
  clear h hk hp
  go_enter Try.func56, Try.ntmps56
  go_wp2
  go_loopw [5, 6] (fun b i wr => ∃ (k g off c : Nat), i = .int .i64 (k : Int) ∧ k ≤ d.pend.length ∧ b = .slice (some ⟨g, off, none⟩) 512 c ∧ Byts w (some ⟨g, off, none⟩) (hasIn (m : Int) (d.last (m : Int)) (d.pend.take k)) ∧ wr = w) (fun _ i _ => d.pend.length - (RowKit.intOf i).toNat)
  case atStart => exact ⟨0, lb, m * 512, L - m * 512, rfl, Nat.zero_le _, by rw [Nat.add_sub_cancel_left], HB0.out, rfl⟩
  case round =>
    clear HB0
    obtain ⟨k, g, off, c, rfl, hk, rfl, hB, rfl⟩ := hrel
    have HB := hid hB
    clear hB
    by_cases hx : k < d.pend.length
    · have hx' : k < rp.length := by rw [HRL.out]; exact hx
      obtain ⟨g2, cap2, hpv, h1, h2, h3, h4⟩ := H.out.wrote hx'
      simp only [Value.slice.injEq] at hpv
      obtain ⟨rfl, _, rfl⟩ := hpv
      have hmem : rp[k] ∈ rp := List.getElem_mem hx'
      have HW := hid (H.out.pb _ hmem)
      have HT := hid (hasIn_take (m : Int) (d.last (m : Int)) d.pend k hx)
      have he : d.pend[k] = rp[k].1 := by simp [HE.out]
      rw [he] at HT
      have hkb : (k : Int) < 1000000 := by have := HK.out; omega
      clear h1 h2 he hmem hpc
      generalize rp[k] = x at *
      obtain ⟨⟨xn, xb⟩, xg, xc⟩ := x
      simp only at HT HW h3 h4
      by_cases hn : xn = (m : Int)
      · rw [if_pos hn] at HT
        subst hn
        go_wp2
        go_roundw
        case rel => exact ⟨k + 1, xg, 0, xc, by go_num, by omega, rfl, by rw [HT.out]; exact HW.out, trivial⟩
        case measure => simp [RowKit.intOf]; omega
      · rw [if_neg hn] at HT
        have hnb : (xn == (m : Int)) = false := by simpa using hn
        go_wp2
        go_roundw
        case rel => exact ⟨k + 1, g, off, c, by go_num, by omega, rfl, by rw [HT.out]; exact HB.out, trivial⟩
        case measure => simp [RowKit.intOf]; omega
    · obtain rfl : k = d.pend.length := by omega
      have HX : Hid (Byts (wr.alloc (.cells #[] 5)) (some ⟨g, off, none⟩) hs) := by
        have q := HB.out
        rw [List.take_length, ← HN.out] at q
        exact q.alloc _
      have HO := hid (own_new wr)
      have HBl : Hid (Below wr.heap.size wr (wr.alloc (.cells #[] 5))) := (Below.refl _ _).alloc (Nat.le_refl _) _
      clear HB hpc
      go_wp2_with (first
        | (at_builtin; go_loud (refine appBlk wr.heap.size _ _ _ [] hs rfl rfl rfl _ _ _ _ rfl ?hn ?hO ?hX ?hm ?hl ?hb ?_; (case hn => exact HL.out.symm); (case hO => exact HO.out); (case hX => exact HX.out); (case hm => rw [HL.out]; omega); (case hl => rw [HL.out]; simp); (case hb => simp); intro v' w' O' G' A'; have HG' := hid G'; have HO' := hid O'; clear O' G' A'; try go_frame))
        | fail)
      go_ret
      exact ⟨_, rfl, HO'.out, below_own HBl.out HG'.out (by simp) (fun k hk => (World.ownsRow.lt HO.out k hk).1)⟩
set_option maxHeartbeats 1000000 in
theorem rread_bad (rb lb : Nat) (pv : Value) (rp : RP) (d : Dk) (n : Int) (w : World) (h : RDisk w rb lb pv rp d) (hr : d.reach n ≠ 0) :
    Calls Try.prog 67 #[.pointer (some ⟨rb, 0, none⟩), .int .i64 n] w fun e w' => e = .returned (.tuple #[.slice none 0 0, .int .i64 (d.reach n)]) ∧ w' = w := by
  obtain ⟨c0, c1, c2, c3, fz⟩ := h.cells
  have P := rpages_any rb lb pv rp d w h
  have hrr : d.reach n = if d.down then 9 else if n < 0 ∨ (d.pages : Int) ≤ n then 2 else 0 := rfl
  generalize d.reach n = r at *
  clear h
  cases hd : d.down
  · rw [hd] at c3 hrr
    simp only [Bool.false_eq_true, if_false] at hrr
    by_cases h1 : n < 0
    · rw [if_pos (Or.inl h1)] at hrr
      subst hrr
      go_enter Try.func67, Try.ntmps67
      go_wp2
      go_ret2
      exact ⟨rfl, rfl⟩
    · by_cases h2 : (d.pages : Int) ≤ n
      · rw [if_pos (Or.inr h2)] at hrr
        subst hrr
        go_enter Try.func67, Try.ntmps67
        go_wp2_with (first
          | (go_at_call 45; with_reducible refine P.mono ?_; rintro e w3 ⟨rfl, hw⟩; subst hw)
          | fail)
        go_ret2
        exact ⟨rfl, rfl⟩
      · rw [if_neg (by omega)] at hrr
        exact absurd hrr hr
  · rw [hd] at c3 hrr
    simp only [if_true] at hrr
    subst hrr
    go_enter Try.func67, Try.ntmps67
    go_wp2
    go_ret2
    exact ⟨rfl, rfl⟩
set_option maxHeartbeats 1000000 in
theorem rread_ok (rb lb : Nat) (pv : Value) (rp : RP) (d : Dk) (n : Int) (w : World) (h : RDisk w rb lb pv rp d) (hr : d.reach n = 0) (hk : d.pend.length < 1000000) :
    Calls Try.prog 67 #[.pointer (some ⟨rb, 0, none⟩), .int .i64 n] w fun e w' => ∃ v, e = .returned (.tuple #[v, .int .i64 0]) ∧ OwnB w' w.heap.size v (d.has n) ∧ Below w.heap.size w w' := by
  obtain ⟨c0, c1, c2, c3, fz⟩ := h.cells
  have P := rpages_any rb lb pv rp d w h
  obtain ⟨hd, h0, h1⟩ := Dk.reach_ok hr
  rw [hd] at c3
  obtain ⟨m, rfl⟩ := Int.eq_ofNat_of_zero_le h0
  have R := rhas_any rb lb pv rp d m w h (by omega) hk
  clear h hr hk
  generalize d.has (m : Int) = x at *
  go_enter Try.func67, Try.ntmps67
  go_wp2_with (first
    | (go_at_call 45; with_reducible refine P.mono ?_; rintro e w3 ⟨rfl, hw⟩; subst hw)
    | (go_at_call 56; with_reducible refine R.mono ?_; rintro e w4 ⟨v4, rfl, O4, B4⟩; have HO4 := hid O4; have HB4 := hid B4; clear O4 B4)
    | fail)
  go_ret2
  exact ⟨_, rfl, HO4.out, HB4.out⟩
end Go.Proofs.Ytnecigbncggogaa
