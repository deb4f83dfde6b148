/- What PagerRises does: whatever numbers it is called with, it answers true and leaves memory as it was. No conditions. -/
import Derived.Test.YtnecigbncggogaaPgWorks
namespace Go.Proofs.Ytnecigbncggogaa
open Go.RowKit
set_option linter.unusedVariables false
set_option maxRecDepth 20000

theorem FW.swap {s : Nat} {w0 w : World} {db pb qb P c : Nat} {H : Int → List UInt8} {k k' : Pk} {Z : Nat → Prop} (h : FW s w0 w db pb P H c k Z) (Q : Pag w qb db k') (hz : Z qb) (hs : s ≤ qb) : FW s w0 w db qb P H c k' Z := ⟨h.ex, Q, hz, hs⟩
theorem Ints.at {w : World} {p : Option Addr} {l : List Int} (h : Ints w p l) {k : Nat} (hk : k < l.length) : ∃ g off, p = some ⟨g, off, none⟩ ∧ w.cell? ⟨g, off + k, none⟩ = some (.int .i64 l[k]) := by
  rcases h with rfl | ⟨g, off, hp, hc⟩
  · simp at hk
  · exact ⟨g, off, hp, hc k hk⟩
theorem root7 (P qn : Nat) (hP : P = 9) (h : qn < 7) : rootOk (2 + qn) P = true := by subst hP; simp [rootOk]; omega
set_option maxHeartbeats 8000000 in
theorem prises_walk (l : List Int) (p : Option Addr) (c : Nat) (w : World) (hL : Ints w p l) (hl : l.length ≤ maxLen) :
    Calls Try.prog 7 #[.slice p l.length c] w fun e w' => e = .returned (.bool true) ∧ Below w.heap.size w w' := by
  have C1 := hid (pworks_any w)
  have C2 : Hid (∀ w1 : World, Calls Try.prog 23 #[.int .i64 9] w1 fun e w' => ∃ db pb Z, e = .returned (.tuple #[.pointer (some ⟨db, 0, none⟩), .pointer (some ⟨pb, 0, none⟩)]) ∧ FW w1.heap.size w1 w' db pb 9 H0 0 ⟨1, 0, false⟩ Z) := fun w1 => fresh_any w1 9 (by decide) (by decide)
  have HL := hid hL
  clear hL
  go_enter Try.func7, Try.ntmps7
  go_wp2_with (first
    | (go_at_call 22; go_loud (with_reducible refine C1.out.mono ?_); rintro e w1 ⟨rfl, B1⟩; have HB1 := hid B1; clear B1)
    | (go_at_call 23; go_loud (with_reducible refine (C2.out _).mono ?_); rintro e w2 ⟨db, pb, Z, rfl, D2⟩; have HD2 := hid D2; clear D2)
    | fail)
  clear C1 C2
  go_loopw [4, 5] (fun pv i wr => ∃ (k pb r : Nat) (H : Int → List UInt8) (Z : Nat → Prop), k ≤ l.length ∧ k ≤ 20 ∧ i = .int .i64 (k : Int) ∧ pv = .pointer (some ⟨pb, 0, none⟩) ∧ FW w1.heap.size w1 wr db pb 9 H 0 ⟨k + 1, r, false⟩ Z ∧ Heads H 9 (k + 1) r) (fun _ i _ => 20 - (RowKit.intOf i).toNat)
  case atStart => exact ⟨0, pb, 0, H0, Z, Nat.zero_le _, by decide, rfl, rfl, HD2.out, heads_zero 9⟩
  case round =>
    clear HD2
    obtain ⟨k, pc, r, H, Y, hk, hk2, rfl, rfl, D, hH⟩ := hrel
    by_cases hx1 : k < l.length
    · by_cases hx2 : k < 20
      · have hBw : Below w.heap.size w wr := HB1.out.trans (D.bel.mono HB1.out.size)
        obtain ⟨g, off, rfl, hc⟩ := (HL.out.below hBw).at hx1
        obtain ⟨q, hq⟩ : ∃ q, wrap64 ((IntKind.u64.wrap l[k]).tmod 7) = q := ⟨_, rfl⟩
        have hqb := umod_bd l[k] 7 (by omega) (by omega)
        rw [hq] at hqb
        obtain ⟨hq0, hq1⟩ := hqb
        obtain ⟨qn, rfl⟩ : ∃ qn : Nat, q = (qn : Int) := ⟨q.toNat, by omega⟩
        generalize l[k] = ln at *
        have HD := hid D
        have HH := hid hH
        have HHn := hid (heads_next hH (root7 9 qn rfl (by omega)))
        have CR : Hid (∀ (w3 : World) (qb g r : Nat), Pag w3 qb db ⟨g, r, false⟩ → Calls Try.prog 20 #[.pointer (some ⟨qb, 0, none⟩)] w3 fun e w' => e = .returned (.tuple #[.int .i64 (r : Int), .int .i64 (g : Int)]) ∧ Below w3.heap.size w3 w') := fun w3 qb g r h => proot_any qb ⟨g, r, false⟩ h
        have CC : Hid (∀ (w3 : World), FW w1.heap.size w1 w3 db pc 9 H 0 ⟨k + 1, r, false⟩ Y → Calls Try.prog 26 #[.pointer (some ⟨pc, 0, none⟩), .int .i64 (2 + (qn : Int))] w3 fun e w' => e = .returned (.int .i64 0) ∧ FW w1.heap.size w1 w' db pc 9 (putP H (((k + 1 + 1) % 2 : Nat) : Int) (headPage (k + 1 + 1) (2 + qn))) 0 ⟨k + 1 + 1, 2 + qn, false⟩ Y) := fun w3 h => by
          have := h.commit (2 + qn) (root7 9 qn rfl (by omega)) (by decide) rfl (show k + 1 < _ by omega) (by decide)
          rw [show (((2 + qn : Nat)) : Int) = 2 + (qn : Int) by omega] at this
          exact this.mono (fun e w' x => ⟨x.1, x.2.1⟩)
        generalize putP H (((k + 1 + 1) % 2 : Nat) : Int) (headPage (k + 1 + 1) (2 + qn)) = H' at *
        have CO : Hid (∀ (w3 : World), FW w1.heap.size w1 w3 db pc 9 H' 0 ⟨k + 1 + 1, 2 + qn, false⟩ Y → Calls Try.prog 29 #[.pointer (some ⟨db, 0, none⟩)] w3 fun e w' => ∃ qb, e = .returned (.tuple #[.pointer (some ⟨qb, 0, none⟩), .int .i64 0]) ∧ Pag w' qb db ⟨k + 1 + 1, 2 + qn, false⟩ ∧ Below w3.heap.size w3 w' ∧ w3.heap.size ≤ qb) := fun w3 h => h.open_ HHn.out (by decide) (by decide) (by omega)
        have hx1' : (k : Int) < (l.length : Int) := by omega
        have hx2' : (k : Int) < 20 := by omega
        clear D hH hBw
        have hmod : k % 3 = 2 ∨ ¬ k % 3 = 2 := Decidable.em _
        rcases hmod with hmod | hmod
        all_goals
          go_wp2_with (first
            | (go_at_call 20; first
                | (with_reducible refine (CR.out _ qb _ _ HQ6.out).mono ?_; rintro e w7 ⟨rfl, B7⟩; have HD7 := hid (HD6.out.grow B7); have HQ7 := hid (HQ6.out.below B7); clear B7)
                | (with_reducible refine (CR.out _ pc _ _ HD4.out.pag).mono ?_; rintro e w5 ⟨rfl, B5⟩; have HD5 := hid (HD4.out.grow B5); clear B5)
                | (with_reducible refine (CR.out _ pc _ _ HD.out.pag).mono ?_; rintro e w3 ⟨rfl, B3⟩; have HD3 := hid (HD.out.grow B3); clear B3))
            | (go_at_call 26; go_loud (with_reducible refine (CC.out _ HD3.out).mono ?_); rintro e w4 ⟨rfl, D4⟩; have HD4 := hid D4; clear D4)
            | (go_at_call 29; go_loud (with_reducible refine (CO.out _ HD5.out).mono ?_); rintro e w6 ⟨qb, rfl, Q6, B6, G6⟩; have HQ6 := hid Q6; have HD6 := hid (HD5.out.add B6); have HZ6 := hid (show w5.heap.size ≤ qb ∧ qb < w6.heap.size from ⟨G6, Blk.lt Q6⟩); have HS6 := hid (Nat.le_trans HD5.out.size G6); clear Q6 B6 G6)
            | fail)
        · go_roundw
          case rel => exact ⟨k + 1, qb, 2 + qn, H', _, hx1, hx2, rfl, rfl, HD7.out.swap HQ7.out (Or.inr HZ6.out) HS6.out, HHn.out⟩
          case measure => simp [RowKit.intOf]; omega
        · go_roundw
          case rel => exact ⟨k + 1, pc, 2 + qn, H', _, hx1, hx2, rfl, rfl, HD7.out, HHn.out⟩
          case measure => simp [RowKit.intOf]; omega
      · obtain rfl : k = 20 := by omega
        have HD := hid D
        have hx1' : (20 : Int) < (l.length : Int) := by omega
        clear D
        go_wp2
        go_ret
        exact ⟨rfl, HB1.out.trans (HD.out.bel.mono HB1.out.size)⟩
    · have hx1' : ¬ ((k : Int) < (l.length : Int)) := by omega
      have HD := hid D
      clear D
      go_wp2
      go_ret
      exact ⟨rfl, HB1.out.trans (HD.out.bel.mono HB1.out.size)⟩
end Go.Proofs.Ytnecigbncggogaa
