/- The document's Write, case by case. Condition: fewer than a million writes are pending. -/
import Derived.Test.YtnecigbncggogaaDkRefWr
namespace Go.Proofs.Ytnecigbncggogaa
open Go.RowKit
set_option linter.unusedVariables false
set_option maxRecDepth 20000

set_option maxHeartbeats 1000000 in
theorem rwrite_reach (rb lb : Nat) (pv : Value) (rp : RP) (d : Dk) (n : Int) (sp : Option Addr) (bl cap : Nat) (w : World) (h : RDisk w rb lb pv rp d) (hr : d.reach n ≠ 0) :
    Calls Try.prog 46 #[.pointer (some ⟨rb, 0, none⟩), .int .i64 n, .slice sp bl cap] w fun e w' => e = .returned (.int .i64 (d.reach n)) ∧ w' = w := by
  obtain ⟨c0, c1, c2, c3, fz⟩ := h.cells
  have P := rpages_any rb lb pv rp d w h
  have hrr : d.reach n = if d.down then 9 else if n < 0 ∨ (d.pages : Int) ≤ n then 2 else 0 := rfl
  generalize d.reach n = r at *
  clear h
  cases hd : d.down
  · rw [hd] at c3 hrr
    simp only [Bool.false_eq_true, if_false] at hrr
    by_cases h1 : n < 0
    · rw [if_pos (Or.inl h1)] at hrr
      subst hrr
      go_enter Try.func46, Try.ntmps46
      go_wp2
      go_ret
      exact ⟨rfl, rfl⟩
    · by_cases h2 : (d.pages : Int) ≤ n
      · rw [if_pos (Or.inr h2)] at hrr
        subst hrr
        go_enter Try.func46, Try.ntmps46
        go_wp2_with (first
          | (go_at_call 45; with_reducible refine P.mono ?_; rintro e w3 ⟨rfl, hw⟩; subst hw)
          | fail)
        go_ret
        exact ⟨rfl, rfl⟩
      · rw [if_neg (by omega)] at hrr
        exact absurd hrr hr
  · rw [hd] at c3 hrr
    simp only [if_true] at hrr
    subst hrr
    go_enter Try.func46, Try.ntmps46
    go_wp2
    go_ret
    exact ⟨rfl, rfl⟩
set_option maxHeartbeats 1000000 in
theorem rwrite_len (rb lb : Nat) (pv : Value) (rp : RP) (d : Dk) (n : Int) (sp : Option Addr) (bl cap : Nat) (w : World) (h : RDisk w rb lb pv rp d) (hr : d.reach n = 0) (hb : bl ≠ 512) :
    Calls Try.prog 46 #[.pointer (some ⟨rb, 0, none⟩), .int .i64 n, .slice sp bl cap] w fun e w' => e = .returned (.int .i64 3) ∧ w' = w := by
  obtain ⟨c0, c1, c2, c3, fz⟩ := h.cells
  have P := rpages_any rb lb pv rp d w h
  obtain ⟨hd, h0, h1⟩ := Dk.reach_ok hr
  rw [hd] at c3
  have hq : ((bl : Int) == 512) = false := by simp; omega
  have hq2 : ¬ ((bl : Int) = 512) := by omega
  clear h hr hb
  go_enter Try.func46, Try.ntmps46
  go_wp2_with (first
    | (go_at_call 45; with_reducible refine P.mono ?_; rintro e w3 ⟨rfl, hw⟩; subst hw)
    | fail)
  go_ret
  exact ⟨rfl, rfl⟩
set_option maxHeartbeats 1000000 in
theorem rwrite_fails (rb lb : Nat) (pv : Value) (rp : RP) (d : Dk) (n : Int) (sp : Option Addr) (cap : Nat) (w : World) (h : RDisk w rb lb pv rp d) (hr : d.reach n = 0) (ha : d.arm = 0) :
    Calls Try.prog 46 #[.pointer (some ⟨rb, 0, none⟩), .int .i64 n, .slice sp 512 cap] w fun e w' => e = .returned (.int .i64 9) ∧ RDisk w' rb lb pv rp d.stepped ∧ (∀ F : Nat → Prop, F rb → Chg F w w') := by
  obtain ⟨c0, c1, c2, c3, fz⟩ := h.cells
  have P := rpages_any rb lb pv rp d w h
  have S := rfails_any rb lb pv rp d w h
  rw [decide_eq_true ha] at S
  obtain ⟨hd, h0, h1⟩ := Dk.reach_ok hr
  rw [hd] at c3
  clear h hr ha
  go_enter Try.func46, Try.ntmps46
  go_wp2_with (first
    | (go_at_call 45; with_reducible refine P.mono ?_; rintro e w3 ⟨rfl, hw⟩; subst hw)
    | (go_at_call 75; with_reducible refine S.mono ?_; rintro e w4 ⟨rfl, P4, C4, S4⟩; have HP4 := hid P4; have HC4 := hid C4; clear P4 C4 S4)
    | fail)
  go_ret
  exact ⟨rfl, HP4.out, HC4.out⟩
set_option maxHeartbeats 2000000 in
theorem rwrite_ok (rb lb : Nat) (pv : Value) (rp : RP) (d : Dk) (n : Int) (sp : Option Addr) (b : List UInt8) (cap : Nat) (w : World) (h : RDisk w rb lb pv rp d) (hr : d.reach n = 0) (hb : b.length = 512) (hs : Byts w sp b) (hbk : ∀ g off, sp = some ⟨g, off, none⟩ → g ≠ rb) (ha : d.arm ≠ 0) (hm : d.pend.length < 1000000) :
    Calls Try.prog 46 #[.pointer (some ⟨rb, 0, none⟩), .int .i64 n, .slice sp 512 cap] w fun e w' => e = .returned (.int .i64 0) ∧
      ∃ pv' g c, RDisk w' rb lb pv' (rp ++ [((n, b), (g, c))]) (d.stepped.push n b) ∧ (∀ F : Nat → Prop, F rb → (∀ k, pv.ownBlock = some k → F k) → Chg F w w') ∧ (w.heap.size ≤ g ∧ g < w'.heap.size) ∧ (∀ k, pv'.ownBlock = some k → pv.ownBlock = some k ∨ (w.heap.size ≤ k ∧ k < w'.heap.size)) := by
  have hp5 : d.stepped.pend = d.pend := by unfold Dk.stepped; split <;> (try split) <;> rfl
  obtain ⟨c0, c1, c2, c3, fz⟩ := h.cells
  have hpd := h.pd
  rw [← hp5] at hpd
  obtain ⟨pp, pc, rfl, hpc⟩ := own_form hpd
  clear hpd
  have P := rpages_any rb lb _ rp d w h
  have S := rfails_any rb lb _ rp d w h
  rw [decide_eq_false ha] at S
  obtain ⟨hd, h0, h1⟩ := Dk.reach_ok hr
  rw [hd] at c3
  have hs' : ∀ w', (∀ F : Nat → Prop, F rb → Chg F w w') → Byts w' sp b := by
    intro w' C
    rcases hs with hs | ⟨g, off, hp, hc⟩
    · exact Or.inl hs
    · exact Or.inr ⟨g, off, hp, fun i hi => (C (· = rb) rfl).cell (hc i hi) (hbk g off hp)⟩
  have HS := hid hs'
  have HPG : Hid (0 ≤ n ∧ n < (d.stepped.pages : Int)) := by show _ ∧ _; rw [Dk.stepped_pages]; exact ⟨h0, h1⟩
  have HW : Hid (d.stepped.pend.length < 1000000) := by show _ < _; rw [hp5]; exact hm
  have HE := hid hb
  clear h hr ha hs hbk hs' hp5 hm hb hpc
  generalize d.stepped = d' at *
  go_enter Try.func46, Try.ntmps46
  go_wp2_with (first
    | (go_at_call 45; with_reducible refine P.mono ?_; rintro e w3 ⟨rfl, hw⟩; subst hw)
    | (go_at_call 75; with_reducible refine S.mono ?_; rintro e w4 ⟨rfl, P4, C4, S4⟩; have HP4 := hid P4; have HC4 := hid C4; have HS4 := hid (HS.out w4 C4); have HZ4 := hid S4; clear P4 C4 S4)
    | fail)
  clear c0 c1 c2 c3 fz P S HS h0 h1
  obtain ⟨c0, c1, c2, c3, fz⟩ := HP4.out.cells
  have hl4 := HP4.out.blk.lt
  have n4 : ∀ o : Obj, (w4.drew.alloc o).cell? ⟨rb, 1, none⟩ = some (.slice pp d'.pend.length pc) := fun o => (World.cell?_of_block (w := w4) (a := ⟨rb, 1, none⟩) (Below.heap_alloc w4.drew _ _ hl4)).trans c1
  have HO4 : Hid (OwnB (w4.drew.alloc (.cells #[] 5)) w4.heap.size (.slice (some ⟨w4.heap.size, 0, none⟩) 0 0) []) := own_new w4.drew
  have HX4 : Hid (Byts (w4.drew.alloc (.cells #[] 5)) sp b) := HS4.out.below ((Below.refl _ _).drew.alloc (Nat.le_refl _) _)
  obtain ⟨i0, hi, hz0, hz1, hz2⟩ := info_parts infoRW
  have HF5 : Hid (∀ (v5 : Value) (w5 : World), OwnB w5 w4.heap.size v5 ([] ++ b) → (w4.drew.alloc (.cells #[] 5)).grownBy w5 (some w4.heap.size) → ∃ g5 c5, v5 = .slice (some ⟨g5, 0, none⟩) 512 c5 ∧ Hid (OwnB w5 w4.heap.size (.slice (some ⟨g5, 0, none⟩) 512 c5) b) ∧ Hid (512 ≤ c5 ∧ c5 ≤ maxLen) ∧ w5.cell? ⟨rb, 1, none⟩ = some (.slice pp d'.pend.length pc) ∧ (∀ o : Obj, (w5.alloc o).cell? ⟨rb, 1, none⟩ = some (.slice pp d'.pend.length pc)) ∧
      Hid (∀ o : Obj, (w5.alloc o).ownsRow 0 113 2 (.slice pp d'.pend.length pc) d'.pend.length (rws rp))) := by
    intro v5 w5 O5 G5
    rw [List.nil_append] at O5
    obtain ⟨g5, c5, rfl, q1, q2, q3⟩ := own_is' O5 (by rw [HE.out]; omega)
    rw [HE.out] at O5 q2 ⊢
    have hsz := G5.size
    have e5 : ∀ k, k < w4.heap.size → w5.heap[k]? = w4.heap[k]? := fun k hk => (G5.block k (by simp; omega) (by simp; omega)).trans (Below.heap_alloc w4.drew _ _ hk)
    have k5 : w5.cell? ⟨rb, 1, none⟩ = some (.slice pp d'.pend.length pc) := (World.cell?_of_block (w := w4) (a := ⟨rb, 1, none⟩) (e5 rb hl4)).trans c1
    have s4 : (w4.drew.alloc (.cells #[] 5)).heap.size = w4.heap.size + 1 := by simp
    refine ⟨g5, c5, rfl, O5, ⟨q2, q3⟩, k5, fun o => (World.cell?_of_block (w := w5) (a := ⟨rb, 1, none⟩) (Below.heap_alloc w5 _ _ (show rb < w5.heap.size by omega))).trans k5, fun o => ?_⟩
    exact World.ownsRow.alloc (own_same HP4.out.pd (fun k hk => e5 k (HP4.out.pd.lt k hk).2)) _
  have HA5 : Hid (d'.pend.length + 1 ≤ maxLen) := by have := HW.out; show _ ≤ _; unfold maxLen; omega
  have HA6 : Hid ((d'.pend.length + 1) * 32 ≤ 140737488355328) := by have := HW.out; show _ ≤ _; omega
  have HF7 : Hid (∀ (w5 w7 : World) (o : Obj), (w4.drew.alloc (.cells #[] 5)).grownBy w5 (some w4.heap.size) → (w5.alloc o).grownBy w7 (Value.slice pp d'.pend.length pc).ownBlock → w7.cell? ⟨rb, 1, none⟩ = some (.slice pp d'.pend.length pc) ∧ w7.frozen? ⟨rb, 1, none⟩ = false) := by
    intro w5 w7 o G5 G7
    have s4 : (w4.drew.alloc (.cells #[] 5)).heap.size = w4.heap.size + 1 := by simp
    have hsz := G5.size
    have e5 : w5.heap[rb]? = w4.heap[rb]? := (G5.block rb (by omega) (by simp; omega)).trans (Below.heap_alloc w4.drew _ _ hl4)
    have e7 : w7.heap[rb]? = w4.heap[rb]? := ((G7.block rb (by simp; omega) (fun e => HP4.out.np e.symm)).trans (Below.heap_alloc w5 _ _ (by omega))).trans e5
    exact ⟨(World.cell?_of_block (w := w4) (a := ⟨rb, 1, none⟩) e7).trans c1, (World.frozen?_of_block (w := w4) (a := ⟨rb, 1, none⟩) e7).trans (fz 1)⟩
  go_region_law (first
    | (refine stBlk w4.heap.size _ _ _ [] b rfl rfl rfl _ _ _ rfl HE.out.symm HO4.out HX4.out (by rw [HE.out]; omega) (by rw [HE.out]; simp) (by simp) ?_; intro v5 w5 O5 G5 A5; have HG5 := hid G5; have hf5 := HF5.out v5 w5 O5 G5; obtain ⟨g5, c5, rfl, HO5, HC5, k5, n5, HP5⟩ := hf5; clear O5 G5 A5)
    | (refine step_append_lies _ rfl _ _ 47 rfl 0 113 i0 _ 2 32 Try.underlying47 hi hz0 hz1 hz2 rfl (by decide) (.slice pp d'.pend.length pc) d'.pend.length (rws rp) rfl (HP5.out _) ⟨w5.heap.size, 0, none⟩ 1 1 (rw1 ((n, b), (g5, c5))) rfl rfl (World.news_of_block (heap_alloc_new w5 _)) (rws_one [((n, b), (g5, c5))]) (by decide) HA5.out HA6.out (Nat.zero_le _) (w5.heap.size + 1) (by simp) ?_; intro g7 cap7 w7 O7 G7 A7 L7; have HO7 := hid O7; have HG7 := hid G7; have HA7 := hid A7; have HL7 := hid L7; obtain ⟨k7, f7⟩ := HF7.out w5 w7 _ HG5.out G7; clear O7 G7 A7 L7)
    | fail)
  all_goals go_wp2
  all_goals go_ret
  all_goals (
    obtain ⟨q1, q2, q3, q4⟩ := rd_push HP4.out HE.out HPG.out.1 HPG.out.2 HO5.out HC5.out HG5.out HO7.out HG7.out HA7.out HL7.out
    have z4 := HZ4.out
    refine ⟨rfl, _, g5, c5, q1, fun F f1 f2 => (HC4.out F f1).trans (q2 F f1 f2) (fun j _ f => f), by rw [← z4]; exact q3, fun k hk => ?_⟩
    simp only [Value.ownBlock, Option.some.injEq] at hk
    subst hk
    rw [← z4]
    exact q4)
/-- The document's Write. -/
theorem rwriteD (rb : Nat) (F : Nat → Prop) (d : Dk) (n : Int) (sp : Option Addr) (b : List UInt8) (cap : Nat) (w : World) (h : RD w rb F d) (hs : Byts w sp b) (hb : ∀ g off, sp = some ⟨g, off, none⟩ → g ≠ rb) (hm : d.pend.length < 1000000) :
    Calls Try.prog 46 #[.pointer (some ⟨rb, 0, none⟩), .int .i64 n, .slice sp b.length cap] w fun e w' => e = .returned (.int .i64 (d.wrErr n b)) ∧ RD w' rb (more F w w') (d.wr n b) ∧ Chg F w w' := by
  have hP := h
  obtain ⟨lb, pv, rp, h, hF⟩ := h
  have f0 := hF _ (Or.inl rfl)
  by_cases h1 : d.reach n ≠ 0
  · refine (rwrite_reach rb lb pv rp d n sp b.length cap w h h1).mono ?_
    rintro e w' ⟨he, rfl⟩
    unfold Dk.wrErr Dk.wr
    rw [if_pos h1, if_pos h1]
    exact ⟨he, hP.mono (fun k _ f => Or.inl f), Chg.refl _ _⟩
  · have h1' : d.reach n = 0 := by simpa using h1
    unfold Dk.wrErr Dk.wr
    rw [if_neg h1, if_neg h1]
    by_cases h2 : b.length ≠ 512
    · refine (rwrite_len rb lb pv rp d n sp _ cap w h h1' h2).mono ?_
      rintro e w' ⟨he, rfl⟩
      rw [if_pos h2, if_pos h2]
      exact ⟨he, hP.mono (fun k _ f => Or.inl f), Chg.refl _ _⟩
    · have h2' : b.length = 512 := by simpa using h2
      rw [if_neg h2, if_neg h2, h2']
      by_cases h3 : d.arm = 0
      · rw [if_pos h3, if_pos h3]
        refine (rwrite_fails rb lb pv rp d n sp cap w h h1' h3).mono ?_
        rintro e w' ⟨he, P, C⟩
        exact ⟨he, ⟨lb, pv, rp, P, fun k hk => Or.inl (hF k hk)⟩, C F f0⟩
      · rw [if_neg h3, if_neg h3]
        refine (rwrite_ok rb lb pv rp d n sp b cap w h h1' h2' hs hb h3 hm).mono ?_
        rintro e w' ⟨he, pv', g, c, P, C, G, O⟩
        refine ⟨he, ⟨lb, pv', _, P, fun k hk => ?_⟩, C F f0 (fun k hk => hF k (Or.inr (Or.inr (Or.inl hk))))⟩
        rcases hk with rfl | rfl | hk | ⟨x, hx, rfl⟩
        · exact Or.inl f0
        · exact Or.inl (hF _ (Or.inr (Or.inl rfl)))
        · rcases O k hk with o | o
          · exact Or.inl (hF k (Or.inr (Or.inr (Or.inl o))))
          · exact Or.inr o
        · rcases List.mem_append.1 hx with hx | hx
          · exact Or.inl (hF _ (Or.inr (Or.inr (Or.inr ⟨x, hx, rfl⟩))))
          · rw [List.mem_singleton] at hx
            subst hx
            exact Or.inr G
end Go.Proofs.Ytnecigbncggogaa
