/- The disk's contracts over a set of blocks that is its own. Condition: fewer than a million writes are pending. -/
import Derived.Test.YtnecigbncggogaaDkPage
namespace Go.Proofs.Ytnecigbncggogaa
open Go.RowKit
set_option linter.unusedVariables false
set_option maxRecDepth 20000

/-- A disk at a block, all of whose blocks lie in a set. -/
def PD (w : World) (db : Nat) (F : Nat → Prop) (d : Dk) : Prop := ∃ lb nb pv, PDisk w db lb nb pv d ∧ ∀ k, mine db lb nb pv k → F k
theorem PD.okk {w : World} {db : Nat} {F : Nat → Prop} {d : Dk} (h : PD w db F d) : d.ok := by obtain ⟨_, _, _, h, _⟩ := h; exact h.ok
theorem PD.mono {w : World} {db : Nat} {F G : Nat → Prop} {d : Dk} (h : PD w db F d) (hG : ∀ k, k < w.heap.size → F k → G k) : PD w db G d := by
  obtain ⟨lb, nb, pv, h, hF⟩ := h
  exact ⟨lb, nb, pv, h, fun k hk => hG k (h.lt hk) (hF k hk)⟩
theorem PD.chg {w w' : World} {db : Nat} {F G : Nat → Prop} {d : Dk} (h : PD w db F d) (c : Chg G w w') (hd : ∀ k, F k → ¬ G k) : PD w' db F d := by
  obtain ⟨lb, nb, pv, h, hF⟩ := h
  exact ⟨lb, nb, pv, h.chg c (fun k hk => hd k (hF k hk)), hF⟩
theorem PD.below {w w' : World} {db : Nat} {F : Nat → Prop} {d : Dk} (h : PD w db F d) (c : Below w.heap.size w w') : PD w' db F d := by
  obtain ⟨lb, nb, pv, h, hF⟩ := h
  exact ⟨lb, nb, pv, h.below c, hF⟩
theorem PD.lt {w : World} {db : Nat} {F : Nat → Prop} {d : Dk} (h : PD w db F d) : db < w.heap.size := by obtain ⟨lb, nb, pv, h, hF⟩ := h; exact h.blk.lt
theorem PD.mem {w : World} {db : Nat} {F : Nat → Prop} {d : Dk} (h : PD w db F d) : F db := by obtain ⟨lb, nb, pv, h, hF⟩ := h; exact hF _ (Or.inl rfl)
theorem more_in {F : Nat → Prop} {w w' : World} {k : Nat} (h : F k) : more F w w' k := Or.inl h
theorem PD.same {w : World} {db : Nat} {F : Nat → Prop} {d : Dk} (h : PD w db F d) : PD w db (more F w w) d := h.mono (fun k _ f => Or.inl f)
/-- The new set, from old and new blocks. -/
theorem pd_mk {w w' : World} {db lb nb : Nat} {pv : Value} {d : Dk} {F : Nat → Prop} (h : PDisk w' db lb nb pv d) (h0 : F db) (h1 : F lb) (h2 : F nb ∨ (w.heap.size ≤ nb ∧ nb < w'.heap.size)) (h3 : ∀ k, pv.ownBlock = some k → F k ∨ (w.heap.size ≤ k ∧ k < w'.heap.size)) : PD w' db (more F w w') d := by
  refine ⟨lb, nb, pv, h, fun k hk => ?_⟩
  rcases hk with rfl | rfl | rfl | hk
  · exact Or.inl h0
  · exact Or.inl h1
  · exact h2
  · exact h3 k hk

theorem pagesD (db : Nat) (F : Nat → Prop) (d : Dk) (w : World) (h : PD w db F d) :
    Calls Try.prog 39 #[.pointer (some ⟨db, 0, none⟩)] w fun e w' => e = .returned (.int .i64 (d.pages : Int)) ∧ w' = w := by
  obtain ⟨lb, nb, pv, h, _⟩ := h
  exact pages_any db lb nb pv d w h
theorem downD (db : Nat) (F : Nat → Prop) (d : Dk) (w : World) (h : PD w db F d) :
    Calls Try.prog 17 #[.pointer (some ⟨db, 0, none⟩)] w fun e w' => e = .returned (.bool d.down) ∧ w' = w := by
  obtain ⟨lb, nb, pv, h, _⟩ := h
  exact down_any db lb nb pv d w h
theorem armD (db : Nat) (F : Nat → Prop) (d : Dk) (n : Int) (w : World) (h : PD w db F d) (hn : n ≤ 9223372036854775807) :
    Calls Try.prog 27 #[.pointer (some ⟨db, 0, none⟩), .int .i64 n] w fun e w' => e = .returned (.tuple #[]) ∧ PD w' db F (d.armed n) ∧ Chg F w w' ∧ w'.heap.size = w.heap.size := by
  obtain ⟨lb, nb, pv, h, hF⟩ := h
  refine (arm_any db lb nb pv d n w h hn).mono ?_
  rintro e w' ⟨he, P, C, S⟩
  exact ⟨he, ⟨lb, nb, pv, P, hF⟩, C F (hF _ (Or.inl rfl)), S⟩
theorem newD (n : Int) (w : World) (h1 : 1 ≤ n) (h2 : n ≤ 4096) :
    Calls Try.prog 11 #[.int .i64 n] w fun e w' => e = .returned (.tuple #[.pointer (some ⟨w.heap.size + 2, 0, none⟩), .int .i64 0]) ∧ PD w' (w.heap.size + 2) (fun k => w.heap.size ≤ k ∧ k < w'.heap.size) (Dk.fresh n.toNat) ∧ w'.heap.size = w.heap.size + 3 ∧ Below w.heap.size w w' := by
  refine (new_ok n w h1 h2).mono ?_
  rintro e w' ⟨he, P, S, B⟩
  refine ⟨he, ⟨_, _, _, P, fun k hk => ?_⟩, S, B⟩
  rcases hk with rfl | rfl | rfl | hk
  · exact ⟨by omega, by omega⟩
  · exact ⟨by omega, by omega⟩
  · exact ⟨by omega, by omega⟩
  · cases hk
theorem readD (db : Nat) (F : Nat → Prop) (d : Dk) (n : Int) (w : World) (h : PD w db F d) (hr : d.reach n = 0) :
    Calls Try.prog 37 #[.pointer (some ⟨db, 0, none⟩), .int .i64 n] w fun e w' => e = .returned (.tuple #[.slice (some ⟨w.heap.size + 1, 0, none⟩) 512 512, .int .i64 0]) ∧ Pg w' (w.heap.size + 1) (d.has n) ∧ Below w.heap.size w w' ∧ w'.heap.size = w.heap.size + 2 := by
  obtain ⟨lb, nb, pv, h, _⟩ := h
  exact read_ok db lb nb pv d n w h hr
theorem readBad (db : Nat) (F : Nat → Prop) (d : Dk) (n : Int) (w : World) (h : PD w db F d) (hr : d.reach n ≠ 0) :
    Calls Try.prog 37 #[.pointer (some ⟨db, 0, none⟩), .int .i64 n] w fun e w' => e = .returned (.tuple #[.slice none 0 0, .int .i64 (d.reach n)]) ∧ w' = w := by
  obtain ⟨lb, nb, pv, h, _⟩ := h
  exact read_bad db lb nb pv d n w h hr
theorem writeD (db : Nat) (F : Nat → Prop) (d : Dk) (n : Int) (sp : Option Addr) (b : List UInt8) (cap : Nat) (w : World) (h : PD w db F d) (hs : Byts w sp b) (hb : ∀ g off, sp = some ⟨g, off, none⟩ → g ≠ db) (hm : d.pend.length < 1000000) :
    Calls Try.prog 38 #[.pointer (some ⟨db, 0, none⟩), .int .i64 n, .slice sp b.length cap] w fun e w' => e = .returned (.int .i64 (d.wrErr n b)) ∧ PD w' db (more F w w') (d.wr n b) ∧ Chg F w w' := by
  have hP := h
  obtain ⟨lb, nb, pv, h, hF⟩ := h
  by_cases h1 : d.reach n ≠ 0
  · refine (write_reach db lb nb pv d n _ w h h1).mono ?_
    rintro e w' ⟨he, rfl⟩
    unfold Dk.wrErr Dk.wr
    rw [if_pos h1, if_pos h1]
    exact ⟨he, hP.same, Chg.refl _ _⟩
  · have h1' : d.reach n = 0 := by simpa using h1
    unfold Dk.wrErr Dk.wr
    rw [if_neg h1, if_neg h1]
    by_cases h2 : b.length ≠ 512
    · refine (write_len db lb nb pv d n sp _ cap w h h1' h2).mono ?_
      rintro e w' ⟨he, rfl⟩
      rw [if_pos h2, if_pos h2]
      exact ⟨he, hP.same, Chg.refl _ _⟩
    · have h2' : b.length = 512 := by simpa using h2
      rw [if_neg h2, if_neg h2, h2']
      by_cases h3 : d.arm = 0
      · rw [if_pos h3, if_pos h3]
        refine (write_fails db lb nb pv d n sp cap w h h1' h3).mono ?_
        rintro e w' ⟨he, P, C⟩
        exact ⟨he, ⟨lb, nb, pv, P, fun k hk => Or.inl (hF k hk)⟩, C F (hF _ (Or.inl rfl))⟩
      · rw [if_neg h3, if_neg h3]
        refine (write_ok db lb nb pv d n sp b cap w h h1' h2' hs hb h3 hm).mono ?_
        rintro e w' ⟨he, pv', P, C, O⟩
        refine ⟨he, pd_mk P (hF _ (Or.inl rfl)) (hF _ (Or.inr (Or.inl rfl))) (Or.inl (hF _ (Or.inr (Or.inr (Or.inl rfl))))) (fun k hk => ?_), C F (hF _ (Or.inl rfl)) (hF _ (Or.inr (Or.inr (Or.inl rfl)))) (fun k hk => hF k (Or.inr (Or.inr (Or.inr hk))))⟩
        rcases O k hk with o | o
        · exact Or.inl (hF k (Or.inr (Or.inr (Or.inr o))))
        · exact Or.inr o
theorem syncD (db : Nat) (F : Nat → Prop) (d : Dk) (w : World) (h : PD w db F d) (hm : d.pend.length < 1000000) :
    Calls Try.prog 44 #[.pointer (some ⟨db, 0, none⟩)] w fun e w' => e = .returned (.int .i64 d.syErr) ∧ PD w' db (more F w w') d.sy ∧ Chg F w w' := by
  have hP := h
  obtain ⟨lb, nb, pv, h, hF⟩ := h
  unfold Dk.syErr Dk.sy
  cases hd : d.down
  · by_cases h3 : d.arm = 0
    · simp only [h3, if_true, Bool.false_eq_true, if_false]
      refine (sync_fails db lb nb pv d w h hd h3).mono ?_
      rintro e w' ⟨he, P, C⟩
      exact ⟨he, ⟨lb, nb, pv, P, fun k hk => Or.inl (hF k hk)⟩, C F (hF _ (Or.inl rfl))⟩
    · simp only [h3, Bool.false_eq_true, if_false]
      refine (sync_ok db lb nb pv d w h hd h3 hm).mono ?_
      rintro e w' ⟨he, nb', P, C, N, M⟩
      exact ⟨he, pd_mk P (hF _ (Or.inl rfl)) (hF _ (Or.inr (Or.inl rfl))) (Or.inr ⟨N, M⟩) (fun k hk => (by cases hk)), C F (hF _ (Or.inl rfl)) (hF _ (Or.inr (Or.inl rfl)))⟩
  · simp only [if_true]
    refine (sync_down db lb nb pv d w h hd).mono ?_
    rintro e w' ⟨he, rfl⟩
    exact ⟨he, hP.same, Chg.refl _ _⟩
theorem mendD (db : Nat) (F : Nat → Prop) (d : Dk) (kp : Option Addr) (keep : List Bool) (kc : Nat) (torn cut : Int) (w : World) (h : PD w db F d) (hm : d.pend.length < 1000000) (hk : Bits w kp keep) (hkl : keep ≠ [] → ∀ b off, kp = some ⟨b, off, none⟩ → ¬ F b) :
    Calls Try.prog 28 #[.pointer (some ⟨db, 0, none⟩), .slice kp keep.length kc, .int .i64 torn, .int .i64 cut] w fun e w' => e = .returned (.tuple #[]) ∧ PD w' db (more F w w') (d.mended keep torn cut) ∧ Chg F w w' := by
  obtain ⟨lb, nb, pv, h, hF⟩ := h
  refine (mend_ok db lb nb pv d kp keep kc torn cut w h hm hk (fun hem b off e hb => hkl hem b off e (by rw [hb]; exact hF _ (Or.inr (Or.inl rfl))))).mono ?_
  rintro e w' ⟨he, nb', P, C, N, M⟩
  exact ⟨he, pd_mk P (hF _ (Or.inl rfl)) (hF _ (Or.inr (Or.inl rfl))) (Or.inr ⟨N, M⟩) (fun k hk => (by cases hk)), C F (hF _ (Or.inl rfl)) (hF _ (Or.inr (Or.inl rfl)))⟩
end Go.Proofs.Ytnecigbncggogaa
