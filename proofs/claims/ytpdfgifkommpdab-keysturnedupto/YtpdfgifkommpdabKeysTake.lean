/- What (*reader).take, truth and ended do. No conditions. -/
import Derived.Test.YtpdfgifkommpdabAppBytes
import Derived.WalkSmall
import Derived.Deep.QuietTactic
namespace Go.Proofs.Ytpdfgifkommpdab
open Go.RowKit Go.Lib Go.Sort
set_option linter.unusedVariables false

/-- A reader at a block: the bytes that are left, their bits turned back. -/
def Rd (w : World) (rb : Nat) (t : Bool) (u : List UInt8) : Prop :=
  ∃ p c, w.cell? ⟨rb, 0, none⟩ = some (.slice p u.length c) ∧ w.cell? ⟨rb, 1, none⟩ = some (.int .u8 (msk t)) ∧ w.frozen? ⟨rb, 0, none⟩ = false ∧ w.frozen? ⟨rb, 1, none⟩ = false ∧ u.length ≤ c ∧
    (u = [] ∨ ∃ b off, p = some ⟨b, off, none⟩ ∧ b < rb ∧ ∀ i (h : i < u.length), w.cell? ⟨b, off + i, none⟩ = some (.int .u8 ((tb t u[i]).toNat : Int)))
def nilB : Value := .slice none 0 0
/-- Nothing but a block was written. -/
def Only (rb : Nat) (w w' : World) : Prop := Past rb nilB nilB w w'
theorem Only.refl (rb : Nat) (w : World) : Only rb w w := Past.refl _ _ _
theorem Only.trans {rb : Nat} {a b c : World} (h : Only rb a b) (k : Only rb b c) : Only rb a c := Past.trans h k
theorem Only.cell {rb : Nat} {w w' : World} (h : Only rb w w') {b o : Nat} {x : Value} (hc : w.cell? ⟨b, o, none⟩ = some x) (hn : b ≠ rb) : w'.cell? ⟨b, o, none⟩ = some x := Past.cell h hc hn (by simp [nilB, Value.ownBlock])
theorem Only.below {rb : Nat} {w w' : World} (h : Only rb w w') (hw : rb ≤ w.heap.size) : Below rb w w' := Past.below h hw (by simp [nilB, Value.ownBlock])
theorem Rd.lt {w : World} {rb : Nat} {t : Bool} {u : List UInt8} (h : Rd w rb t u) : rb < w.heap.size := by
  obtain ⟨p, c, h0, _⟩ := h
  exact cell_lt h0

/-- What is thrown: an error's number. -/
def thr (n : Int) : List PanicEntry := [{ v := .iface 28 (.int .i64 n), recovered := false }]

set_option maxHeartbeats 1000000 in
theorem take_none (rb : Nat) (t : Bool) (w : World) (hR : Rd w rb t []) :
    Calls Try.prog 24 #[.pointer (some ⟨rb, 0, none⟩)] w fun e w' => e = .panicked (thr 1) ∧ w' = w := by
  obtain ⟨p, c, h0, h1, f0, f1, hc, hm⟩ := hR
  simp only [List.length_nil] at h0
  go_enter Try.func24, Try.ntmps24
  go_wp2
  exact ⟨rfl, rfl, rfl⟩

theorem rd_set {w : World} {rb n c' : Nat} {t : Bool} {u : List UInt8} {p' : Option Addr} {v0 : Value} (h0 : w.cell? ⟨rb, 0, none⟩ = some v0) (h1 : w.cell? ⟨rb, 1, none⟩ = some (.int .u8 (msk t))) (f0 : w.frozen? ⟨rb, 0, none⟩ = false) (f1 : w.frozen? ⟨rb, 1, none⟩ = false) (hc : u.length ≤ c')
    (hm : u = [] ∨ ∃ b off, p' = some ⟨b, off, none⟩ ∧ b < rb ∧ ∀ i (h : i < u.length), w.cell? ⟨b, off + i, none⟩ = some (.int .u8 ((tb t u[i]).toNat : Int))) : Rd ((w.drewN n).setCell ⟨rb, 0, none⟩ (.slice p' u.length c')) rb t u := by
  have g0 : (w.drewN n).cell? ⟨rb, 0, none⟩ = some v0 := h0
  have g1 : (w.drewN n).cell? ⟨rb, 1, none⟩ = some (.int .u8 (msk t)) := h1
  have e0 : (w.drewN n).frozen? ⟨rb, 0, none⟩ = false := f0
  have e1 : (w.drewN n).frozen? ⟨rb, 1, none⟩ = false := f1
  refine ⟨p', c', ?_, ?_, ?_, ?_, hc, ?_⟩
  · simp [go_sem, g0]
  · simp [go_sem, g1]
  · simp [go_sem, e0]
  · simp [go_sem, e1]
  · rcases hm with hm | ⟨b, off, hp, hb, hcells⟩
    · exact Or.inl hm
    · refine Or.inr ⟨b, off, hp, hb, fun i hi => ?_⟩
      exact (World.cell?_of_block (w := w.drewN n) (a := ⟨b, off + i, none⟩) (Below.heap_setCell _ _ _ _ (show b ≠ rb by omega))).trans (hcells i hi)
theorem only_set (w : World) (rb n : Nat) (x : Value) : Only rb w ((w.drewN n).setCell ⟨rb, 0, none⟩ x) :=
  Past.put ⟨rfl, rfl, rfl, Nat.le_refl _, fun _ _ _ _ => rfl, fun _ _ h => h⟩

set_option maxHeartbeats 1000000 in
theorem take_some (rb : Nat) (t : Bool) (x : UInt8) (u : List UInt8) (w : World) (hR : Rd w rb t (x :: u)) (hl : u.length + 1 ≤ maxLen) :
    Calls Try.prog 24 #[.pointer (some ⟨rb, 0, none⟩)] w fun e w' => e = .returned (.int .u8 (x.toNat : Int)) ∧ Rd w' rb t u ∧ Only rb w w' := by
  obtain ⟨p, c, h0, h1, f0, f1, hc, hm⟩ := hR
  rcases hm with hm | ⟨b, off, rfl, hb, hcells⟩
  · cases hm
  have c0 : w.cell? ⟨b, off, none⟩ = some (.int .u8 ((tb t x).toNat : Int)) := hcells 0 (by simp)
  have hx := xor_tb t (tb t x)
  rw [tb_tb] at hx
  simp only [List.length_cons] at h0 hc
  unfold maxLen at hl
  have HC : Hid (∀ i (h : i < (x :: u).length), w.cell? ⟨b, off + i, none⟩ = some (.int .u8 ((tb t (x :: u)[i]).toNat : Int))) := hcells
  clear hcells
  generalize (tb t x).toNat = y at *
  go_enter Try.func24, Try.ntmps24
  go_wp2
  go_quiet (fail)
  go_wp2
  · rename_i hc1
    go_ret
    refine ⟨rfl, rd_set h0 h1 f0 f1 (by omega) (Or.inl (List.length_eq_zero_iff.1 (by omega))), only_set _ _ _ _⟩
  · rename_i hc1
    go_ret
    refine ⟨rfl, rd_set h0 h1 f0 f1 (by omega) (Or.inr ⟨b, off + 1, rfl, hb, fun i hi => ?_⟩), only_set _ _ _ _⟩
    have := HC.out (i + 1) (by simpa using hi)
    rw [Nat.add_assoc, Nat.add_comm 1 i]
    exact this

set_option maxHeartbeats 1000000 in
theorem truth_none (rb : Nat) (t : Bool) (w : World) (hR : Rd w rb t []) :
    Calls Try.prog 25 #[.pointer (some ⟨rb, 0, none⟩)] w fun e w' => e = .panicked (thr 1) ∧ w' = w := by
  have T := take_none rb t w hR
  go_enter Try.func25, Try.ntmps25
  go_wp2_with (go_at_call 24; with_reducible refine T.mono ?_; rintro e w2 ⟨rfl, hw⟩; subst hw)
  exact ⟨rfl, rfl, rfl⟩
set_option maxHeartbeats 1000000 in
theorem truth_some (rb : Nat) (t : Bool) (x : UInt8) (u : List UInt8) (w : World) (hR : Rd w rb t (x :: u)) (hl : u.length + 1 ≤ maxLen) (hx : x.toNat ≤ 1) :
    Calls Try.prog 25 #[.pointer (some ⟨rb, 0, none⟩)] w fun e w' => e = .returned (.int .i64 (x.toNat : Int)) ∧ Rd w' rb t u ∧ Only rb w w' := by
  have T := take_some rb t x u w hR hl
  generalize x.toNat = y at *
  go_enter Try.func25, Try.ntmps25
  go_wp2_with (go_at_call 24; with_reducible refine T.mono ?_; rintro e w2 ⟨rfl, R2, O2⟩)
  go_ret
  exact ⟨rfl, R2, O2⟩
set_option maxHeartbeats 1000000 in
theorem truth_bad (rb : Nat) (t : Bool) (x : UInt8) (u : List UInt8) (w : World) (hR : Rd w rb t (x :: u)) (hl : u.length + 1 ≤ maxLen) (hx : 1 < x.toNat) :
    Calls Try.prog 25 #[.pointer (some ⟨rb, 0, none⟩)] w fun e w' => e = .panicked (thr 3) ∧ Only rb w w' := by
  have T := take_some rb t x u w hR hl
  generalize x.toNat = y at *
  go_enter Try.func25, Try.ntmps25
  go_wp2_with (go_at_call 24; with_reducible refine T.mono ?_; rintro e w2 ⟨rfl, R2, O2⟩)
  exact ⟨rfl, rfl, O2⟩

set_option maxHeartbeats 1000000 in
theorem ended_none (rb : Nat) (t : Bool) (w : World) (hR : Rd w rb t []) :
    Calls Try.prog 28 #[.pointer (some ⟨rb, 0, none⟩)] w fun e w' => e = .panicked (thr 1) ∧ w' = w := by
  have T := take_none rb t w hR
  go_enter Try.func28, Try.ntmps28
  go_wp2_with (go_at_call 24; with_reducible refine T.mono ?_; rintro e w2 ⟨rfl, hw⟩; subst hw)
  exact ⟨rfl, rfl, rfl⟩
set_option maxHeartbeats 1000000 in
theorem ended_some (rb : Nat) (t : Bool) (x : UInt8) (u : List UInt8) (w : World) (hR : Rd w rb t (x :: u)) (hl : u.length + 1 ≤ maxLen) (a : Bool) (hx : (x.toNat = 1 ∧ a = true) ∨ (x.toNat = 255 ∧ a = false)) :
    Calls Try.prog 28 #[.pointer (some ⟨rb, 0, none⟩)] w fun e w' => e = .returned (.bool a) ∧ Rd w' rb t u ∧ Only rb w w' := by
  have T := take_some rb t x u w hR hl
  rcases hx with ⟨hx, rfl⟩ | ⟨hx, rfl⟩
  all_goals
    rw [hx] at T
    go_enter Try.func28, Try.ntmps28
    go_wp2_with (go_at_call 24; with_reducible refine T.mono ?_; rintro e w2 ⟨rfl, R2, O2⟩)
    go_ret
    exact ⟨rfl, R2, O2⟩
set_option maxHeartbeats 1000000 in
theorem ended_bad (rb : Nat) (t : Bool) (x : UInt8) (u : List UInt8) (w : World) (hR : Rd w rb t (x :: u)) (hl : u.length + 1 ≤ maxLen) (h1 : x.toNat ≠ 1) (h2 : x.toNat ≠ 255) :
    Calls Try.prog 28 #[.pointer (some ⟨rb, 0, none⟩)] w fun e w' => e = .panicked (thr 3) ∧ Only rb w w' := by
  have T := take_some rb t x u w hR hl
  generalize x.toNat = y at *
  have e1 : ((y : Int) == 1) = false := beq_eq_false_iff_ne.2 (by omega)
  have e2 : ((y : Int) == 255) = false := beq_eq_false_iff_ne.2 (by omega)
  go_enter Try.func28, Try.ntmps28
  go_wp2_with (go_at_call 24; with_reducible refine T.mono ?_; rintro e w2 ⟨rfl, R2, O2⟩)
  exact ⟨rfl, rfl, O2⟩
end Go.Proofs.Ytpdfgifkommpdab
