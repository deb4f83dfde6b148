/- What the document's own reader does: fail, one, number. Condition: the bytes lie within the reach. -/
import Derived.Test.YtaoeonbhlpnjiaaRowDecode
namespace Go.Proofs.Ytaoeonbhlpnjiaa
open Go.RowKit Go.Lib Go.Sort
set_option linter.unusedVariables false

/-- The document's reader at a block: the bytes that are left, and the first error. -/
def Rq (w : World) (rb : Nat) (u : List UInt8) (e : Int) : Prop :=
  ∃ p c, w.cell? ⟨rb, 0, none⟩ = some (.slice p u.length c) ∧ w.cell? ⟨rb, 1, none⟩ = some (.int .i64 e) ∧ w.frozen? ⟨rb, 0, none⟩ = false ∧ w.frozen? ⟨rb, 1, none⟩ = false ∧ u.length ≤ c ∧
    (u = [] ∨ ∃ b off, p = some ⟨b, off, none⟩ ∧ b < rb ∧ ∀ i (h : i < u.length), w.cell? ⟨b, off + i, none⟩ = some (.int .u8 (u[i].toNat : Int)))
theorem Rq.lt {w : World} {rb : Nat} {u : List UInt8} {e : Int} (h : Rq w rb u e) : rb < w.heap.size := by
  obtain ⟨p, c, h0, _⟩ := h
  exact cell_lt h0
theorem Rq.get {w : World} {rb : Nat} {u : List UInt8} {e : Int} (h : Rq w rb u e) : ∃ p c, w.cell? ⟨rb, 0, none⟩ = some (.slice p u.length c) ∧ w.cell? ⟨rb, 1, none⟩ = some (.int .i64 e) ∧ w.frozen? ⟨rb, 0, none⟩ = false ∧ w.frozen? ⟨rb, 1, none⟩ = false ∧ u.length ≤ c := by
  obtain ⟨p, c, h0, h1, f0, f1, hc, _⟩ := h
  exact ⟨p, c, h0, h1, f0, f1, hc⟩
theorem Rq.below {w w' : World} {rb base : Nat} {u : List UInt8} {e : Int} (h : Rq w rb u e) (B : Below base w w') (hb : rb < base) : Rq w' rb u e := by
  obtain ⟨p, c, h0, h1, f0, f1, hc, hm⟩ := h
  refine ⟨p, c, (B.cell (p := ⟨rb, 0, none⟩) hb).trans h0, (B.cell (p := ⟨rb, 1, none⟩) hb).trans h1, (B.frozen (p := ⟨rb, 0, none⟩) hb).trans f0, (B.frozen (p := ⟨rb, 1, none⟩) hb).trans f1, hc, ?_⟩
  rcases hm with hm | ⟨b, off, hp, hlt, hcells⟩
  · exact Or.inl hm
  · exact Or.inr ⟨b, off, hp, hlt, fun i hi => (B.cell (p := ⟨b, off + i, none⟩) (Nat.lt_trans hlt hb)).trans (hcells i hi)⟩
/-- Other bytes are left. -/
theorem rq_put {w : World} {rb c' m : Nat} {u : List UInt8} {e : Int} {p' : Option Addr} {v0 : Value} (h0 : w.cell? ⟨rb, 0, none⟩ = some v0) (h1 : w.cell? ⟨rb, 1, none⟩ = some (.int .i64 e)) (f0 : w.frozen? ⟨rb, 0, none⟩ = false) (f1 : w.frozen? ⟨rb, 1, none⟩ = false) (hu : u.length = m) (hc : m ≤ c')
    (hm : u = [] ∨ ∃ b off, p' = some ⟨b, off, none⟩ ∧ b < rb ∧ ∀ i (h : i < u.length), w.cell? ⟨b, off + i, none⟩ = some (.int .u8 (u[i].toNat : Int))) : Rq (w.setCell ⟨rb, 0, none⟩ (.slice p' m c')) rb u e := by
  subst hu
  refine ⟨p', c', ?_, ?_, ?_, ?_, hc, ?_⟩
  · simp [go_sem, h0]
  · simp [go_sem, h1]
  · simp [go_sem, f0]
  · simp [go_sem, f1]
  · rcases hm with hm | ⟨b, off, hp, hb, hcells⟩
    · exact Or.inl hm
    · refine Or.inr ⟨b, off, hp, hb, fun i hi => ?_⟩
      exact (World.cell?_of_block (w := w) (a := ⟨b, off + i, none⟩) (Below.heap_setCell _ _ _ _ (show b ≠ rb by omega))).trans (hcells i hi)
/-- An error is set. -/
theorem rq_err {w : World} {rb : Nat} {u : List UInt8} {e e' : Int} (h : Rq w rb u e) : Rq (w.setCell ⟨rb, 1, none⟩ (.int .i64 e')) rb u e' := by
  obtain ⟨p, c, h0, h1, f0, f1, hc, hm⟩ := h
  refine ⟨p, c, ?_, ?_, ?_, ?_, hc, ?_⟩
  · simp [go_sem, h0]
  · simp [go_sem, h1]
  · simp [go_sem, f0]
  · simp [go_sem, f1]
  · rcases hm with hm | ⟨b, off, hp, hb, hcells⟩
    · exact Or.inl hm
    · refine Or.inr ⟨b, off, hp, hb, fun i hi => ?_⟩
      exact (World.cell?_of_block (w := w) (a := ⟨b, off + i, none⟩) (Below.heap_setCell _ _ _ _ (show b ≠ rb by omega))).trans (hcells i hi)

set_option maxHeartbeats 1000000 in
theorem qfail_new (rb : Nat) (u : List UInt8) (x : Int) (w : World) (hR : Rq w rb u 0) :
    Calls Try.prog 30 #[.pointer (some ⟨rb, 0, none⟩), .int .i64 x] w fun e w' => e = .returned (.tuple #[]) ∧ Rq w' rb u x ∧ Only rb w w' := by
  have HR := hid hR
  obtain ⟨p, c, h0, h1, f0, f1, hc, hm⟩ := hR
  clear hm
  go_enter Try.func30, Try.ntmps30
  go_wp2
  refine end0 Try.results30 rfl ?_
  exact ⟨rfl, rq_err HR.out, only_put _ _ _ _⟩
set_option maxHeartbeats 1000000 in
theorem qfail_old (rb : Nat) (u : List UInt8) (x e : Int) (w : World) (hR : Rq w rb u e) (he : e ≠ 0) :
    Calls Try.prog 30 #[.pointer (some ⟨rb, 0, none⟩), .int .i64 x] w fun e w' => e = .returned (.tuple #[]) ∧ w' = w := by
  obtain ⟨p, c, h0, h1, f0, f1, hc, hm⟩ := hR
  have hb : (e == 0) = false := beq_eq_false_iff_ne.2 he
  clear hm he
  go_enter Try.func30, Try.ntmps30
  go_wp2
  refine end0 Try.results30 rfl ?_
  exact ⟨rfl, rfl⟩

set_option maxHeartbeats 1000000 in
theorem qone_none (rb : Nat) (w : World) (hR : Rq w rb [] 0) :
    Calls Try.prog 40 #[.pointer (some ⟨rb, 0, none⟩)] w fun e w' => e = .returned (.int .u8 0) ∧ Rq w' rb [] 1 ∧ Only rb w w' := by
  have F := qfail_new rb [] 1 w hR
  obtain ⟨p, c, h0, h1, f0, f1, hc, hm⟩ := hR
  simp only [List.length_nil] at h0
  clear hm
  go_enter Try.func40, Try.ntmps40
  go_wp2_with (go_at_call 30; with_reducible refine F.mono ?_; rintro e w2 ⟨rfl, R2, O2⟩)
  go_ret
  exact ⟨rfl, R2, O2⟩
set_option maxHeartbeats 1000000 in
theorem qone_some (rb : Nat) (x : UInt8) (u : List UInt8) (w : World) (hR : Rq w rb (x :: u) 0) (hl : u.length + 1 ≤ maxLen) :
    Calls Try.prog 40 #[.pointer (some ⟨rb, 0, none⟩)] w fun e w' => e = .returned (.int .u8 (x.toNat : Int)) ∧ Rq w' rb u 0 ∧ Only rb w w' := by
  obtain ⟨p, c, h0, h1, f0, f1, hc, hm⟩ := hR
  rcases hm with hm | ⟨b, off, rfl, hb, hcells⟩
  · cases hm
  have c0 : w.cell? ⟨b, off, none⟩ = some (.int .u8 (x.toNat : Int)) := hcells 0 (by simp)
  simp only [List.length_cons] at h0 hc
  unfold maxLen at hl
  have HC : Hid (∀ i (h : i < (x :: u).length), w.cell? ⟨b, off + i, none⟩ = some (.int .u8 ((x :: u)[i].toNat : Int))) := hcells
  clear hcells
  generalize x.toNat = y at *
  go_enter Try.func40, Try.ntmps40
  go_wp2
  · rename_i hc1
    go_ret
    refine ⟨rfl, rq_put h0 h1 f0 f1 rfl (by omega) (Or.inl (List.length_eq_zero_iff.1 (by omega))), only_put _ _ _ _⟩
  · rename_i hc1
    go_ret
    refine ⟨rfl, rq_put h0 h1 f0 f1 rfl (by omega) (Or.inr ⟨b, off + 1, rfl, hb, fun i hi => ?_⟩), only_put _ _ _ _⟩
    have := HC.out (i + 1) (by simpa using hi)
    rw [Nat.add_assoc, Nat.add_comm 1 i]
    exact this
end Go.Proofs.Ytaoeonbhlpnjiaa
