/- The document's Load. Condition: the image lies within the reach. -/
import Derived.Test.YtnecigbncggogaaDkLoad
import Derived.Deep.RegionHeldLaw
import Derived.BigQuiet
namespace Go.Proofs.Ytnecigbncggogaa
open Go.RowKit
set_option linter.unusedVariables false
set_option maxRecDepth 20000

theorem own_new (w : World) : OwnB (w.alloc (.cells #[] 5)) w.heap.size (.slice (some ⟨w.heap.size, 0, none⟩) 0 0) [] := World.ownsRow_made w #[] 0 (Nat.le_refl _) (Nat.zero_le _) (by simp)
theorem OwnB.below {w w' : World} {base : Nat} {v : Value} {l : List UInt8} (o : OwnB w base v l) (B : Below w.heap.size w w') : OwnB w' base v l := own_same o (fun g hg => B.block g (World.ownsRow.lt o g hg).2)
/-- The end of the document's Load. -/
def rlEnd (w : World) (e : Ending) (w' : World) : Prop := ∃ rb, e = .returned (.tuple #[.pointer (some ⟨rb, 0, none⟩), .int .i64 0]) ∧ Below w.heap.size w w'
set_option maxHeartbeats 1000000 in
theorem rload_bad (l : List UInt8) (p : Option Addr) (c : Nat) (w : World) (hl : l.length ≤ 140737488351232) (hb : l.length = 0 ∨ l.length % 512 ≠ 0 ∨ 2097152 < l.length) :
    Calls Try.prog 34 #[.slice p l.length c] w fun e w' => e = .returned (.tuple #[.pointer none, .int .i64 2]) ∧ w' = w := by
  generalize l.length = m at *
  have hrm : Int.tmod (m : Int) 512 = ((m % 512 : Nat) : Int) := rfl
  by_cases h1 : m = 0
  · subst h1
    clear hb hrm
    go_enter Try.func34, Try.ntmps34
    go_wp2
    go_ret2
    exact ⟨rfl, rfl⟩
  · have b0 : ((m : Int) == 0) = false := by simp; omega
    by_cases h2 : m % 512 ≠ 0
    · have b1 : (((m % 512 : Nat) : Int) == 0) = false := by simp; omega
      have p1 : ¬ (((m % 512 : Nat) : Int) = 0) := by omega
      clear hb h2
      generalize ((m % 512 : Nat) : Int) = r at *
      go_enter Try.func34, Try.ntmps34
      go_wp2
      go_ret2
      exact ⟨rfl, rfl⟩
    · have b1 : (((m % 512 : Nat) : Int) == 0) = true := by simp; omega
      have p1 : ((m % 512 : Nat) : Int) = 0 := by omega
      have b2 : (2097152 : Int) < (m : Int) := by omega
      rw [p1] at hrm b1
      clear hb h2 p1
      go_enter Try.func34, Try.ntmps34
      go_wp2
      go_ret2
      exact ⟨rfl, rfl⟩
set_option maxHeartbeats 1000000 in
theorem rload_ok (l : List UInt8) (g off : Nat) (c : Nat) (w : World) (h0 : 0 < l.length) (h1 : l.length % 512 = 0) (h2 : l.length ≤ 2097152) (hB : Byts w (some ⟨g, off, none⟩) l) :
    Calls Try.prog 34 #[.slice (some ⟨g, off, none⟩) l.length c] w (rlEnd w) := by
  have HO := hid (own_new w)
  have HX := hid (hB.alloc (.cells #[] 5))
  have HL := hid h0
  have HL2 := hid h2
  have hrm : Int.tmod (l.length : Int) 512 = 0 := by
    have : Int.tmod (l.length : Int) 512 = ((l.length % 512 : Nat) : Int) := rfl
    rw [this, h1]; rfl
  have b0 : ((l.length : Int) == 0) = false := by simp; exact List.length_pos_iff.1 h0
  have b2 : ¬ ((2097152 : Int) < (l.length : Int)) := by omega
  have HBl : Hid (Below w.heap.size w (w.alloc (.cells #[] 5))) := (Below.refl _ _).alloc (Nat.le_refl _) _
  clear hB h1 h0 h2
  go_enter Try.func34, Try.ntmps34
  go_wp2_with (first
    | (at_builtin; go_loud (refine appBlk w.heap.size _ _ _ [] l rfl rfl rfl _ _ _ _ rfl ?hn ?hO ?hX ?hm ?hl ?hb ?_; (case hn => rfl); (case hO => exact HO.out); (case hX => exact HX.out); (case hm => exact HL.out); (case hl => have := HL2.out; simp; omega); (case hb => simp); intro v' w' O' G' A'; have HG' := hid G'; have HS' := hid G'.size; obtain ⟨pq, cq, hvq⟩ := O'.byts; have hv' := hvq.1; subst hv'; clear O' G' A' hvq; try go_frame))
    | fail)
  go_ret2
  refine ⟨_, rfl, ?_⟩
  exact (below_own HBl.out HG'.out (by simp) (fun k hk => (World.ownsRow.lt HO.out k hk).1)).alloc (by have := HS'.out; simp at this; omega) _
end Go.Proofs.Ytnecigbncggogaa
