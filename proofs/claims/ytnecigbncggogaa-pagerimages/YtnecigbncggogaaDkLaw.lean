/- A disk beside other blocks: what a law's walk asks. Condition: fewer than a million writes are pending. -/
import Derived.Test.YtnecigbncggogaaDkOwn
namespace Go.Proofs.Ytnecigbncggogaa
open Go.RowKit
set_option linter.unusedVariables false
set_option maxRecDepth 20000

/-- A disk whose blocks are all new, beside blocks Z that it does not touch. -/
structure DW (s : Nat) (w0 w : World) (db : Nat) (d : Dk) (Z : Nat → Prop) : Prop where
  bel : Below s w0 w
  size : s ≤ w.heap.size
  lt : ∀ k, Z k → k < w.heap.size
  pd : PD w db (fun k => s ≤ k ∧ ¬ Z k) d
/-- The blocks of a set are as they were. -/
def Kept (Z : Nat → Prop) (w w' : World) : Prop := w.heap.size ≤ w'.heap.size ∧ ∀ k, Z k → w'.heap[k]? = w.heap[k]?
theorem Kept.blk {Z : Nat → Prop} {w w' : World} {g : Nat} {cs : List Value} {t : TypeId} (h : Kept Z w w') (b : Blk w g cs t) (hz : Z g) : Blk w' g cs t := b.same (h.2 g hz)
theorem Kept.pg {Z : Nat → Prop} {w w' : World} {g : Nat} {l : List UInt8} (h : Kept Z w w') (b : Pg w g l) (hz : Z g) : Pg w' g l := Blk.same b (h.2 g hz)
theorem Kept.mono {Z Y : Nat → Prop} {w w' : World} (h : Kept Z w w') (hy : ∀ k, Y k → Z k) : Kept Y w w' := ⟨h.1, fun k hk => h.2 k (hy k hk)⟩
theorem Kept.trans {Z : Nat → Prop} {a b c : World} (h : Kept Z a b) (k : Kept Z b c) : Kept Z a c := ⟨Nat.le_trans h.1 k.1, fun j hj => (k.2 j hj).trans (h.2 j hj)⟩
theorem Kept.of_below {Z : Nat → Prop} {a b : World} (h : Below a.heap.size a b) (hz : ∀ k, Z k → k < a.heap.size) : Kept Z a b := ⟨h.size, fun k hk => h.block k (hz k hk)⟩
/-- What is old or protected. -/
def old (s : Nat) (Z : Nat → Prop) : Nat → Prop := fun k => k < s ∨ Z k
variable {s : Nat} {w0 w : World} {db : Nat} {d : Dk} {Z : Nat → Prop}
theorem DW.okk (h : DW s w0 w db d Z) : d.ok := h.pd.okk
theorem DW.ne (h : DW s w0 w db d Z) {g : Nat} (hg : g < s ∨ Z g) : g ≠ db := by
  rintro rfl
  have := h.pd.mem
  rcases hg with hg | hg
  · omega
  · exact this.2 hg
/-- Behind a step that turned only the disk's own blocks. -/
theorem DW.next (h : DW s w0 w db d Z) {w' : World} {d' : Dk} (P : PD w' db (more (fun k => s ≤ k ∧ ¬ Z k) w w') d') (C : Chg (fun k => s ≤ k ∧ ¬ Z k) w w') : DW s w0 w' db d' Z ∧ Kept (old s Z) w w' := by
  refine ⟨⟨h.bel.trans (C.below (fun k f => f.1) h.size), Nat.le_trans h.size C.size, fun k hk => Nat.lt_of_lt_of_le (h.lt k hk) C.size, P.mono (fun k _ f => ?_)⟩, C.size, fun k hk => ?_⟩
  · rcases f with f | f
    · exact f
    · exact ⟨Nat.le_trans h.size f.1, fun z => by have := h.lt k z; omega⟩
  · refine C.block k ?_ ?_
    · rcases hk with hk | hk
      · have := h.size; omega
      · exact h.lt k hk
    · rintro ⟨f1, f2⟩
      rcases hk with hk | hk
      · omega
      · exact f2 hk
/-- Behind a step that made new blocks alone, all of which are to be protected. -/
theorem DW.add (h : DW s w0 w db d Z) {w' : World} (B : Below w.heap.size w w') : DW s w0 w' db d (fun k => Z k ∨ (w.heap.size ≤ k ∧ k < w'.heap.size)) := by
  refine ⟨h.bel.trans (B.mono h.size), Nat.le_trans h.size B.size, fun k hk => ?_, ((h.pd.mono (fun k hk f => ?_)).below B)⟩
  · rcases hk with hk | hk
    · exact Nat.lt_of_lt_of_le (h.lt k hk) B.size
    · exact hk.2
  · refine ⟨f.1, fun z => ?_⟩
    rcases z with z | z
    · exact f.2 z
    · omega
/-- .. none of which is. -/
theorem DW.grow (h : DW s w0 w db d Z) {w' : World} (B : Below w.heap.size w w') : DW s w0 w' db d Z :=
  ⟨h.bel.trans (B.mono h.size), Nat.le_trans h.size B.size, fun k hk => Nat.lt_of_lt_of_le (h.lt k hk) B.size, h.pd.below B⟩
/-- Fewer are protected. -/
theorem DW.less (h : DW s w0 w db d Z) {Y : Nat → Prop} (hY : ∀ k, Y k → Z k) : DW s w0 w db d Y :=
  ⟨h.bel, h.size, fun k hk => h.lt k (hY k hk), h.pd.mono (fun k _ f => ⟨f.1, fun y => f.2 (hY k y)⟩)⟩
theorem DW.made {n : Nat} {db : Nat} {w w' : World} (P : PD w' db (fun k => w.heap.size ≤ k ∧ k < w'.heap.size) d) (B : Below w.heap.size w w') (hs : s ≤ w.heap.size) (B0 : Below s w0 w) : DW s w0 w' db d (fun k => s ≤ k ∧ k < w.heap.size) := by
  refine ⟨B0.trans (B.mono hs), Nat.le_trans hs B.size, fun k hk => Nat.lt_of_lt_of_le hk.2 B.size, P.mono (fun k _ f => ⟨Nat.le_trans hs f.1, fun z => by omega⟩)⟩
theorem DW.write (h : DW s w0 w db d Z) (n : Int) (sp : Option Addr) (b : List UInt8) (cap : Nat) (hs : Byts w sp b) (hb : ∀ g off, sp = some ⟨g, off, none⟩ → g < s ∨ Z g ∨ g ≠ db) (hm : d.pend.length < 1000000) :
    Calls Try.prog 38 #[.pointer (some ⟨db, 0, none⟩), .int .i64 n, .slice sp b.length cap] w fun e w' => e = .returned (.int .i64 (d.wrErr n b)) ∧ DW s w0 w' db (d.wr n b) Z ∧ Kept (old s Z) w w' := by
  refine (writeD db _ d n sp b cap w h.pd hs (fun g off e => ?_) hm).mono ?_
  · rcases hb g off e with q | q | q
    · exact h.ne (Or.inl q)
    · exact h.ne (Or.inr q)
    · exact q
  · rintro e w' ⟨he, P, C⟩
    exact ⟨he, h.next P C⟩
theorem DW.sync (h : DW s w0 w db d Z) (hm : d.pend.length < 1000000) :
    Calls Try.prog 44 #[.pointer (some ⟨db, 0, none⟩)] w fun e w' => e = .returned (.int .i64 d.syErr) ∧ DW s w0 w' db d.sy Z ∧ Kept (old s Z) w w' := by
  refine (syncD db _ d w h.pd hm).mono ?_
  rintro e w' ⟨he, P, C⟩
  exact ⟨he, h.next P C⟩
theorem DW.mend (h : DW s w0 w db d Z) (kp : Option Addr) (keep : List Bool) (kc : Nat) (torn cut : Int) (hm : d.pend.length < 1000000) (hk : Bits w kp keep) (hkl : keep ≠ [] → ∀ b off, kp = some ⟨b, off, none⟩ → b < s ∨ Z b) :
    Calls Try.prog 28 #[.pointer (some ⟨db, 0, none⟩), .slice kp keep.length kc, .int .i64 torn, .int .i64 cut] w fun e w' => e = .returned (.tuple #[]) ∧ DW s w0 w' db (d.mended keep torn cut) Z ∧ Kept (old s Z) w w' := by
  refine (mendD db _ d kp keep kc torn cut w h.pd hm hk (fun hem b off e f => ?_)).mono ?_
  · rcases hkl hem b off e with q | q
    · omega
    · exact f.2 q
  · rintro e w' ⟨he, P, C⟩
    exact ⟨he, h.next P C⟩
theorem DW.arms (h : DW s w0 w db d Z) (n : Int) (hn : n ≤ 9223372036854775807) :
    Calls Try.prog 27 #[.pointer (some ⟨db, 0, none⟩), .int .i64 n] w fun e w' => e = .returned (.tuple #[]) ∧ DW s w0 w' db (d.armed n) Z ∧ Kept (old s Z) w w' := by
  refine (armD db _ d n w h.pd hn).mono ?_
  rintro e w' ⟨he, P, C, _⟩
  exact ⟨he, h.next (P.mono (fun k _ f => Or.inl f)) C⟩
theorem DW.read (h : DW s w0 w db d Z) (n : Int) (hr : d.reach n = 0) :
    Calls Try.prog 37 #[.pointer (some ⟨db, 0, none⟩), .int .i64 n] w fun e w' => e = .returned (.tuple #[.slice (some ⟨w.heap.size + 1, 0, none⟩) 512 512, .int .i64 0]) ∧ Pg w' (w.heap.size + 1) (d.has n) ∧ Below w.heap.size w w' ∧ w'.heap.size = w.heap.size + 2 := readD db _ d n w h.pd hr
theorem DW.readBad (h : DW s w0 w db d Z) (n : Int) (hr : d.reach n ≠ 0) :
    Calls Try.prog 37 #[.pointer (some ⟨db, 0, none⟩), .int .i64 n] w fun e w' => e = .returned (.tuple #[.slice none 0 0, .int .i64 (d.reach n)]) ∧ w' = w := Go.Proofs.Ytnecigbncggogaa.readBad db _ d n w h.pd hr
theorem DW.downs (h : DW s w0 w db d Z) : Calls Try.prog 17 #[.pointer (some ⟨db, 0, none⟩)] w fun e w' => e = .returned (.bool d.down) ∧ w' = w := downD db _ d w h.pd
theorem DW.pages (h : DW s w0 w db d Z) : Calls Try.prog 39 #[.pointer (some ⟨db, 0, none⟩)] w fun e w' => e = .returned (.int .i64 (d.pages : Int)) ∧ w' = w := pagesD db _ d w h.pd
end Go.Proofs.Ytnecigbncggogaa
