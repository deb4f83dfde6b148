/- Two sets of pages side by side: what each call does to both. No conditions. -/
import Derived.Test.YtehfbdhkicdfiaaFrLaws
import Derived.Test.YtehfbdhkicdfiaaFrROnly
namespace Go.Proofs.Ytehfbdhkicdfiaa
open Go.RowKit
set_option linter.unusedVariables false
set_option maxRecDepth 20000

/-- Two sets side by side; all that they own lies above a bound. -/
structure TS (B : Nat) (w0 w : World) (sb g cb cg : Nat) (u v : List Bool) : Prop where
  l : FSt w sb g u
  r : FSt w cb cg v
  bel : Below B w0 w
  hs : B ≤ sb
  hg : B ≤ g
  hb : B ≤ cb
  hc : B ≤ cg
  hB : B ≤ w.heap.size
  d1 : cb ≠ g
  d2 : cg ≠ g
  d3 : sb ≠ cg
/-- Only the rows of the two sets turned. -/
def Tw (g cg : Nat) (w w' : World) : Prop := Chg (fun k => k = g ∨ k = cg) w w'
theorem TS.onL {B : Nat} {w0 w w' : World} {sb g cb cg : Nat} {u v u' : List Bool} (h : TS B w0 w sb g cb cg u v) (f : FSt w' sb g u') (c : Chg (· = g) w w') : TS B w0 w' sb g cb cg u' v ∧ Tw g cg w w' :=
  ⟨⟨f, h.r.chg c h.d1 h.d2, chg_below h.bel c h.hg h.hB, h.hs, h.hg, h.hb, h.hc, Nat.le_trans h.hB c.size, h.d1, h.d2, h.d3⟩, c.mono (fun j _ e => Or.inl e)⟩
theorem TS.onR {B : Nat} {w0 w w' : World} {sb g cb cg : Nat} {u v v' : List Bool} (h : TS B w0 w sb g cb cg u v) (f : FSt w' cb cg v') (c : Chg (· = cg) w w') : TS B w0 w' sb g cb cg u v' ∧ Tw g cg w w' :=
  ⟨⟨h.l.chg c h.d3 (Ne.symm h.d2), f, chg_below h.bel c h.hc h.hB, h.hs, h.hg, h.hb, h.hc, Nat.le_trans h.hB c.size, h.d1, h.d2, h.d3⟩, c.mono (fun j _ e => Or.inr e)⟩
theorem TS.grow {B : Nat} {w0 w w' : World} {sb g cb cg : Nat} {u v : List Bool} (h : TS B w0 w sb g cb cg u v) (b : Below w.heap.size w w') : TS B w0 w' sb g cb cg u v :=
  ⟨h.l.below b, h.r.below b, h.bel.trans (b.mono h.hB), h.hs, h.hg, h.hb, h.hc, Nat.le_trans h.hB b.size, h.d1, h.d2, h.d3⟩
theorem TS.drew {B : Nat} {w0 w : World} {sb g cb cg : Nat} {u v : List Bool} (h : TS B w0 w sb g cb cg u v) : TS B w0 w.drew sb g cb cg u v := h.grow (Below.refl _ _).drew
/-- A block beside the sets is turned. -/
theorem TS.turn {B : Nat} {w0 w w' : World} {sb g cb cg z : Nat} {u v : List Bool} (h : TS B w0 w sb g cb cg u v) (c : Chg (· = z) w w') (hz : B ≤ z) (h1 : sb ≠ z) (h2 : g ≠ z) (h3 : cb ≠ z) (h4 : cg ≠ z) : TS B w0 w' sb g cb cg u v :=
  ⟨h.l.chg c h1 h2, h.r.chg c h3 h4, chg_below h.bel c hz h.hB, h.hs, h.hg, h.hb, h.hc, Nat.le_trans h.hB c.size, h.d1, h.d2, h.d3⟩
/-- A new set in the place of the first. -/
theorem TS.swap {B : Nat} {w0 w w' : World} {sb g cb cg nb ng : Nat} {u v : List Bool} (h : TS B w0 w sb g cb cg u v) (b : Below w.heap.size w w') (f : FSt w' nb ng u) (h1 : w.heap.size ≤ nb) (h2 : w.heap.size ≤ ng) : TS B w0 w' sb g nb ng u u ∧ TS B w0 w' nb ng cb cg u v := by
  have k := h.grow b
  have a1 := h.l.lt
  have a2 := h.l.slt
  have a3 := h.r.lt
  have a4 := h.r.slt
  have a5 := h.hB
  exact ⟨⟨k.l, f, k.bel, h.hs, h.hg, by omega, by omega, k.hB, by omega, by omega, by omega⟩, ⟨f, k.r, k.bel, by omega, by omega, h.hb, h.hc, k.hB, by omega, by omega, by omega⟩⟩
theorem Tw.refl (g cg : Nat) (w : World) : Tw g cg w w := Chg.refl _ _
section
variable {B : Nat} {w0 w : World} {sb g cb cg : Nat} {u v : List Bool}

theorem TS.leftL (h : TS B w0 w sb g cb cg u v) : Calls Try.prog 15 #[.pointer (some ⟨sb, 0, none⟩)] w fun e w' => e = .returned (.int .i64 (left u : Int)) ∧ w' = w := left_any sb g u w h.l
theorem TS.leftR (h : TS B w0 w sb g cb cg u v) : Calls Try.prog 15 #[.pointer (some ⟨cb, 0, none⟩)] w fun e w' => e = .returned (.int .i64 (left v : Int)) ∧ w' = w := left_any cb cg v w h.r
theorem TS.leftD (h : TS B w0 w sb g cb cg u v) : Calls Try.prog 16 #[.pointer (some ⟨cb, 0, none⟩)] w fun e w' => e = .returned (.int .i64 (left v : Int)) ∧ w' = w := rleft_any cb cg v w h.r
theorem TS.freeL (h : TS B w0 w sb g cb cg u v) (n : Int) : Calls Try.prog 17 #[.pointer (some ⟨sb, 0, none⟩), .int .i64 n] w fun e w' => e = .returned (.bool (fr u n)) ∧ w' = w := free_any sb g u n w h.l
theorem TS.freeR (h : TS B w0 w sb g cb cg u v) (n : Int) : Calls Try.prog 17 #[.pointer (some ⟨cb, 0, none⟩), .int .i64 n] w fun e w' => e = .returned (.bool (fr v n)) ∧ w' = w := free_any cb cg v n w h.r
theorem TS.freeD (h : TS B w0 w sb g cb cg u v) (n : Int) : Calls Try.prog 18 #[.pointer (some ⟨cb, 0, none⟩), .int .i64 n] w fun e w' => e = .returned (.bool (fr v n)) ∧ w' = w := rfree_any cb cg v n w h.r
theorem TS.takeL (h : TS B w0 w sb g cb cg u v) : Calls Try.prog 8 #[.pointer (some ⟨sb, 0, none⟩)] w fun e w' => e = .returned (.tuple #[.int .i64 (takeN u), .bool (takeB u)]) ∧ TS B w0 w' sb g cb cg (takeU u) v ∧ Tw g cg w w' := by
  refine (take_any sb g u w h.l).mono ?_
  rintro e w' ⟨he, f, c, _⟩
  exact ⟨he, h.onL f c⟩
theorem TS.takeR (h : TS B w0 w sb g cb cg u v) : Calls Try.prog 8 #[.pointer (some ⟨cb, 0, none⟩)] w fun e w' => e = .returned (.tuple #[.int .i64 (takeN v), .bool (takeB v)]) ∧ TS B w0 w' sb g cb cg u (takeU v) ∧ Tw g cg w w' := by
  refine (take_any cb cg v w h.r).mono ?_
  rintro e w' ⟨he, f, c, _⟩
  exact ⟨he, h.onR f c⟩
theorem TS.takeD (h : TS B w0 w sb g cb cg u v) : Calls Try.prog 9 #[.pointer (some ⟨cb, 0, none⟩)] w fun e w' => e = .returned (.tuple #[.int .i64 (takeN v), .bool (takeB v)]) ∧ TS B w0 w' sb g cb cg u (takeU v) ∧ Tw g cg w w' := by
  refine (rtake_any cb cg v w h.r).mono ?_
  rintro e w' ⟨he, f, c, _⟩
  exact ⟨he, h.onR f c⟩
theorem TS.giveL (h : TS B w0 w sb g cb cg u v) (n : Int) : Calls Try.prog 10 #[.pointer (some ⟨sb, 0, none⟩), .int .i64 n] w fun e w' => e = .returned (.bool (giveB u n)) ∧ TS B w0 w' sb g cb cg (giveU u n) v ∧ Tw g cg w w' := by
  refine (give_any sb g u n w h.l).mono ?_
  rintro e w' ⟨he, f, c, _⟩
  exact ⟨he, h.onL f c⟩
theorem TS.giveR (h : TS B w0 w sb g cb cg u v) (n : Int) : Calls Try.prog 10 #[.pointer (some ⟨cb, 0, none⟩), .int .i64 n] w fun e w' => e = .returned (.bool (giveB v n)) ∧ TS B w0 w' sb g cb cg u (giveU v n) ∧ Tw g cg w w' := by
  refine (give_any cb cg v n w h.r).mono ?_
  rintro e w' ⟨he, f, c, _⟩
  exact ⟨he, h.onR f c⟩
theorem TS.giveD (h : TS B w0 w sb g cb cg u v) (n : Int) : Calls Try.prog 11 #[.pointer (some ⟨cb, 0, none⟩), .int .i64 n] w fun e w' => e = .returned (.bool (giveB v n)) ∧ TS B w0 w' sb g cb cg u (giveU v n) ∧ Tw g cg w w' := by
  refine (rgive_any cb cg v n w h.r).mono ?_
  rintro e w' ⟨he, f, c, _⟩
  exact ⟨he, h.onR f c⟩
theorem TS.onlyL (h : TS B w0 w sb g cb cg u v) (p : Option Addr) (l : List Int) (c : Nat) (hl : Ints w p l) (hm : l.length ≤ maxLen) (hp : l ≠ [] → ∀ b off, p = some ⟨b, off, none⟩ → b ≠ g) : Calls Try.prog 12 #[.pointer (some ⟨sb, 0, none⟩), .slice p l.length c] w fun e w' => e = .returned (.int .i64 (onlyE u l)) ∧ TS B w0 w' sb g cb cg (onlyU u l) v ∧ Tw g cg w w' := by
  refine (only_any sb g u p l c w h.l hl hm hp).mono ?_
  rintro e w' ⟨he, f, c, _⟩
  exact ⟨he, h.onL f c⟩
theorem TS.onlyD (h : TS B w0 w sb g cb cg u v) (p : Option Addr) (l : List Int) (c : Nat) (hl : Ints w p l) (hm : l.length ≤ maxLen) (hp : l ≠ [] → ∀ b off, p = some ⟨b, off, none⟩ → b ≠ cg) : Calls Try.prog 13 #[.pointer (some ⟨cb, 0, none⟩), .slice p l.length c] w fun e w' => e = .returned (.int .i64 (onlyE v l)) ∧ TS B w0 w' sb g cb cg u (onlyU v l) ∧ Tw g cg w w' := by
  refine (ronly_any cb cg v p l c w h.r hl hm hp).mono ?_
  rintro e w' ⟨he, f, c, _⟩
  exact ⟨he, h.onR f c⟩
end
end Go.Proofs.Ytehfbdhkicdfiaa
