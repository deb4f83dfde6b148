/- What the document's Print answers of two operands. Conditions: the expression lies in memory, within the reach. What the document's Print answers of calls, aggregates and two operands, given what it answers of the operands. Conditions: the expression lies in memory, within the reach. -/
import Derived.Test.YtblkhlhhlalbkaaGreatDoorPL
namespace Go.Proofs.YtblkhlhhlalbkaaGreatDoor
open Go.RowKit Go.Lib Go.Sort
set_option linter.unusedVariables false
set_option linter.unusedSimpArgs false
set_option maxRecDepth 20000

set_option maxHeartbeats 8000000 in
theorem prn_bin (op vk vn cc y : Int) (vs : ByteArray) (t n : List UInt8) (xs : List Gx) (p : Option Addr) (c : Nat) (w0 : World) (h0 : lvR 4 op xs.length ≠ 0) (b off : Nat) (S : Nat → ByteArray) (hp : p = some ⟨b, off, none⟩) (hE : Elt w0 b off xs S) (sg : ByteArray) (hg3 : sg.size ≤ 3) (SG : ∀ w, Calls Tryz.prog 35 #[.int .i64 op] w fun r w' => r = .returned (.string sg) ∧ Below w.heap.size w w') (hsa : (S 0).size ≤ 100000000000000000) (hsb : (S 1).size ≤ 100000000000000000) (H0 : 0 < xs.length) (H1 : 1 < xs.length) :
    PrOk w0 ⟨4, op, ⟨vk, vn, vs⟩, t, n, cc, y, xs⟩ p c ((((opdS (xs[0]'H0) (S 0) (if lvR 4 op xs.length = 4 then 5 else lvR 4 op xs.length) ++ ⟨#[32]⟩) ++ sg) ++ ⟨#[32]⟩) ++ opdS (xs[1]'H1) (S 1) (lvR 4 op xs.length + 1)) := by
  unfold PrOk
  intro W hB
  have L := fun w => level_anyR op vk vn cc y 4 vs ⟨t.toArray⟩ ⟨n.toArray⟩ p xs.length c w
  have hr := lvR_range 4 op xs.length
  generalize lvR 4 op xs.length = l at *
  have X := hid (BGx.new W ⟨4, op, ⟨vk, vn, vs⟩, t, n, cc, y, xs⟩ p c)
  have HB := hid hB
  obtain ⟨x0, x1, x2, x3, x4, x5, x6, x7, x8, x9⟩ := X.out.gc.get
  simp only [Nat.zero_add] at x1 x2 x3 x4 x5 x6 x7 x8 x9
  go_enter Tryz.func19, Tryz.ntmps19
  have e0 : (l == 0) = false := beq_eq_false_iff_ne.2 h0
  subst hp
  have hxl : (0 : Int) < (xs.length : Int) := by omega
  have hxl1 : (1 : Int) < (xs.length : Int) := by omega
  obtain ⟨qa, ca, ga, hqa⟩ := hE 0 H0
  obtain ⟨qb, cb, gb, hqb⟩ := hE 1 H1
  have hsz := fun l => opdS_size xs[0] (S 0) l
  generalize xs[0] = xa at *
  generalize xs[1] = xb at *
  have OPa := hid (fun (l : Int) W' (hW : Below w0.heap.size w0 W') => operand_ok hqa (Nat.le_trans hsa (by decide)) l W' hW)
  have OPb := hid (fun (l : Int) W' (hW : Below w0.heap.size w0 W') => operand_ok hqb (Nat.le_trans hsb (by decide)) l W' hW)
  have SGh := hid SG
  have hsz2 := fun l => opdS_size xb (S 1) l
  have hzz : ∀ od : ByteArray, od.size ≤ (S 0).size + 2 → od.size + (⟨#[32]⟩ : ByteArray).size ≤ 9223372036854775807 ∧ (od ++ (⟨#[32]⟩ : ByteArray)).size + sg.size ≤ 9223372036854775807 ∧ ((od ++ (⟨#[32]⟩ : ByteArray)) ++ sg).size + (⟨#[32]⟩ : ByteArray).size ≤ 9223372036854775807 ∧ ∀ oe : ByteArray, oe.size ≤ (S 1).size + 2 → (((od ++ (⟨#[32]⟩ : ByteArray)) ++ sg) ++ (⟨#[32]⟩ : ByteArray)).size + oe.size ≤ 9223372036854775807 := by
    intro od h
    refine ⟨?_, ?_, ?_, fun oe h2 => ?_⟩ <;> simp only [ByteArray.size_append, sz32] <;> omega
  clear hE SG
  obtain ⟨hr1, hr2⟩ := hr
  by_cases h4 : l = 4
  · subst h4
    rw [if_pos rfl, show (4 : Int) + 1 = 5 from rfl]
    have hw5 : IntKind.i64.wrap 5 = 5 := by first | rfl | decide
    obtain ⟨z1, z2, z3, z4⟩ := hzz _ (hsz 5)
    have z5 := z4 _ (hsz2 5)
    have OPA := hid (fun W' hW => OPa.out 5 W' hW)
    have OPB := hid (fun W' hW => OPb.out 5 W' hW)
    clear h0 hzz hsz hsz2 z4 OPa OPb
    generalize opdS xa (S 0) 5 = oda at *
    generalize opdS xb (S 1) 5 = odb at *
    have z1a : oda.size + 1 ≤ 9223372036854775807 := by have q := z1; rw [sz32] at q; exact q
    have z1b : oda.size ≤ 9223372036854775806 := by omega
    have z2a : oda.size + 1 + sg.size ≤ 9223372036854775807 := by have q := z2; rw [ByteArray.size_append, sz32] at q; exact q
    have z3a : oda.size + 1 + sg.size + 1 ≤ 9223372036854775807 := by have q := z3; rw [ByteArray.size_append, ByteArray.size_append, sz32] at q; exact q
    have z5a : oda.size + 1 + sg.size + 1 + odb.size ≤ 9223372036854775807 := by have q := z5; rw [ByteArray.size_append, ByteArray.size_append, ByteArray.size_append, sz32] at q; exact q
    go_upto_region 27 with (first
      | (go_at_call 33; with_reducible refine (L _).mono ?_; rintro r w1 ⟨rfl, b1⟩; have X1 := hid (X.out.below b1); have B1 := hid (bl2 (alB W _) b1); obtain ⟨x0, x1, x2, x3, x4, x5, x6, x7, x8, x9⟩ := X1.out.gc.get; simp only [Nat.zero_add] at x1 x2 x3 x4 x5 x6 x7 x8 x9)
      | fail)
    obtain ⟨ga0, ga1, ga2, ga3, ga4, ga5, ga6, ga7, ga8, ga9⟩ := (ga.below (HB.out.trans (B1.out.mono HB.out.size))).get
    obtain ⟨gb0, gb1, gb2, gb3, gb4, gb5, gb6, gb7, gb8, gb9⟩ := (gb.below (HB.out.trans (B1.out.mono HB.out.size))).get
    simp only [Nat.zero_mul, Nat.add_zero, Nat.one_mul] at ga0 ga1 ga2 ga3 ga4 ga5 ga6 ga7 ga8 ga9 gb0 gb1 gb2 gb3 gb4 gb5 gb6 gb7 gb8 gb9
    have HS := hid (fun W' (B : Below w1.heap.size w1 W') => (And.intro (below_cell B x1) (And.intro (below_cell B x9) (And.intro (below_cell B ga0) (And.intro (below_cell B ga1) (And.intro (below_cell B ga2) (And.intro (below_cell B ga3) (And.intro (below_cell B ga4) (And.intro (below_cell B ga5) (And.intro (below_cell B ga6) (And.intro (below_cell B ga7) (And.intro (below_cell B ga8) (And.intro (below_cell B ga9) (And.intro (below_cell B gb0) (And.intro (below_cell B gb1) (And.intro (below_cell B gb2) (And.intro (below_cell B gb3) (And.intro (below_cell B gb4) (And.intro (below_cell B gb5) (And.intro (below_cell B gb6) (And.intro (below_cell B gb7) (And.intro (below_cell B gb8) (below_cell B gb9)))))))))))))))))))))))
    have hgl := cell_lt ga0
    have hxb := cell_lt x1
    go_region_held_law (fun W' => W'.cell? ⟨W.heap.size, 1, none⟩ = some (.int .i64 op) ∧ W'.cell? ⟨W.heap.size, 9, none⟩ = some (.slice (some ⟨b, off, none⟩) xs.length c) ∧ W'.cell? ⟨b, off, none⟩ = some (.int .i64 xa.k) ∧ W'.cell? ⟨b, off + 1, none⟩ = some (.int .i64 xa.op) ∧ W'.cell? ⟨b, off + 2, none⟩ = some (.int .i64 xa.v.k) ∧ W'.cell? ⟨b, off + 3, none⟩ = some (.int .i64 xa.v.n) ∧ W'.cell? ⟨b, off + 4, none⟩ = some (.string xa.v.s) ∧ W'.cell? ⟨b, off + 5, none⟩ = some (.string ⟨xa.t.toArray⟩) ∧ W'.cell? ⟨b, off + 6, none⟩ = some (.string ⟨xa.n.toArray⟩) ∧ W'.cell? ⟨b, off + 7, none⟩ = some (.int .i64 xa.c) ∧ W'.cell? ⟨b, off + 8, none⟩ = some (.int .i64 xa.y) ∧ W'.cell? ⟨b, off + 9, none⟩ = some (.slice qa xa.xs.length ca) ∧ W'.cell? ⟨b, off + 10, none⟩ = some (.int .i64 xb.k) ∧ W'.cell? ⟨b, off + 10 + 1, none⟩ = some (.int .i64 xb.op) ∧ W'.cell? ⟨b, off + 10 + 2, none⟩ = some (.int .i64 xb.v.k) ∧ W'.cell? ⟨b, off + 10 + 3, none⟩ = some (.int .i64 xb.v.n) ∧ W'.cell? ⟨b, off + 10 + 4, none⟩ = some (.string xb.v.s) ∧ W'.cell? ⟨b, off + 10 + 5, none⟩ = some (.string ⟨xb.t.toArray⟩) ∧ W'.cell? ⟨b, off + 10 + 6, none⟩ = some (.string ⟨xb.n.toArray⟩) ∧ W'.cell? ⟨b, off + 10 + 7, none⟩ = some (.int .i64 xb.c) ∧ W'.cell? ⟨b, off + 10 + 8, none⟩ = some (.int .i64 xb.y) ∧ W'.cell? ⟨b, off + 10 + 9, none⟩ = some (.slice qb xb.xs.length cb))
      (with_reducible first | exact HS.out _ (Below.refl _ _) | exact HS.out _ (Below.refl _ _).drew | exact HS.out _ B2.out | exact HS.out _ B3.out | exact HS.out _ B4.out | fail)
      (first
        | (go_at_call 35; with_reducible refine (SGh.out _).mono ?_; rintro r w3 ⟨rfl, b3⟩; have B3 := hid (bl2 B2.out b3); have B3' := hid (bl2 B2'.out b3); obtain ⟨x1, x9, ga0, ga1, ga2, ga3, ga4, ga5, ga6, ga7, ga8, ga9, gb0, gb1, gb2, gb3, gb4, gb5, gb6, gb7, gb8, gb9⟩ := HS.out _ B3.out)
        | (go_at_call 36; with_reducible refine (OPB.out _ (HB.out.trans (B3'.out.mono HB.out.size))).mono ?_; rintro r w4 ⟨rfl, b4⟩; have B4 := hid (bl2 B3.out b4); have B4' := hid (bl2 B3'.out b4))
        | (go_at_call 36; with_reducible refine (OPA.out _ (HB.out.trans ((bl2 B1.out (bdr (Below.refl _ _))).mono HB.out.size))).mono ?_; rintro r w2 ⟨rfl, b2⟩; have B2 := hid (bdr b2); have B2' := hid (bl2 B1.out B2.out); obtain ⟨x1, x9, ga0, ga1, ga2, ga3, ga4, ga5, ga6, ga7, ga8, ga9, gb0, gb1, gb2, gb3, gb4, gb5, gb6, gb7, gb8, gb9⟩ := HS.out _ B2.out)
        | fail)
    all_goals
      go_wp2_with fail
      go_ret
      exact ⟨rfl, B4'.out⟩
  · rw [if_neg h4]
    have hwl : IntKind.i64.wrap (l + 1) = l + 1 := by simp [IntKind.wrap, IntKind.bits, IntKind.signed]; omega
    have e4 : (l == 4) = false := beq_eq_false_iff_ne.2 h4
    obtain ⟨z1, z2, z3, z4⟩ := hzz _ (hsz l)
    have z5 := z4 _ (hsz2 (l + 1))
    have OPA := hid (fun W' hW => OPa.out l W' hW)
    have OPB := hid (fun W' hW => OPb.out (l + 1) W' hW)
    clear h0 hzz hsz hsz2 z4 h4 OPa OPb
    generalize opdS xa (S 0) l = oda at *
    generalize opdS xb (S 1) (l + 1) = odb at *
    have z1a : oda.size + 1 ≤ 9223372036854775807 := by have q := z1; rw [sz32] at q; exact q
    have z1b : oda.size ≤ 9223372036854775806 := by omega
    have z2a : oda.size + 1 + sg.size ≤ 9223372036854775807 := by have q := z2; rw [ByteArray.size_append, sz32] at q; exact q
    have z3a : oda.size + 1 + sg.size + 1 ≤ 9223372036854775807 := by have q := z3; rw [ByteArray.size_append, ByteArray.size_append, sz32] at q; exact q
    have z5a : oda.size + 1 + sg.size + 1 + odb.size ≤ 9223372036854775807 := by have q := z5; rw [ByteArray.size_append, ByteArray.size_append, ByteArray.size_append, sz32] at q; exact q
    go_upto_region 27 with (first
      | (go_at_call 33; with_reducible refine (L _).mono ?_; rintro r w1 ⟨rfl, b1⟩; have X1 := hid (X.out.below b1); have B1 := hid (bl2 (alB W _) b1); obtain ⟨x0, x1, x2, x3, x4, x5, x6, x7, x8, x9⟩ := X1.out.gc.get; simp only [Nat.zero_add] at x1 x2 x3 x4 x5 x6 x7 x8 x9)
      | fail)
    obtain ⟨ga0, ga1, ga2, ga3, ga4, ga5, ga6, ga7, ga8, ga9⟩ := (ga.below (HB.out.trans (B1.out.mono HB.out.size))).get
    obtain ⟨gb0, gb1, gb2, gb3, gb4, gb5, gb6, gb7, gb8, gb9⟩ := (gb.below (HB.out.trans (B1.out.mono HB.out.size))).get
    simp only [Nat.zero_mul, Nat.add_zero, Nat.one_mul] at ga0 ga1 ga2 ga3 ga4 ga5 ga6 ga7 ga8 ga9 gb0 gb1 gb2 gb3 gb4 gb5 gb6 gb7 gb8 gb9
    have HS := hid (fun W' (B : Below w1.heap.size w1 W') => (And.intro (below_cell B x1) (And.intro (below_cell B x9) (And.intro (below_cell B ga0) (And.intro (below_cell B ga1) (And.intro (below_cell B ga2) (And.intro (below_cell B ga3) (And.intro (below_cell B ga4) (And.intro (below_cell B ga5) (And.intro (below_cell B ga6) (And.intro (below_cell B ga7) (And.intro (below_cell B ga8) (And.intro (below_cell B ga9) (And.intro (below_cell B gb0) (And.intro (below_cell B gb1) (And.intro (below_cell B gb2) (And.intro (below_cell B gb3) (And.intro (below_cell B gb4) (And.intro (below_cell B gb5) (And.intro (below_cell B gb6) (And.intro (below_cell B gb7) (And.intro (below_cell B gb8) (below_cell B gb9)))))))))))))))))))))))
    have hgl := cell_lt ga0
    have hxb := cell_lt x1
    go_region_held_law (fun W' => W'.cell? ⟨W.heap.size, 1, none⟩ = some (.int .i64 op) ∧ W'.cell? ⟨W.heap.size, 9, none⟩ = some (.slice (some ⟨b, off, none⟩) xs.length c) ∧ W'.cell? ⟨b, off, none⟩ = some (.int .i64 xa.k) ∧ W'.cell? ⟨b, off + 1, none⟩ = some (.int .i64 xa.op) ∧ W'.cell? ⟨b, off + 2, none⟩ = some (.int .i64 xa.v.k) ∧ W'.cell? ⟨b, off + 3, none⟩ = some (.int .i64 xa.v.n) ∧ W'.cell? ⟨b, off + 4, none⟩ = some (.string xa.v.s) ∧ W'.cell? ⟨b, off + 5, none⟩ = some (.string ⟨xa.t.toArray⟩) ∧ W'.cell? ⟨b, off + 6, none⟩ = some (.string ⟨xa.n.toArray⟩) ∧ W'.cell? ⟨b, off + 7, none⟩ = some (.int .i64 xa.c) ∧ W'.cell? ⟨b, off + 8, none⟩ = some (.int .i64 xa.y) ∧ W'.cell? ⟨b, off + 9, none⟩ = some (.slice qa xa.xs.length ca) ∧ W'.cell? ⟨b, off + 10, none⟩ = some (.int .i64 xb.k) ∧ W'.cell? ⟨b, off + 10 + 1, none⟩ = some (.int .i64 xb.op) ∧ W'.cell? ⟨b, off + 10 + 2, none⟩ = some (.int .i64 xb.v.k) ∧ W'.cell? ⟨b, off + 10 + 3, none⟩ = some (.int .i64 xb.v.n) ∧ W'.cell? ⟨b, off + 10 + 4, none⟩ = some (.string xb.v.s) ∧ W'.cell? ⟨b, off + 10 + 5, none⟩ = some (.string ⟨xb.t.toArray⟩) ∧ W'.cell? ⟨b, off + 10 + 6, none⟩ = some (.string ⟨xb.n.toArray⟩) ∧ W'.cell? ⟨b, off + 10 + 7, none⟩ = some (.int .i64 xb.c) ∧ W'.cell? ⟨b, off + 10 + 8, none⟩ = some (.int .i64 xb.y) ∧ W'.cell? ⟨b, off + 10 + 9, none⟩ = some (.slice qb xb.xs.length cb))
      (with_reducible first | exact HS.out _ (Below.refl _ _) | exact HS.out _ (Below.refl _ _).drew | exact HS.out _ B2.out | exact HS.out _ B3.out | exact HS.out _ B4.out | fail)
      (first
        | (go_at_call 35; with_reducible refine (SGh.out _).mono ?_; rintro r w3 ⟨rfl, b3⟩; have B3 := hid (bl2 B2.out b3); have B3' := hid (bl2 B2'.out b3); obtain ⟨x1, x9, ga0, ga1, ga2, ga3, ga4, ga5, ga6, ga7, ga8, ga9, gb0, gb1, gb2, gb3, gb4, gb5, gb6, gb7, gb8, gb9⟩ := HS.out _ B3.out)
        | (go_at_call 36; with_reducible refine (OPB.out _ (HB.out.trans (B3'.out.mono HB.out.size))).mono ?_; rintro r w4 ⟨rfl, b4⟩; have B4 := hid (bl2 B3.out b4); have B4' := hid (bl2 B3'.out b4))
        | (go_at_call 36; with_reducible refine (OPA.out _ (HB.out.trans ((bl2 B1.out (bdr (Below.refl _ _))).mono HB.out.size))).mono ?_; rintro r w2 ⟨rfl, b2⟩; have B2 := hid (bdr b2); have B2' := hid (bl2 B1.out B2.out); obtain ⟨x1, x9, ga0, ga1, ga2, ga3, ga4, ga5, ga6, ga7, ga8, ga9, gb0, gb1, gb2, gb3, gb4, gb5, gb6, gb7, gb8, gb9⟩ := HS.out _ B2.out)
        | fail)
    all_goals
      go_wp2_with fail
      go_ret
      exact ⟨rfl, B4'.out⟩
end Go.Proofs.YtblkhlhhlalbkaaGreatDoor
namespace Go.Proofs.YtblkhlhhlalbkaaGreatDoor
open Go.RowKit Go.Lib Go.Sort
set_option linter.unusedVariables false
set_option linter.unusedSimpArgs false
set_option maxRecDepth 20000
set_option maxHeartbeats 8000000 in
theorem prn_agg1 (vk vn cc y : Int) (vs : ByteArray) (t n : List UInt8) (xs : List Gx) (p : Option Addr) (c : Nat) (w0 : World) (h0 : lvR 6 1 xs.length ≠ 0) (js : ByteArray) (hj : js.size ≤ 100000000000000000) (LS : ∀ W', Below w0.heap.size w0 W' → Calls Tryz.prog 37 #[.slice p xs.length c] W' fun r w' => r = .returned (.string js) ∧ Below W'.heap.size W' w') :
    PrOk w0 ⟨6, 1, ⟨vk, vn, vs⟩, t, n, cc, y, xs⟩ p c (if xs.length = 0 then (⟨#[67, 79, 85, 78, 84]⟩ : ByteArray) ++ (⟨#[40, 42, 41]⟩ : ByteArray) else (((⟨#[67, 79, 85, 78, 84]⟩ : ByteArray) ++ (⟨#[40]⟩ : ByteArray)) ++ js) ++ (⟨#[41]⟩ : ByteArray)) := by
  unfold PrOk
  intro W hB
  have L := fun w => level_anyR 1 vk vn cc y 6 vs ⟨t.toArray⟩ ⟨n.toArray⟩ p xs.length c w
  have hr := lvR_range 6 1 xs.length
  generalize lvR 6 1 xs.length = l at *
  have X := hid (BGx.new W ⟨6, 1, ⟨vk, vn, vs⟩, t, n, cc, y, xs⟩ p c)
  have HB := hid hB
  obtain ⟨x0, x1, x2, x3, x4, x5, x6, x7, x8, x9⟩ := X.out.gc.get
  simp only [Nat.zero_add] at x1 x2 x3 x4 x5 x6 x7 x8 x9
  go_enter Tryz.func19, Tryz.ntmps19
  have e0 : (l == 0) = false := beq_eq_false_iff_ne.2 h0
  have hz0 : (⟨#[67, 79, 85, 78, 84]⟩ : ByteArray).size + (⟨#[40]⟩ : ByteArray).size ≤ 9223372036854775807 := by decide
  have hz3 : (⟨#[67, 79, 85, 78, 84]⟩ : ByteArray).size + (⟨#[40, 42, 41]⟩ : ByteArray).size ≤ 9223372036854775807 := by decide
  have hz1 : ((⟨#[67, 79, 85, 78, 84]⟩ : ByteArray) ++ (⟨#[40]⟩ : ByteArray)).size + js.size ≤ 9223372036854775807 := by rw [ByteArray.size_append]; show 5 + 1 + _ ≤ _; omega
  have hz2 : (((⟨#[67, 79, 85, 78, 84]⟩ : ByteArray) ++ (⟨#[40]⟩ : ByteArray)) ++ js).size + (⟨#[41]⟩ : ByteArray).size ≤ 9223372036854775807 := by rw [ByteArray.size_append, ByteArray.size_append]; show 5 + 1 + _ + 1 ≤ _; omega
  have HLS := hid LS
  clear h0 LS
  by_cases hx : xs.length = 0
  · rw [if_pos hx]
    have ex : ((xs.length : Int) == 0) = true := by simp [hx]
    clear hx
    go_wp2_with (first
      | (go_at_call 33; with_reducible refine (L _).mono ?_; rintro r w1 ⟨rfl, b1⟩; have X1 := hid (X.out.below b1); have B1 := hid (bl2 (alB W _) b1); obtain ⟨x0, x1, x2, x3, x4, x5, x6, x7, x8, x9⟩ := X1.out.gc.get; simp only [Nat.zero_add] at x1 x2 x3 x4 x5 x6 x7 x8 x9; have hxb := cell_lt x1)
      | (go_at_call 37; with_reducible refine (HLS.out _ (HB.out.trans ((bl2 B1.out (alB _ _)).mono HB.out.size))).mono ?_; rintro r w4 ⟨rfl, b4⟩; have B4' := hid (bl2 (bl2 B1.out (alB _ _)) b4))
      | fail)
    go_ret
    exact ⟨rfl, bl2 B1.out (alB _ _)⟩
  · rw [if_neg hx]
    have ex : ((xs.length : Int) == 0) = false := beq_eq_false_iff_ne.2 (by omega)
    clear hx
    go_wp2_with (first
      | (go_at_call 33; with_reducible refine (L _).mono ?_; rintro r w1 ⟨rfl, b1⟩; have X1 := hid (X.out.below b1); have B1 := hid (bl2 (alB W _) b1); obtain ⟨x0, x1, x2, x3, x4, x5, x6, x7, x8, x9⟩ := X1.out.gc.get; simp only [Nat.zero_add] at x1 x2 x3 x4 x5 x6 x7 x8 x9; have hxb := cell_lt x1)
      | (go_at_call 37; with_reducible refine (HLS.out _ (HB.out.trans ((bl2 B1.out (alB _ _)).mono HB.out.size))).mono ?_; rintro r w4 ⟨rfl, b4⟩; have B4' := hid (bl2 (bl2 B1.out (alB _ _)) b4))
      | fail)
    go_ret
    exact ⟨rfl, B4'.out⟩
set_option maxHeartbeats 8000000 in
theorem prn_agg2 (vk vn cc y : Int) (vs : ByteArray) (t n : List UInt8) (xs : List Gx) (p : Option Addr) (c : Nat) (w0 : World) (h0 : lvR 6 2 xs.length ≠ 0) (js : ByteArray) (hj : js.size ≤ 100000000000000000) (LS : ∀ W', Below w0.heap.size w0 W' → Calls Tryz.prog 37 #[.slice p xs.length c] W' fun r w' => r = .returned (.string js) ∧ Below W'.heap.size W' w') :
    PrOk w0 ⟨6, 2, ⟨vk, vn, vs⟩, t, n, cc, y, xs⟩ p c (if xs.length = 0 then (⟨#[83, 85, 77]⟩ : ByteArray) ++ (⟨#[40, 42, 41]⟩ : ByteArray) else (((⟨#[83, 85, 77]⟩ : ByteArray) ++ (⟨#[40]⟩ : ByteArray)) ++ js) ++ (⟨#[41]⟩ : ByteArray)) := by
  unfold PrOk
  intro W hB
  have L := fun w => level_anyR 2 vk vn cc y 6 vs ⟨t.toArray⟩ ⟨n.toArray⟩ p xs.length c w
  have hr := lvR_range 6 2 xs.length
  generalize lvR 6 2 xs.length = l at *
  have X := hid (BGx.new W ⟨6, 2, ⟨vk, vn, vs⟩, t, n, cc, y, xs⟩ p c)
  have HB := hid hB
  obtain ⟨x0, x1, x2, x3, x4, x5, x6, x7, x8, x9⟩ := X.out.gc.get
  simp only [Nat.zero_add] at x1 x2 x3 x4 x5 x6 x7 x8 x9
  go_enter Tryz.func19, Tryz.ntmps19
  have e0 : (l == 0) = false := beq_eq_false_iff_ne.2 h0
  have hz0 : (⟨#[83, 85, 77]⟩ : ByteArray).size + (⟨#[40]⟩ : ByteArray).size ≤ 9223372036854775807 := by decide
  have hz3 : (⟨#[83, 85, 77]⟩ : ByteArray).size + (⟨#[40, 42, 41]⟩ : ByteArray).size ≤ 9223372036854775807 := by decide
  have hz1 : ((⟨#[83, 85, 77]⟩ : ByteArray) ++ (⟨#[40]⟩ : ByteArray)).size + js.size ≤ 9223372036854775807 := by rw [ByteArray.size_append]; show 3 + 1 + _ ≤ _; omega
  have hz2 : (((⟨#[83, 85, 77]⟩ : ByteArray) ++ (⟨#[40]⟩ : ByteArray)) ++ js).size + (⟨#[41]⟩ : ByteArray).size ≤ 9223372036854775807 := by rw [ByteArray.size_append, ByteArray.size_append]; show 3 + 1 + _ + 1 ≤ _; omega
  have HLS := hid LS
  clear h0 LS
  by_cases hx : xs.length = 0
  · rw [if_pos hx]
    have ex : ((xs.length : Int) == 0) = true := by simp [hx]
    clear hx
    go_wp2_with (first
      | (go_at_call 33; with_reducible refine (L _).mono ?_; rintro r w1 ⟨rfl, b1⟩; have X1 := hid (X.out.below b1); have B1 := hid (bl2 (alB W _) b1); obtain ⟨x0, x1, x2, x3, x4, x5, x6, x7, x8, x9⟩ := X1.out.gc.get; simp only [Nat.zero_add] at x1 x2 x3 x4 x5 x6 x7 x8 x9; have hxb := cell_lt x1)
      | (go_at_call 37; with_reducible refine (HLS.out _ (HB.out.trans ((bl2 B1.out (alB _ _)).mono HB.out.size))).mono ?_; rintro r w4 ⟨rfl, b4⟩; have B4' := hid (bl2 (bl2 B1.out (alB _ _)) b4))
      | fail)
    go_ret
    exact ⟨rfl, bl2 B1.out (alB _ _)⟩
  · rw [if_neg hx]
    have ex : ((xs.length : Int) == 0) = false := beq_eq_false_iff_ne.2 (by omega)
    clear hx
    go_wp2_with (first
      | (go_at_call 33; with_reducible refine (L _).mono ?_; rintro r w1 ⟨rfl, b1⟩; have X1 := hid (X.out.below b1); have B1 := hid (bl2 (alB W _) b1); obtain ⟨x0, x1, x2, x3, x4, x5, x6, x7, x8, x9⟩ := X1.out.gc.get; simp only [Nat.zero_add] at x1 x2 x3 x4 x5 x6 x7 x8 x9; have hxb := cell_lt x1)
      | (go_at_call 37; with_reducible refine (HLS.out _ (HB.out.trans ((bl2 B1.out (alB _ _)).mono HB.out.size))).mono ?_; rintro r w4 ⟨rfl, b4⟩; have B4' := hid (bl2 (bl2 B1.out (alB _ _)) b4))
      | fail)
    go_ret
    exact ⟨rfl, B4'.out⟩
set_option maxHeartbeats 8000000 in
theorem prn_agg3 (vk vn cc y : Int) (vs : ByteArray) (t n : List UInt8) (xs : List Gx) (p : Option Addr) (c : Nat) (w0 : World) (h0 : lvR 6 3 xs.length ≠ 0) (js : ByteArray) (hj : js.size ≤ 100000000000000000) (LS : ∀ W', Below w0.heap.size w0 W' → Calls Tryz.prog 37 #[.slice p xs.length c] W' fun r w' => r = .returned (.string js) ∧ Below W'.heap.size W' w') :
    PrOk w0 ⟨6, 3, ⟨vk, vn, vs⟩, t, n, cc, y, xs⟩ p c (if xs.length = 0 then (⟨#[77, 73, 78]⟩ : ByteArray) ++ (⟨#[40, 42, 41]⟩ : ByteArray) else (((⟨#[77, 73, 78]⟩ : ByteArray) ++ (⟨#[40]⟩ : ByteArray)) ++ js) ++ (⟨#[41]⟩ : ByteArray)) := by
  unfold PrOk
  intro W hB
  have L := fun w => level_anyR 3 vk vn cc y 6 vs ⟨t.toArray⟩ ⟨n.toArray⟩ p xs.length c w
  have hr := lvR_range 6 3 xs.length
  generalize lvR 6 3 xs.length = l at *
  have X := hid (BGx.new W ⟨6, 3, ⟨vk, vn, vs⟩, t, n, cc, y, xs⟩ p c)
  have HB := hid hB
  obtain ⟨x0, x1, x2, x3, x4, x5, x6, x7, x8, x9⟩ := X.out.gc.get
  simp only [Nat.zero_add] at x1 x2 x3 x4 x5 x6 x7 x8 x9
  go_enter Tryz.func19, Tryz.ntmps19
  have e0 : (l == 0) = false := beq_eq_false_iff_ne.2 h0
  have hz0 : (⟨#[77, 73, 78]⟩ : ByteArray).size + (⟨#[40]⟩ : ByteArray).size ≤ 9223372036854775807 := by decide
  have hz3 : (⟨#[77, 73, 78]⟩ : ByteArray).size + (⟨#[40, 42, 41]⟩ : ByteArray).size ≤ 9223372036854775807 := by decide
  have hz1 : ((⟨#[77, 73, 78]⟩ : ByteArray) ++ (⟨#[40]⟩ : ByteArray)).size + js.size ≤ 9223372036854775807 := by rw [ByteArray.size_append]; show 3 + 1 + _ ≤ _; omega
  have hz2 : (((⟨#[77, 73, 78]⟩ : ByteArray) ++ (⟨#[40]⟩ : ByteArray)) ++ js).size + (⟨#[41]⟩ : ByteArray).size ≤ 9223372036854775807 := by rw [ByteArray.size_append, ByteArray.size_append]; show 3 + 1 + _ + 1 ≤ _; omega
  have HLS := hid LS
  clear h0 LS
  by_cases hx : xs.length = 0
  · rw [if_pos hx]
    have ex : ((xs.length : Int) == 0) = true := by simp [hx]
    clear hx
    go_wp2_with (first
      | (go_at_call 33; with_reducible refine (L _).mono ?_; rintro r w1 ⟨rfl, b1⟩; have X1 := hid (X.out.below b1); have B1 := hid (bl2 (alB W _) b1); obtain ⟨x0, x1, x2, x3, x4, x5, x6, x7, x8, x9⟩ := X1.out.gc.get; simp only [Nat.zero_add] at x1 x2 x3 x4 x5 x6 x7 x8 x9; have hxb := cell_lt x1)
      | (go_at_call 37; with_reducible refine (HLS.out _ (HB.out.trans ((bl2 B1.out (alB _ _)).mono HB.out.size))).mono ?_; rintro r w4 ⟨rfl, b4⟩; have B4' := hid (bl2 (bl2 B1.out (alB _ _)) b4))
      | fail)
    go_ret
    exact ⟨rfl, bl2 B1.out (alB _ _)⟩
  · rw [if_neg hx]
    have ex : ((xs.length : Int) == 0) = false := beq_eq_false_iff_ne.2 (by omega)
    clear hx
    go_wp2_with (first
      | (go_at_call 33; with_reducible refine (L _).mono ?_; rintro r w1 ⟨rfl, b1⟩; have X1 := hid (X.out.below b1); have B1 := hid (bl2 (alB W _) b1); obtain ⟨x0, x1, x2, x3, x4, x5, x6, x7, x8, x9⟩ := X1.out.gc.get; simp only [Nat.zero_add] at x1 x2 x3 x4 x5 x6 x7 x8 x9; have hxb := cell_lt x1)
      | (go_at_call 37; with_reducible refine (HLS.out _ (HB.out.trans ((bl2 B1.out (alB _ _)).mono HB.out.size))).mono ?_; rintro r w4 ⟨rfl, b4⟩; have B4' := hid (bl2 (bl2 B1.out (alB _ _)) b4))
      | fail)
    go_ret
    exact ⟨rfl, B4'.out⟩
set_option maxHeartbeats 8000000 in
theorem prn_agg4 (vk vn cc y : Int) (vs : ByteArray) (t n : List UInt8) (xs : List Gx) (p : Option Addr) (c : Nat) (w0 : World) (h0 : lvR 6 4 xs.length ≠ 0) (js : ByteArray) (hj : js.size ≤ 100000000000000000) (LS : ∀ W', Below w0.heap.size w0 W' → Calls Tryz.prog 37 #[.slice p xs.length c] W' fun r w' => r = .returned (.string js) ∧ Below W'.heap.size W' w') :
    PrOk w0 ⟨6, 4, ⟨vk, vn, vs⟩, t, n, cc, y, xs⟩ p c (if xs.length = 0 then (⟨#[77, 65, 88]⟩ : ByteArray) ++ (⟨#[40, 42, 41]⟩ : ByteArray) else (((⟨#[77, 65, 88]⟩ : ByteArray) ++ (⟨#[40]⟩ : ByteArray)) ++ js) ++ (⟨#[41]⟩ : ByteArray)) := by
  unfold PrOk
  intro W hB
  have L := fun w => level_anyR 4 vk vn cc y 6 vs ⟨t.toArray⟩ ⟨n.toArray⟩ p xs.length c w
  have hr := lvR_range 6 4 xs.length
  generalize lvR 6 4 xs.length = l at *
  have X := hid (BGx.new W ⟨6, 4, ⟨vk, vn, vs⟩, t, n, cc, y, xs⟩ p c)
  have HB := hid hB
  obtain ⟨x0, x1, x2, x3, x4, x5, x6, x7, x8, x9⟩ := X.out.gc.get
  simp only [Nat.zero_add] at x1 x2 x3 x4 x5 x6 x7 x8 x9
  go_enter Tryz.func19, Tryz.ntmps19
  have e0 : (l == 0) = false := beq_eq_false_iff_ne.2 h0
  have hz0 : (⟨#[77, 65, 88]⟩ : ByteArray).size + (⟨#[40]⟩ : ByteArray).size ≤ 9223372036854775807 := by decide
  have hz3 : (⟨#[77, 65, 88]⟩ : ByteArray).size + (⟨#[40, 42, 41]⟩ : ByteArray).size ≤ 9223372036854775807 := by decide
  have hz1 : ((⟨#[77, 65, 88]⟩ : ByteArray) ++ (⟨#[40]⟩ : ByteArray)).size + js.size ≤ 9223372036854775807 := by rw [ByteArray.size_append]; show 3 + 1 + _ ≤ _; omega
  have hz2 : (((⟨#[77, 65, 88]⟩ : ByteArray) ++ (⟨#[40]⟩ : ByteArray)) ++ js).size + (⟨#[41]⟩ : ByteArray).size ≤ 9223372036854775807 := by rw [ByteArray.size_append, ByteArray.size_append]; show 3 + 1 + _ + 1 ≤ _; omega
  have HLS := hid LS
  clear h0 LS
  by_cases hx : xs.length = 0
  · rw [if_pos hx]
    have ex : ((xs.length : Int) == 0) = true := by simp [hx]
    clear hx
    go_wp2_with (first
      | (go_at_call 33; with_reducible refine (L _).mono ?_; rintro r w1 ⟨rfl, b1⟩; have X1 := hid (X.out.below b1); have B1 := hid (bl2 (alB W _) b1); obtain ⟨x0, x1, x2, x3, x4, x5, x6, x7, x8, x9⟩ := X1.out.gc.get; simp only [Nat.zero_add] at x1 x2 x3 x4 x5 x6 x7 x8 x9; have hxb := cell_lt x1)
      | (go_at_call 37; with_reducible refine (HLS.out _ (HB.out.trans ((bl2 B1.out (alB _ _)).mono HB.out.size))).mono ?_; rintro r w4 ⟨rfl, b4⟩; have B4' := hid (bl2 (bl2 B1.out (alB _ _)) b4))
      | fail)
    go_ret
    exact ⟨rfl, bl2 B1.out (alB _ _)⟩
  · rw [if_neg hx]
    have ex : ((xs.length : Int) == 0) = false := beq_eq_false_iff_ne.2 (by omega)
    clear hx
    go_wp2_with (first
      | (go_at_call 33; with_reducible refine (L _).mono ?_; rintro r w1 ⟨rfl, b1⟩; have X1 := hid (X.out.below b1); have B1 := hid (bl2 (alB W _) b1); obtain ⟨x0, x1, x2, x3, x4, x5, x6, x7, x8, x9⟩ := X1.out.gc.get; simp only [Nat.zero_add] at x1 x2 x3 x4 x5 x6 x7 x8 x9; have hxb := cell_lt x1)
      | (go_at_call 37; with_reducible refine (HLS.out _ (HB.out.trans ((bl2 B1.out (alB _ _)).mono HB.out.size))).mono ?_; rintro r w4 ⟨rfl, b4⟩; have B4' := hid (bl2 (bl2 B1.out (alB _ _)) b4))
      | fail)
    go_ret
    exact ⟨rfl, B4'.out⟩
end Go.Proofs.YtblkhlhhlalbkaaGreatDoor
