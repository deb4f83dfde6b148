/- The law AggOrder returns true and writes nothing that was there. Conditions: the numbers are within the numbers, the texts within the reach. -/
import Derived.Test.YtfcecblppdgcbaaAgPerm
import Derived.Test.YtfcecblppdgcbaaAgInts
import Derived.Deep.CutRange
import Derived.Deep.QuietTactic
import Derived.BigQuiet
namespace Go.Proofs.Ytfcecblppdgcbaa
open Go.RowKit Go.Lib Go.Sort
set_option linter.unusedVariables false
set_option maxRecDepth 20000

theorem odN {w : World} (n : Nat) : Below w.heap.size w (w.drewN n) := ⟨rfl, rfl, rfl, Nat.le_refl _, fun _ _ => rfl⟩
theorem below_put3o {B g o : Nat} {a w : World} (h : Below B a w) (hd : B ≤ g) (x y z : Value) : Below B a (((w.setCell ⟨g, o, none⟩ x).setCell ⟨g, o + 1, none⟩ y).setCell ⟨g, o + 2, none⟩ z) :=
  ((h.setCell (p := ⟨g, o, none⟩) hd x).setCell (p := ⟨g, o + 1, none⟩) hd y).setCell (p := ⟨g, o + 2, none⟩) hd z
set_option maxHeartbeats 8000000 in
theorem order_walk (op : Int) (xs : List Val) (sw : List Int) (p1 p2 : Option Addr) (c1 c2 : Nat) (w : World) (hA : xs.length ≤ maxLen) (hS : sw.length ≤ 140737488351232) (n1 : p1 = none → xs.length = 0 ∧ c1 = 0) (rA : Row w p1 xs) (rS : Ints w p2 sw) (hi : ∀ x ∈ xs, inR x.n) (hy : ∀ x ∈ xs, x.s.size ≤ 140737488351232) :
    Calls Try.prog 4 #[.int .i64 op, .slice p1 xs.length c1, .slice p2 sw.length c2] w fun e w' => e = .returned (.bool true) ∧ Below w.heap.size w w' := by
  have W := fun w => works_any w
  have R := fun w r => right_any xs p1 c1 w hA r
  have HX := hid rA
  have HSw := hid rS
  have heq := run_eqv
  unfold maxLen at hA
  cases hr : (xs.all rightV && decide (xs.length ≤ 300))
  · rw [hr] at R
    clear rA rS hr
    go_enter Try.func4, Try.ntmps4
    go_wp2_with (first
      | (go_at_call 15; with_reducible refine (W _).mono ?_; rintro e w1 ⟨rfl, b1⟩)
      | (go_at_call 10; with_reducible refine (R _ (HX.out.below b1)).mono ?_; rintro e w2 ⟨rfl, b2⟩)
      | fail)
    go_ret
    exact ⟨rfl, below2 b1 b2⟩
  rw [hr] at R
  simp only [Bool.and_eq_true, decide_eq_true_eq] at hr
  have hl := hr.2
  have hrx : ∀ x ∈ xs, rightV x = true := List.all_eq_true.1 hr.1
  have hxx : ∀ x ∈ xs, inR x.n ∧ x.s.size ≤ 281474976710655 := fun x hx => ⟨hi x hx, by have := hy x hx; omega⟩
  obtain ⟨o, ho1, ho2⟩ := umod_nat op 4 (by decide) (by decide)
  have hoo : (1 : Int) ≤ 1 + (o : Int) ∧ 1 + (o : Int) ≤ 4 := by omega
  have G := hid (fun (ms : List Val) p c w (hp : List.Perm ms xs) (r : Row w p ms) => gathered_any (1 + (o : Int)) ms p c w hoo (by rw [hp.length_eq]; omega) r (fun x hx => hxx x (hp.mem_iff.1 hx)))
  have PM := hid (fun (ms : List Val) (hp : List.Perm ms xs) a b ha hb => runA_perm hoo hp hrx (a := a) (b := b) ha hb)
  have HN1 := hid n1
  clear rA rS hr hi hy hxx hrx n1
  go_enter Try.func4, Try.ntmps4
  go_upto_region 6 with (first
    | (go_at_call 15; with_reducible refine (W _).mono ?_; rintro e w1 ⟨rfl, b1⟩)
    | (go_at_call 10; with_reducible refine (R _ (HX.out.below b1)).mono ?_; rintro e w2 ⟨rfl, b2⟩; have B2 := hid (below2 b1 b2))
    | (at_builtin; (first
      | (refine appVs w2.heap.size _ _ _ [] xs p1 c1 rfl rfl rfl rfl (own_litV w2) HN1.out ((HX.out.below B2.out).below (alloc_bel w2 _)) (by simp; omega) (by simp) ?_; intro v6 w6 o6 b6; have O6 := hid o6; have B26 := hid ((alloc_bel w2 _).trans b6); have B6 := hid (B2.out.trans (B26.out.mono B2.out.size)); clear o6 b6)))
    | fail)
  rw [List.nil_append] at O6
  obtain ⟨pm, cm, hv6, r6, _, _⟩ := ownV_slice O6.out
  have HG : ∃ g, xs ≠ [] → pm = some ⟨g, 0, none⟩ ∧ w.heap.size ≤ g ∧ RowM w6 g xs := by
    by_cases hE : xs = []
    · exact ⟨0, fun h => absurd hE h⟩
    · obtain ⟨g, cap, hv, hg, hm⟩ := RowM.of O6.out hE
      rw [hv6] at hv
      simp only [Value.slice.injEq] at hv
      exact ⟨g, fun _ => ⟨hv.1, Nat.le_trans B2.out.size hg, hm⟩⟩
  obtain ⟨g, HGG⟩ := HG
  subst hv6
  have HR6 := hid r6
  have HGH := hid HGG
  clear B2 B26 O6 r6 HGG
  go_wp2_with fail
  go_loopw [8] (fun i wr => ∃ (k : Nat) (ms : List Val), k ≤ sw.length + 2 ∧ i = .int .i64 k ∧ List.Perm ms xs ∧ (xs ≠ [] → RowM wr g ms) ∧ Row wr pm ms ∧ Below w.heap.size w wr) (fun i _ => sw.length + 2 - (intOf i).toNat)
  case atStart => exact ⟨0, xs, Nat.zero_le _, rfl, List.Perm.refl _, fun h => (HGH.out h).2.2, HR6.out, B6.out⟩
  case round =>
    obtain ⟨k, ms, hk2, rfl, hp, hm, rm, hb⟩ := hrel
    have HB := hid hb
    have HP := hid hp
    have HRM := hid rm
    have hml := hp.length_eq
    have hkb : (k : Int) ≤ 140737488351234 := by omega
    by_cases hlt : k + 1 < sw.length ∧ 0 < xs.length
    · obtain ⟨hk, hx⟩ := hlt
      have hE : xs ≠ [] := List.length_pos_iff.1 hx
      obtain ⟨hpm, hgw, _⟩ := HGH.out hE
      subst hpm
      have HM := hid (hm hE)
      obtain ⟨sb, so, rfl, s1⟩ := (HSw.out.below hb).at (Nat.lt_of_succ_lt hk)
      obtain ⟨sb', so', e', s2⟩ := (HSw.out.below hb).at hk
      simp only [Option.some.injEq, Addr.mk.injEq, and_true] at e'
      obtain ⟨rfl, rfl⟩ := e'
      generalize sw[k] = y1 at *
      generalize sw[k + 1] = y2 at *
      obtain ⟨a, ha, ha1⟩ := umod_nat y1 (xs.length : Int) (by omega) (by omega)
      obtain ⟨b, hbq, hb1⟩ := umod_nat y2 (xs.length : Int) (by omega) (by omega)
      have hDw : IntKind.u64.wrap (xs.length : Int) = (xs.length : Int) := by
        have e : IntKind.u64.wrap (xs.length : Int) = (xs.length : Int) % 18446744073709551616 := by simp [IntKind.wrap, IntKind.bits, IntKind.signed]
        rw [e]; omega
      have hD0 : ¬ ((xs.length : Int) = 0) := by omega
      have hD1 : (0 : Int) < (xs.length : Int) := by omega
      have haD : a < xs.length := by omega
      have hbD : b < xs.length := by omega
      have haL : a < ms.length := by omega
      have hbL : b < ms.length := by omega
      have hkS : (k : Int) + 1 < (sw.length : Int) := by omega
      have hkS0 : (k : Int) < (sw.length : Int) := by omega
      have hsl := cell_lt s1
      have s2' : wr.cell? ⟨sb, so + k + 1, none⟩ = some (.int .i64 y2) := by rw [show so + k + 1 = so + (k + 1) by omega]; exact s2
      have HSW := hid ((swap_perm ms a b haL hbL).trans hp)
      clear hp hm rm hb
      go_wp2_with fail
      go_quiet (fail)
      generalize hY : World.drewN wr _ = Y at *
      have BY : Below wr.heap.size wr Y := by rw [← hY]; exact odN _
      have RY := hid (HM.out.below BY)
      have HBY := hid (HB.out.trans (BY.mono HB.out.size))
      clear s1 s2 s2' hsl hY BY HM HB HRM
      obtain ⟨e0, e1, e2, fe0, fe1, fe2⟩ := RY.out a haL
      have hgl := cell_lt e0
      have haD' : (a : Int) < (xs.length : Int) := ha1
      have hbD' : (b : Int) < (xs.length : Int) := hb1
      by_cases hab : a = b
      · subst hab
        generalize ms[a] = ma at *
        obtain ⟨ak, an, at1⟩ := ma
        simp only [] at *
        go_wp2_with fail
        go_region
        all_goals
          go_wp2_with fail
          go_roundw
          case rel =>
            have F1 := ((RY.out.set a haL ⟨ak, an, at1⟩).set a (by rw [List.length_set]; exact haL) ⟨ak, an, at1⟩)
            have F2 := F1.below ((Below.refl _ _).drew)
            exact ⟨k + 2, _, by omega, by go_num, HSW.out, fun _ => F2, F2.row, (below_put3o (below_put3o HBY.out hgw _ _ _) hgw _ _ _).drew⟩
          case measure => simp [intOf]; omega
      · obtain ⟨d0, d1, d2, fd0, fd1, fd2⟩ := RY.out b hbL
        generalize ms[a] = ma at *
        generalize ms[b] = mb at *
        obtain ⟨ak, an, at1⟩ := ma
        obtain ⟨bk, bn, bt1⟩ := mb
        simp only [] at *
        have n1 : a * 3 ≠ b * 3 := by omega
        have n2 : a * 3 + 1 ≠ b * 3 := by omega
        have n3 : a * 3 + 2 ≠ b * 3 := by omega
        have n4 : a * 3 ≠ b * 3 + 1 := by omega
        have n5 : a * 3 + 2 ≠ b * 3 + 1 := by omega
        have n6 : a * 3 ≠ b * 3 + 2 := by omega
        have n7 : a * 3 + 1 ≠ b * 3 + 2 := by omega
        go_wp2_with fail
        go_region
        all_goals
          go_wp2_with fail
          go_roundw
          case rel =>
            have F1 := ((RY.out.set a haL ⟨bk, bn, bt1⟩).set b (by rw [List.length_set]; exact hbL) ⟨ak, an, at1⟩)
            have F2 := F1.below ((Below.refl _ _).drew)
            exact ⟨k + 2, _, by omega, by go_num, HSW.out, fun _ => F2, F2.row, (below_put3o (below_put3o HBY.out hgw _ _ _) hgw _ _ _).drew⟩
          case measure => simp [intOf]; omega
    · have hx : ¬ ((k : Int) + 1 < (sw.length : Int)) ∨ ((k : Int) + 1 < (sw.length : Int) ∧ ¬ (0 : Int) < (xs.length : Int)) := by omega
      have G1 := hid (fun w (r : Row w p1 xs) => G.out xs p1 c1 w (List.Perm.refl _) r)
      have G2 := hid (fun w (r : Row w pm ms) => G.out ms pm cm w hp r)
      have PQ := hid (fun a b (ha : runA (1 + (o : Int)) false (zeroV (1 + (o : Int))) xs = some a) (hb : runA (1 + (o : Int)) false (zeroV (1 + (o : Int))) ms = some b) => PM.out ms hp a b ha hb)
      rw [hml] at G2
      generalize runA (1 + (o : Int)) false (zeroV (1 + (o : Int))) xs = ra at *
      generalize runA (1 + (o : Int)) false (zeroV (1 + (o : Int))) ms = rb at *
      clear hp hm rm hb
      have hres : ra.isSome = true → rb.isSome = true → ra.getD nullV = rb.getD nullV := by
        intro h1 h2
        cases ra with
        | none => cases h1
        | some a =>
          cases rb with
          | none => cases h2
          | some b => exact PQ.out a b rfl rfl
      clear PQ
      generalize ra.getD nullV = va at *
      generalize rb.getD nullV = vb at *
      generalize ra.isSome = oa at *
      generalize rb.isSome = ob at *
      obtain ⟨a1, a2, a3⟩ := va
      obtain ⟨b1, b2, b3⟩ := vb
      have HRS := hid hres
      clear hres
      unfold Val.v at G1 G2
      simp only [] at G1 G2
      have q := eqv_same a1 a2 a3
      have hdd : ¬ ((k : Int) + 1 < (sw.length : Int)) → decide ((k : Int) + 1 < (sw.length : Int)) = false := fun h => decide_eq_false h
      rcases hx with hx | ⟨hx, hx2⟩ <;> cases oa <;> cases ob
      · have hd := hdd hx
        clear hdd
        clear HRS
        go_wp2_with (first
          | (go_at_call 16; with_reducible refine (G1.out _ (HX.out.below HB.out)).mono ?_; rintro e w7 ⟨rfl, b7⟩; have B7 := below2 HB.out b7; have A7 := hid (Box.new w7 a1 a2 a3 32); have B7' := hid (B7.alloc B7.size (.cells #[.int .i64 a1, .int .i64 a2, .string a3] 32)); have R7 := hid ((HRM.out.below b7).below (alloc_bel _ (.cells #[.int .i64 a1, .int .i64 a2, .string a3] 32))))
          | (go_at_call 16; with_reducible refine (G2.out _ R7.out).mono ?_; rintro e w8 ⟨rfl, b8⟩; have B8 := hid (B7'.out.trans (b8.mono B7'.out.size)); obtain ⟨x0, x1, x2, _⟩ := (A7.out.below b8).out; have hx0 := cell_lt x0)
          | fail)
        go_ret
        exact ⟨rfl, B8.out.alloc B8.out.size _⟩
      · have hd := hdd hx
        clear hdd
        clear HRS
        go_wp2_with (first
          | (go_at_call 16; with_reducible refine (G1.out _ (HX.out.below HB.out)).mono ?_; rintro e w7 ⟨rfl, b7⟩; have B7 := below2 HB.out b7; have A7 := hid (Box.new w7 a1 a2 a3 32); have B7' := hid (B7.alloc B7.size (.cells #[.int .i64 a1, .int .i64 a2, .string a3] 32)); have R7 := hid ((HRM.out.below b7).below (alloc_bel _ (.cells #[.int .i64 a1, .int .i64 a2, .string a3] 32))))
          | (go_at_call 16; with_reducible refine (G2.out _ R7.out).mono ?_; rintro e w8 ⟨rfl, b8⟩; have B8 := hid (B7'.out.trans (b8.mono B7'.out.size)); obtain ⟨x0, x1, x2, _⟩ := (A7.out.below b8).out; have hx0 := cell_lt x0)
          | fail)
        go_ret
        exact ⟨rfl, B8.out.alloc B8.out.size _⟩
      · have hd := hdd hx
        clear hdd
        clear HRS
        go_wp2_with (first
          | (go_at_call 16; with_reducible refine (G1.out _ (HX.out.below HB.out)).mono ?_; rintro e w7 ⟨rfl, b7⟩; have B7 := below2 HB.out b7; have A7 := hid (Box.new w7 a1 a2 a3 32); have B7' := hid (B7.alloc B7.size (.cells #[.int .i64 a1, .int .i64 a2, .string a3] 32)); have R7 := hid ((HRM.out.below b7).below (alloc_bel _ (.cells #[.int .i64 a1, .int .i64 a2, .string a3] 32))))
          | (go_at_call 16; with_reducible refine (G2.out _ R7.out).mono ?_; rintro e w8 ⟨rfl, b8⟩; have B8 := hid (B7'.out.trans (b8.mono B7'.out.size)); obtain ⟨x0, x1, x2, _⟩ := (A7.out.below b8).out; have hx0 := cell_lt x0)
          | fail)
        go_ret
        exact ⟨rfl, B8.out.alloc B8.out.size _⟩
      · have hd := hdd hx
        clear hdd
        have hab := HRS.out rfl rfl
        simp only [Val.mk.injEq] at hab
        obtain ⟨rfl, rfl, rfl⟩ := hab
        clear HRS
        go_wp2_with (first
          | (go_at_call 16; with_reducible refine (G1.out _ (HX.out.below HB.out)).mono ?_; rintro e w7 ⟨rfl, b7⟩; have B7 := below2 HB.out b7; have A7 := hid (Box.new w7 a1 a2 a3 32); have B7' := hid (B7.alloc B7.size (.cells #[.int .i64 a1, .int .i64 a2, .string a3] 32)); have R7 := hid ((HRM.out.below b7).below (alloc_bel _ (.cells #[.int .i64 a1, .int .i64 a2, .string a3] 32))))
          | (go_at_call 16; with_reducible refine (G2.out _ R7.out).mono ?_; rintro e w8 ⟨rfl, b8⟩; have B8 := hid (B7'.out.trans (b8.mono B7'.out.size)); obtain ⟨x0, x1, x2, _⟩ := (A7.out.below b8).out; have hx0 := cell_lt x0)
          | fail)
        go_ret
        exact ⟨rfl, B8.out.alloc B8.out.size _⟩
      · clear hdd
        clear HRS
        go_wp2_with (first
          | (go_at_call 16; with_reducible refine (G1.out _ (HX.out.below HB.out)).mono ?_; rintro e w7 ⟨rfl, b7⟩; have B7 := below2 HB.out b7; have A7 := hid (Box.new w7 a1 a2 a3 32); have B7' := hid (B7.alloc B7.size (.cells #[.int .i64 a1, .int .i64 a2, .string a3] 32)); have R7 := hid ((HRM.out.below b7).below (alloc_bel _ (.cells #[.int .i64 a1, .int .i64 a2, .string a3] 32))))
          | (go_at_call 16; with_reducible refine (G2.out _ R7.out).mono ?_; rintro e w8 ⟨rfl, b8⟩; have B8 := hid (B7'.out.trans (b8.mono B7'.out.size)); obtain ⟨x0, x1, x2, _⟩ := (A7.out.below b8).out; have hx0 := cell_lt x0)
          | fail)
        go_ret
        exact ⟨rfl, B8.out.alloc B8.out.size _⟩
      · clear hdd
        clear HRS
        go_wp2_with (first
          | (go_at_call 16; with_reducible refine (G1.out _ (HX.out.below HB.out)).mono ?_; rintro e w7 ⟨rfl, b7⟩; have B7 := below2 HB.out b7; have A7 := hid (Box.new w7 a1 a2 a3 32); have B7' := hid (B7.alloc B7.size (.cells #[.int .i64 a1, .int .i64 a2, .string a3] 32)); have R7 := hid ((HRM.out.below b7).below (alloc_bel _ (.cells #[.int .i64 a1, .int .i64 a2, .string a3] 32))))
          | (go_at_call 16; with_reducible refine (G2.out _ R7.out).mono ?_; rintro e w8 ⟨rfl, b8⟩; have B8 := hid (B7'.out.trans (b8.mono B7'.out.size)); obtain ⟨x0, x1, x2, _⟩ := (A7.out.below b8).out; have hx0 := cell_lt x0)
          | fail)
        go_ret
        exact ⟨rfl, B8.out.alloc B8.out.size _⟩
      · clear hdd
        clear HRS
        go_wp2_with (first
          | (go_at_call 16; with_reducible refine (G1.out _ (HX.out.below HB.out)).mono ?_; rintro e w7 ⟨rfl, b7⟩; have B7 := below2 HB.out b7; have A7 := hid (Box.new w7 a1 a2 a3 32); have B7' := hid (B7.alloc B7.size (.cells #[.int .i64 a1, .int .i64 a2, .string a3] 32)); have R7 := hid ((HRM.out.below b7).below (alloc_bel _ (.cells #[.int .i64 a1, .int .i64 a2, .string a3] 32))))
          | (go_at_call 16; with_reducible refine (G2.out _ R7.out).mono ?_; rintro e w8 ⟨rfl, b8⟩; have B8 := hid (B7'.out.trans (b8.mono B7'.out.size)); obtain ⟨x0, x1, x2, _⟩ := (A7.out.below b8).out; have hx0 := cell_lt x0)
          | fail)
        go_ret
        exact ⟨rfl, B8.out.alloc B8.out.size _⟩
      · clear hdd
        have hab := HRS.out rfl rfl
        simp only [Val.mk.injEq] at hab
        obtain ⟨rfl, rfl, rfl⟩ := hab
        clear HRS
        go_wp2_with (first
          | (go_at_call 16; with_reducible refine (G1.out _ (HX.out.below HB.out)).mono ?_; rintro e w7 ⟨rfl, b7⟩; have B7 := below2 HB.out b7; have A7 := hid (Box.new w7 a1 a2 a3 32); have B7' := hid (B7.alloc B7.size (.cells #[.int .i64 a1, .int .i64 a2, .string a3] 32)); have R7 := hid ((HRM.out.below b7).below (alloc_bel _ (.cells #[.int .i64 a1, .int .i64 a2, .string a3] 32))))
          | (go_at_call 16; with_reducible refine (G2.out _ R7.out).mono ?_; rintro e w8 ⟨rfl, b8⟩; have B8 := hid (B7'.out.trans (b8.mono B7'.out.size)); obtain ⟨x0, x1, x2, _⟩ := (A7.out.below b8).out; have hx0 := cell_lt x0)
          | fail)
        go_ret
        exact ⟨rfl, B8.out.alloc B8.out.size _⟩
end Go.Proofs.Ytfcecblppdgcbaa
