/- What Read of package expr catches. Conditions: none. What Read of package expr answers. Conditions: the words lie within the reach. What Read of package expr answers at a place that is none of the list. Conditions: none. -/
import Derived.Test.YtfhhigablibeoaaGreatDoorExNewR
import Derived.WalkSmall
namespace Go.Proofs.YtfhhigablibeoaaGreatDoor
open Go.RowKit Go.Lib Go.Sort
set_option linter.unusedVariables false
set_option maxRecDepth 20000

theorem assert_flt (v : Value) (w : World) : (Instr.typeAssert (.iface 50 v) 20 50 false).run Tryz.prog w = .ok v w := by kernel_rfl
theorem catch_idle (a b c : Addr) (w : World) :
    CallsD Tryz.prog 19 #[.pointer (some a), .pointer (some b), .pointer (some c)] .returning w fun e u' w' => e = .returned (.tuple #[]) ∧ u' = .returning ∧ w' = w := by
  refine callsD_of_wpS Tryz.func19 rfl fun c₀ cs hu => ?_
  apply wpS_seq
  apply wpS_region
  simp [wpOpsS, go_sem, recoverD, hu, Tryz.ntmps19, Exit.thenS]
  refine wpS_of_wp ?_
  change Code.wp _ _ _ { tmps := #[.pointer (some a), .pointer (some b), .pointer (some c), .nilIface, .nilIface, undef, undef, undef, undef, undef, undef], defers := [] } w
  go_wp2
  cases c₀
  simp_all [bodyPostS, results, Tryz.results19]
set_option maxHeartbeats 8000000 in
theorem catch_panicking (eb fb : Nat) (w : World) (hx : ResX w eb) (c1 : w.cell? ⟨eb + 1, 0, none⟩ = some (.int .i64 0)) (f1 : w.frozen? ⟨eb + 1, 0, none⟩ = false) (c2 : w.cell? ⟨eb + 2, 0, none⟩ = some .nilIface) (f2 : w.frozen? ⟨eb + 2, 0, none⟩ = false) :
    CallsD Tryz.prog 19 #[.pointer (some ⟨eb, 0, none⟩), .pointer (some ⟨eb + 1, 0, none⟩), .pointer (some ⟨eb + 2, 0, none⟩)] (.panicking (thrF fb)) w fun e u' w' =>
      e = .returned (.tuple #[]) ∧ u' = .panicking [{ v := .iface 50 (.pointer (some ⟨fb, 0, none⟩)), recovered := true }] ∧ ResX w' eb ∧ w'.cell? ⟨eb + 1, 0, none⟩ = some (.int .i64 0) ∧ w'.cell? ⟨eb + 2, 0, none⟩ = some (.iface 50 (.pointer (some ⟨fb, 0, none⟩))) ∧ Chg (fun k => k = eb ∨ k = eb + 1 ∨ k = eb + 2) w w' := by
  refine callsD_of_wpS Tryz.func19 rfl fun c₀ cs hu => ?_
  apply wpS_seq
  apply wpS_region
  unfold thrF at hu
  simp [wpOpsS, go_sem, recoverD, hu, Tryz.ntmps19, Exit.thenS]
  refine wpS_of_wp ?_
  change Code.wp _ _ _ { tmps := #[.pointer (some ⟨eb, 0, none⟩), .pointer (some ⟨eb + 1, 0, none⟩), .pointer (some ⟨eb + 2, 0, none⟩), .iface 50 (.pointer (some ⟨fb, 0, none⟩)), .iface 50 (.pointer (some ⟨fb, 0, none⟩)), undef, undef, undef, undef, undef, undef], defers := [] } w
  have hta := assert_flt
  obtain ⟨z0, z1, z2, z3, z4, z5, z6, z7, z8, z9⟩ := hx.cells
  have zf := hx.frozen
  go_upto_region 2 with fail
  go_region
  have K := put10_chg w eb (.int .i64 0) (.int .i64 0) (.int .i64 0) (.int .i64 0) (.string ⟨#[]⟩) (.string ⟨#[]⟩) (.string ⟨#[]⟩) (.int .i64 0) (.int .i64 0) (.slice none 0 0)
  have R1 : ResX (put10 w eb (.int .i64 0) (.int .i64 0) (.int .i64 0) (.int .i64 0) (.string ⟨#[]⟩) (.string ⟨#[]⟩) (.string ⟨#[]⟩) (.int .i64 0) (.int .i64 0) (.slice none 0 0)) eb := BX.put (e := ⟨0, 0, v0, [], [], []⟩) (e' := ⟨0, 0, v0, [], [], []⟩) (p := none) (p' := none) (c := 0) (c' := 0) hx
  unfold put10 at K R1
  generalize hW : World.setCell _ ⟨eb, 9, none⟩ _ = W at *
  clear hW
  have d1 := K.cell c1 (show ¬ (eb + 1 = eb) by omega)
  have d2 := K.cell c2 (show ¬ (eb + 2 = eb) by omega)
  have C1 : Chg (· = eb + 1) W (W.setCell ⟨eb + 1, 0, none⟩ (.int .i64 0)) := chg_set (Chg.refl _ _) _
  have C2 : Chg (· = eb + 2) (W.setCell ⟨eb + 1, 0, none⟩ (.int .i64 0)) ((W.setCell ⟨eb + 1, 0, none⟩ (.int .i64 0)).setCell ⟨eb + 2, 0, none⟩ (.iface 50 (.pointer (some ⟨fb, 0, none⟩)))) := chg_set (Chg.refl _ _) _
  have R2 := (R1.chg C1 (show ¬ (eb = eb + 1) by omega)).chg C2 (show ¬ (eb = eb + 2) by omega)
  have g1 : (W.setCell ⟨eb + 1, 0, none⟩ (.int .i64 0)).cell? ⟨eb + 1, 0, none⟩ = some (.int .i64 0) := by simp [go_sem, d1]
  have g1' := C2.cell g1 (show ¬ (eb + 1 = eb + 2) by omega)
  have d2' := C1.cell d2 (show ¬ (eb + 2 = eb + 1) by omega)
  have g2 : ((W.setCell ⟨eb + 1, 0, none⟩ (.int .i64 0)).setCell ⟨eb + 2, 0, none⟩ (.iface 50 (.pointer (some ⟨fb, 0, none⟩)))).cell? ⟨eb + 2, 0, none⟩ = some (.iface 50 (.pointer (some ⟨fb, 0, none⟩))) := by simp [go_sem, d2']
  have CC : Chg (fun k => k = eb ∨ k = eb + 1 ∨ k = eb + 2) w ((W.setCell ⟨eb + 1, 0, none⟩ (.int .i64 0)).setCell ⟨eb + 2, 0, none⟩ (.iface 50 (.pointer (some ⟨fb, 0, none⟩)))) := ((K.mono (G := fun k => k = eb ∨ k = eb + 1 ∨ k = eb + 2) (fun j _ q => Or.inl q)).trans C1 (fun j _ q => Or.inr (Or.inl q))).trans C2 (fun j _ q => Or.inr (Or.inr q))
  show bodyPostS _ _ _ _ _ Exit.normal _ _ _
  simp [bodyPostS, results, Tryz.results19]
  exact ⟨R2, g1', g2, CC.drew⟩
end Go.Proofs.YtfhhigablibeoaaGreatDoor
namespace Go.Proofs.YtfhhigablibeoaaGreatDoor
open Go.RowKit Go.Lib Go.Sort
set_option linter.unusedVariables false
set_option maxRecDepth 20000

/-- What Read answers. -/
def readEnd (xs : Ts) (x : Rd Ex) (w : World) (e : Ending) (w' : World) : Prop :=
  Below w.heap.size w w' ∧ match x with
    | .ok y => ∃ v, e = .returned (.tuple #[v, .int .i64 ((xs.length : Int) - (y.2.length : Int)), .nilIface]) ∧ QX w.heap.size w' v y.1
    | .error y => ∃ b, e = .returned (.tuple #[.agg #[.int .i64 0, .int .i64 0, .int .i64 0, .int .i64 0, .string ⟨#[]⟩, .string ⟨#[]⟩, .string ⟨#[]⟩, .int .i64 0, .int .i64 0, .slice none 0 0], .int .i64 0, .iface 50 (.pointer (some ⟨b, 0, none⟩))]) ∧ Flt w' b (plc xs y.1) y.2
theorem hLines (rb : Nat) (p : Option Addr) (c : Nat) (xs l : Ts) (w : World) (r : RS w rb p c xs l 32) : Calls Tryz.prog 70 #[.pointer (some ⟨rb + 25, 0, none⟩), .pointer (some ⟨rb + 23, 0, none⟩), .pointer (some ⟨rb + 24, 0, none⟩)] w (RdE (QX w.heap.size) rb p c xs 32 ((lns 32).orr l) w) := (lines_ok 32).2.2 w l r
set_option maxHeartbeats 16000000 in
theorem read_any {p : Option Addr} {c : Nat} {xs : Ts} (i : Nat) (w : World) (hi : i < xs.length) (ht : TR w p xs) (hg : Gl w) (hlen : xs.length ≤ 140737488351232) (hpls : ∀ i (h : i < xs.length), xs[i].2 ≤ 140737488351232) (htxt : ∀ x, x ∈ xs → x.1.s.length ≤ 140737488351232) :
    Calls Tryz.prog 9 #[.slice p xs.length c, .int .i64 (i : Int)] w (readEnd xs ((lns 32).orr (xs.drop i)) w) := by
  have hmf' := hmf
  obtain ⟨hs, e1, e2, e3⟩ := alc3 w (.cells #[.int .i64 0, .int .i64 0, .int .i64 0, .int .i64 0, .string ⟨#[]⟩, .string ⟨#[]⟩, .string ⟨#[]⟩, .int .i64 0, .int .i64 0, .slice none 0 0] 32) (.cells #[.int .i64 0] 3) (.cells #[.nilIface] 25)
  have B3 := (((Below.refl w.heap.size w).alloc (Nat.le_refl _) (.cells #[.int .i64 0, .int .i64 0, .int .i64 0, .int .i64 0, .string ⟨#[]⟩, .string ⟨#[]⟩, .string ⟨#[]⟩, .int .i64 0, .int .i64 0, .slice none 0 0] 32)).alloc (by simp) (.cells #[.int .i64 0] 3)).alloc (by simp; omega) (.cells #[.nilIface] 25)
  have HB := hid B3
  have HN := hid (newReader_any (c := c) (l := xs.drop i) (i : Int) (((w.alloc (.cells #[.int .i64 0, .int .i64 0, .int .i64 0, .int .i64 0, .string ⟨#[]⟩, .string ⟨#[]⟩, .string ⟨#[]⟩, .int .i64 0, .int .i64 0, .slice none 0 0] 32)).alloc (.cells #[.int .i64 0] 3)).alloc (.cells #[.nilIface] 25)) (by rw [List.length_drop]; omega) (ht.below B3) (hg.chg (F := fun _ => False) (Chg.of_below B3) id id) (List.drop_suffix _ _) hlen (by omega) hpls htxt)
  rw [hs] at HN
  have HRes : Hid (ResX (((w.alloc (.cells #[.int .i64 0, .int .i64 0, .int .i64 0, .int .i64 0, .string ⟨#[]⟩, .string ⟨#[]⟩, .string ⟨#[]⟩, .int .i64 0, .int .i64 0, .slice none 0 0] 32)).alloc (.cells #[.int .i64 0] 3)).alloc (.cells #[.nilIface] 25)) w.heap.size) := e1
  have HO2 := hid e2
  have k1 := hid (And.intro (show (((w.alloc (.cells #[.int .i64 0, .int .i64 0, .int .i64 0, .int .i64 0, .string ⟨#[]⟩, .string ⟨#[]⟩, .string ⟨#[]⟩, .int .i64 0, .int .i64 0, .slice none 0 0] 32)).alloc (.cells #[.int .i64 0] 3)).alloc (.cells #[.nilIface] 25)).cell? ⟨w.heap.size + 1, 0, none⟩ = some (.int .i64 0) by rw [Lib.cell_of_heap e2]; rfl) (Lib.frozen_of_heap e2 0))
  have k2 := hid (And.intro (show (((w.alloc (.cells #[.int .i64 0, .int .i64 0, .int .i64 0, .int .i64 0, .string ⟨#[]⟩, .string ⟨#[]⟩, .string ⟨#[]⟩, .int .i64 0, .int .i64 0, .slice none 0 0] 32)).alloc (.cells #[.int .i64 0] 3)).alloc (.cells #[.nilIface] 25)).cell? ⟨w.heap.size + 2, 0, none⟩ = some .nilIface by rw [Lib.cell_of_heap e3]; rfl) (Lib.frozen_of_heap e3 0))
  have hi1 : ¬ (i : Int) < 0 := by omega
  have hi2 : ¬ (xs.length : Int) ≤ (i : Int) := by omega
  obtain ⟨R, hres⟩ : ∃ R, (lns 32).orr (xs.drop i) = R := ⟨_, rfl⟩
  rw [hres]
  have HLi := hid (fun w' (r : RS w' (w.heap.size + 3) p c xs (xs.drop i) 32) => hLines (w.heap.size + 3) p c xs (xs.drop i) w' r)
  rw [hres] at HLi
  unfold RdE QX QF at HLi
  clear e1 e2 e3 B3 ht hg hres
  cases R with
  | error x =>
    simp only [] at HLi
    go_enter_defers Tryz.func9, Tryz.ntmps9
    go_upto_region 4 with fail
    generalize hW : World.alloc _ (.cells #[.nilIface] 25) = W at *
    clear hW
    go_wp2_with (first
      | (go_at_call 20; go_loud (with_reducible refine HN.out.mono ?_); rintro e1 w1 ⟨rfl, b1, r1⟩; have B1 := hid b1; have c3 := r1.c3; rw [orV_eq] at c3; have HL := hid (HLi.out _ r1); have hs1 := b1.size; clear b1 r1)
      | (go_at_call 70; go_loud (with_reducible refine HL.out.mono ?_); rintro e2 w2 ⟨c2, fb, rfl, f2⟩)
      | fail)
    have CB : Chg (· = w.heap.size + 3) W w2 := chg_trans (chg_below (by rw [hs]; exact B1.out)) c2
    have hr2 := HRes.out.chg CB (show ¬ (w.heap.size = w.heap.size + 3) by omega)
    have q1 := CB.cell k1.out.1 (show ¬ (w.heap.size + 1 = w.heap.size + 3) by omega)
    have g1 := (CB.frozen (p := ⟨w.heap.size + 1, 0, none⟩) (show w.heap.size + 1 < W.heap.size by omega) (show ¬ (w.heap.size + 1 = w.heap.size + 3) by omega)).trans k1.out.2
    have q2 := CB.cell k2.out.1 (show ¬ (w.heap.size + 2 = w.heap.size + 3) by omega)
    have g2 := (CB.frozen (p := ⟨w.heap.size + 2, 0, none⟩) (show w.heap.size + 2 < W.heap.size by omega) (show ¬ (w.heap.size + 2 = w.heap.size + 3) by omega)).trans k2.out.2
    refine leaves_cons (f := 19) (args := #[.pointer (some ⟨w.heap.size, 0, none⟩), .pointer (some ⟨w.heap.size + 1, 0, none⟩), .pointer (some ⟨w.heap.size + 2, 0, none⟩)]) (by simp) (by simp [go_sem]) ?_
    refine (catch_panicking w.heap.size fb w2 hr2 q1 g1 q2 g2).mono ?_
    rintro e u' w9 ⟨rfl, rfl, r9, t1, t2, c9⟩
    obtain ⟨z0, z1, z2, z3, z4, z5, z6, z7, z8, z9⟩ := r9.cells
    have t2' : w9.cell? ⟨w.heap.size + 1 + 1, 0, none⟩ = some (.iface 50 (.pointer (some ⟨fb, 0, none⟩))) := t2
    have hfb : ¬ (fb = w.heap.size ∨ fb = w.heap.size + 1 ∨ fb = w.heap.size + 2) := by
      rintro (rfl | rfl | rfl)
      · have := f2.2; rw [hr2.cells.2.1] at this; cases this
      · have h2 := f2.2
        have h3 := (CB.block (w.heap.size + 1) (by omega) (show ¬ (w.heap.size + 1 = w.heap.size + 3) by omega)).trans HO2.out
        rw [Lib.cell_of_heap h3] at h2
        cases h2
      · have := f2.1; rw [q2] at this; cases this
    simp [Leaves, settle, results, Tryz.results9, go_sem, z0, z1, z2, z3, z4, z5, z6, z7, z8, z9, t1, t2']
    refine ⟨?_, fb, rfl, c9.cell f2.1 hfb, c9.cell f2.2 hfb⟩
    exact (HB.out.trans (CB.below (B := w.heap.size) (fun k q => by omega) (by omega))).trans (c9.below (fun k q => by omega) (by have := CB.size; omega))
  | ok y =>
    obtain ⟨e, l1⟩ := y
    simp only [] at HLi
    go_enter_defers Tryz.func9, Tryz.ntmps9
    go_upto_region 4 with fail
    generalize hW : World.alloc _ (.cells #[.nilIface] 25) = W at *
    clear hW
    go_upto_region 6 with (first
      | (go_at_call 20; go_loud (with_reducible refine HN.out.mono ?_); rintro e1 w1 ⟨rfl, b1, r1⟩; have B1 := hid b1; have c3 := r1.c3; rw [orV_eq] at c3; have HL := hid (HLi.out _ r1); have hs1 := b1.size; clear b1 r1)
      | (go_at_call 70; go_loud (with_reducible refine HL.out.mono ?_); rintro e2 w2 ⟨c2, v2, rfl, ⟨pe, ce, rfl, k2', E2⟩, r2⟩; have CB := hid (chg_trans (chg_below (rb := w.heap.size + 3) (show Below W.heap.size W w1 by rw [hs]; exact B1.out)) c2); have HE2 := hid E2; have HR2 := hid r2; have res2 := HRes.out.chg CB.out (show ¬ (w.heap.size = w.heap.size + 3) by omega); obtain ⟨z0, z1, z2, z3, z4, z5, z6, z7, z8, z9⟩ := res2.cells; have zf := res2.frozen; have HRS2 := hid res2; clear c2 E2 r2 res2)
      | fail)
    have K := put10_chg w2 w.heap.size (.int .i64 e.k) (.int .i64 e.op) (.int .i64 e.v.k) (.int .i64 e.v.n) (.string e.v.s) (.string ⟨e.t.toArray⟩) (.string ⟨e.n.toArray⟩) (.int .i64 0) (.int .i64 0) (.slice pe e.xs.length ce)
    have R1 := hid (BX.put (e := ⟨0, 0, v0, [], [], []⟩) (e' := e) (p := none) (p' := pe) (c := 0) (c' := ce) HRS2.out)
    unfold put10 at K R1
    generalize hW5 : World.setCell _ ⟨w.heap.size, 9, none⟩ _ = W5 at *
    clear hW5 z0 z1 z2 z3 z4 z5 z6 z7 z8 z9 zf
    have CB5 : Chg (fun k => k = w.heap.size + 3 ∨ k = w.heap.size) W W5 := (CB.out.mono (fun j _ q => Or.inl q)).trans K (fun j _ q => Or.inr q)
    obtain ⟨y0, y1, y2, y3, y4, y5, y6, y7, y8, y9⟩ := R1.out.xc
    simp only [Nat.zero_add] at y0 y1 y2 y3 y4 y5 y6 y7 y8 y9
    have yf := R1.out.frozen
    have q1 := CB5.cell k1.out.1 (show ¬ (w.heap.size + 1 = w.heap.size + 3 ∨ w.heap.size + 1 = w.heap.size) by omega)
    have g1 := (CB5.frozen (p := ⟨w.heap.size + 1, 0, none⟩) (show w.heap.size + 1 < W.heap.size by omega) (show ¬ (w.heap.size + 1 = w.heap.size + 3 ∨ w.heap.size + 1 = w.heap.size) by omega)).trans k1.out.2
    have q2 : W5.cell? ⟨w.heap.size + 1 + 1, 0, none⟩ = some .nilIface := CB5.cell k2.out.1 (show ¬ (w.heap.size + 2 = w.heap.size + 3 ∨ w.heap.size + 2 = w.heap.size) by omega)
    have g2 : W5.frozen? ⟨w.heap.size + 1 + 1, 0, none⟩ = false := (CB5.frozen (p := ⟨w.heap.size + 2, 0, none⟩) (show w.heap.size + 2 < W.heap.size by omega) (show ¬ (w.heap.size + 2 = w.heap.size + 3 ∨ w.heap.size + 2 = w.heap.size) by omega)).trans k2.out.2
    have c1 := K.cell HR2.out.c1 (show ¬ (w.heap.size + 3 = w.heap.size) by omega)
    have HK := hid K
    have HC5 := hid CB5
    clear K CB5
    go_region
    have K6 := put10_chg W5 w.heap.size (.int .i64 e.k) (.int .i64 e.op) (.int .i64 e.v.k) (.int .i64 e.v.n) (.string e.v.s) (.string ⟨e.t.toArray⟩) (.string ⟨e.n.toArray⟩) (.int .i64 0) (.int .i64 0) (.slice pe e.xs.length ce)
    have R6 := BX.put (e := e) (e' := e) (p := pe) (p' := pe) (c := ce) (c' := ce) R1.out
    unfold put10 at K6 R6
    generalize hW6 : World.setCell _ ⟨w.heap.size, 9, none⟩ _ = W6 at *
    clear hW6 y0 y1 y2 y3 y4 y5 y6 y7 y8 y9 yf c1
    have p1 := K6.cell q1 (show ¬ (w.heap.size + 1 = w.heap.size) by omega)
    have p2 := K6.cell q2 (show ¬ (w.heap.size + 1 + 1 = w.heap.size) by omega)
    generalize hN9 : (xs.length : Int) - (l1.length : Int) = N9 at *
    have C7 : Chg (· = w.heap.size + 1) W6 (W6.setCell ⟨w.heap.size + 1, 0, none⟩ (.int .i64 N9)) := chg_set (Chg.refl _ _) _
    have C8 : Chg (· = w.heap.size + 1 + 1) (W6.setCell ⟨w.heap.size + 1, 0, none⟩ (.int .i64 N9)) ((W6.setCell ⟨w.heap.size + 1, 0, none⟩ (.int .i64 N9)).setCell ⟨w.heap.size + 1 + 1, 0, none⟩ .nilIface) := chg_set (Chg.refl _ _) _
    have R8 := (R6.chg C7 (show ¬ (w.heap.size = w.heap.size + 1) by omega)).chg C8 (show ¬ (w.heap.size = w.heap.size + 1 + 1) by omega)
    have t1 : (W6.setCell ⟨w.heap.size + 1, 0, none⟩ (.int .i64 N9)).cell? ⟨w.heap.size + 1, 0, none⟩ = some (.int .i64 N9) := by simp [go_sem, p1]
    have t1' := C8.cell t1 (show ¬ (w.heap.size + 1 = w.heap.size + 1 + 1) by omega)
    have p2' := C7.cell p2 (show ¬ (w.heap.size + 1 + 1 = w.heap.size + 1) by omega)
    have t2 : ((W6.setCell ⟨w.heap.size + 1, 0, none⟩ (.int .i64 N9)).setCell ⟨w.heap.size + 1 + 1, 0, none⟩ .nilIface).cell? ⟨w.heap.size + 1 + 1, 0, none⟩ = some .nilIface := by simp [go_sem, p2']
    have CC : Chg (fun k => k = w.heap.size ∨ k = w.heap.size + 1 ∨ k = w.heap.size + 1 + 1) w2 ((W6.setCell ⟨w.heap.size + 1, 0, none⟩ (.int .i64 N9)).setCell ⟨w.heap.size + 1 + 1, 0, none⟩ .nilIface) := ((((HK.out.trans K6 (fun j _ q => q)).mono (G := fun k => k = w.heap.size ∨ k = w.heap.size + 1 ∨ k = w.heap.size + 1 + 1) (fun j _ q => Or.inl q)).trans C7 (fun j _ q => Or.inr (Or.inl q))).trans C8 (fun j _ q => Or.inr (Or.inr q)))
    replace CC := CC.drew
    replace t1' : ((W6.setCell ⟨w.heap.size + 1, 0, none⟩ (.int .i64 N9)).setCell ⟨w.heap.size + 1 + 1, 0, none⟩ .nilIface).drew.cell? ⟨w.heap.size + 1, 0, none⟩ = some (.int .i64 N9) := t1'
    replace t2 : ((W6.setCell ⟨w.heap.size + 1, 0, none⟩ (.int .i64 N9)).setCell ⟨w.heap.size + 1 + 1, 0, none⟩ .nilIface).drew.cell? ⟨w.heap.size + 1 + 1, 0, none⟩ = some .nilIface := t2
    replace R8 : BX ((W6.setCell ⟨w.heap.size + 1, 0, none⟩ (.int .i64 N9)).setCell ⟨w.heap.size + 1 + 1, 0, none⟩ .nilIface).drew w.heap.size e pe ce := R8
    generalize hW9 : World.drew _ = W9 at *
    clear hW9 t1 p1 p2 p2' C7 C8 R6 K6 q1 q2 g1 g2
    obtain ⟨y0, y1, y2, y3, y4, y5, y6, y7, y8, y9⟩ := R8.xc
    simp only [Nat.zero_add] at y0 y1 y2 y3 y4 y5 y6 y7 y8 y9
    go_wp2
    refine leaves_cons (f := 19) (args := #[.pointer (some ⟨w.heap.size, 0, none⟩), .pointer (some ⟨w.heap.size + 1, 0, none⟩), .pointer (some ⟨w.heap.size + 1 + 1, 0, none⟩)]) (by simp) (by simp [go_sem]) ?_
    refine (catch_idle _ _ _ W9).mono ?_
    rintro e9 u' w9 ⟨rfl, rfl, rfl⟩
    simp [Leaves, settle, results, Tryz.results9, go_sem, y0, y1, y2, y3, y4, y5, y6, y7, y8, y9, t1', t2]
    refine ⟨?_, _, by rw [hN9], pe, ce, rfl, k2', ?_⟩
    · exact (HB.out.trans (CB.out.below (B := w.heap.size) (fun k q => by omega) (by omega))).trans (CC.below (fun k q => by omega) (by have := CB.out.size; omega))
    · exact (HE2.out.mono (G := fun j => w.heap.size + 3 ≤ j) (fun j _ q => by omega)).chg CC (fun j q r => by omega) |>.mono (fun j _ q => by omega)
end Go.Proofs.YtfhhigablibeoaaGreatDoor
namespace Go.Proofs.YtfhhigablibeoaaGreatDoor
open Go.RowKit Go.Lib Go.Sort
set_option linter.unusedVariables false
set_option maxRecDepth 20000

set_option maxHeartbeats 8000000 in
theorem read_no (p : Option Addr) (n c : Nat) (J : Int) (w : World) (hJ : J < 0 ∨ (n : Int) ≤ J) :
    Calls Tryz.prog 9 #[.slice p n c, .int .i64 J] w fun e w' => Below w.heap.size w w' ∧ ∃ b, e = .returned (.tuple #[.agg #[.int .i64 0, .int .i64 0, .int .i64 0, .int .i64 0, .string ⟨#[]⟩, .string ⟨#[]⟩, .string ⟨#[]⟩, .int .i64 0, .int .i64 0, .slice none 0 0], .int .i64 0, .iface 50 (.pointer (some ⟨b, 0, none⟩))]) ∧ Flt w' b 0 20 := by
  unfold Flt
  by_cases hn : J < 0
  · go_enter_defers Tryz.func9, Tryz.ntmps9
    go_wp2
    simp [bodyPostD, Leaves, results, Tryz.results9, go_sem]
    go_grown
  · have hl : (n : Int) ≤ J := by omega
    go_enter_defers Tryz.func9, Tryz.ntmps9
    go_wp2
    simp [bodyPostD, Leaves, results, Tryz.results9, go_sem]
    go_grown
end Go.Proofs.YtfhhigablibeoaaGreatDoor
