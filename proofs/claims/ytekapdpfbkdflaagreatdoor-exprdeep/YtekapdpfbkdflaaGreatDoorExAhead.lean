/- What the function of a line with an operator ahead of package expr does. Conditions: none. -/
import Derived.Test.YtekapdpfbkdflaaGreatDoorXJ
namespace Go.Proofs.YtekapdpfbkdflaaGreatDoor
open Go.RowKit Go.Lib Go.Sort
set_option linter.unusedVariables false
set_option maxRecDepth 20000

set_option maxHeartbeats 16000000 in
theorem ahead_any {rb : Nat} {p : Option Addr} {c : Nat} {xs : Ts} {d G : Nat} {fs cs : Array Value} {P : Ts → Rd Ex} {prev : Option (Ts → Rd Ex)} (kb : Nat) (n : Int) (hbox : ∀ w l d, RS w rb p c xs l d → w.cell? ⟨rb + kb, 0, none⟩ = some (.pointer (some ⟨rb, 0, none⟩)) ∧ w.cell? ⟨rb + (kb + 1), 0, none⟩ = some (.int .i64 n) ∧ w.cell? ⟨rb + (kb + 2), 0, none⟩ = some (.func (.func G) fs cs) ∧ w.cell? ⟨rb + (kb + 3), 0, none⟩ = some (.func (.func 59) #[] #[.pointer (some ⟨rb + kb, 0, none⟩), .pointer (some ⟨rb + (kb + 1), 0, none⟩), .pointer (some ⟨rb + (kb + 2), 0, none⟩), .pointer (some ⟨rb + (kb + 3), 0, none⟩)])) (hen : ∀ args w, (callFunc G args).run Tryz.prog w = .ok (.enter G args) w) (hP : LineOk rb p c xs d G (fs ++ cs) P)
    (hprev : ∀ g, prev = some g → ∃ d', d = d' + 1 ∧ LineOk rb p c xs d' 59 #[.pointer (some ⟨rb + kb, 0, none⟩), .pointer (some ⟨rb + (kb + 1), 0, none⟩), .pointer (some ⟨rb + (kb + 2), 0, none⟩), .pointer (some ⟨rb + (kb + 3), 0, none⟩)] g) (hnone : prev = none → d = 0) :
    LineOk rb p c xs d 59 #[.pointer (some ⟨rb + kb, 0, none⟩), .pointer (some ⟨rb + (kb + 1), 0, none⟩), .pointer (some ⟨rb + (kb + 2), 0, none⟩), .pointer (some ⟨rb + (kb + 3), 0, none⟩)] (aheadP n P prev) := by
  intro w l h
  have HH := hid h
  have hlt := h.lt
  have H0 := hid (h.below (albl w (.cells #[.int .i64 0, .int .i64 0, .int .i64 0, .int .i64 0, .string ⟨#[]⟩, .string ⟨#[]⟩, .string ⟨#[]⟩, .int .i64 0, .int .i64 0, .slice none 0 0] 32)))
  have HRes := hid (show ResX (w.alloc (.cells #[.int .i64 0, .int .i64 0, .int .i64 0, .int .i64 0, .string ⟨#[]⟩, .string ⟨#[]⟩, .string ⟨#[]⟩, .int .i64 0, .int .i64 0, .slice none 0 0] 32)) w.heap.size from heap_alloc_new w _)
  have hs0 : (w.alloc (.cells #[.int .i64 0, .int .i64 0, .int .i64 0, .int .i64 0, .string ⟨#[]⟩, .string ⟨#[]⟩, .string ⟨#[]⟩, .int .i64 0, .int .i64 0, .slice none 0 0] 32)).heap.size = w.heap.size + 1 := by simp
  obtain ⟨x0, x1, x2, x3⟩ := hbox _ _ _ H0.out
  obtain ⟨ok, oo, ot, os, on, hoy, co⟩ := operator_form n H0.out
  have HOY := hid hoy
  have CO := hid co
  have HPP := hid hP
  have HBox := hid hbox
  have HB0 := hid (albl w (.cells #[.int .i64 0, .int .i64 0, .int .i64 0, .int .i64 0, .string ⟨#[]⟩, .string ⟨#[]⟩, .string ⟨#[]⟩, .int .i64 0, .int .i64 0, .slice none 0 0] 32))
  unfold aheadP
  clear h hP hbox hoy co
  cases hop : opAt n l with
  | none =>
    rw [hop] at CO
    simp only [Option.isSome_none] at CO ⊢
    have HPx := hid (fun w' (r : RS w' rb p c xs l d) => HPP.out w' l r)
    unfold RdE QX QF at HPx
    cases hp : P l with
    | error x =>
      rw [hp] at HPx
      simp only [] at HPx
      go_enter Tryz.func59, Tryz.ntmps59
      go_upto_region 1 with fail
      generalize hWW : w.alloc _ = W at *
      clear hWW
      go_upto_region 3 with (first
        | (go_at_call 60; go_loud (with_reducible refine CO.out.mono ?_); rintro e1 w1 ⟨rfl, b1⟩; have B1 := hid b1; clear b1)
        | fail)
      have A2 := albl w1 (.cells #[.int .i64 ok, .int .i64 oo, .int .i64 ot, .string os, .int .i64 on] 87)
      have C2 : Chg (· = rb) W (w1.alloc (.cells #[.int .i64 ok, .int .i64 oo, .int .i64 ot, .string os, .int .i64 on] 87)) := chg_trans (chg_below B1.out) (chg_below A2)
      have hs2 := C2.size
      have HR2 := hid ((H0.out.below B1.out).below A2)
      have HRes2 := hid (HRes.out.chg C2 (show ¬ (w.heap.size = rb) by omega))
      have HX2 := hid (OX.new w1 ok oo ot os on)
      have HC2 := hid (chg_trans (chg_below HB0.out) C2)
      have hw1 := B1.out.size
      clear x0 x1 x2 x3 A2 C2
      obtain ⟨x0, x1, x2, x3⟩ := HBox.out _ _ _ HR2.out
      generalize hW2 : World.alloc w1 _ = W2 at *
      clear hW2
      have HP := hid (HPx.out _ HR2.out)
      go_wp2_with (first
        | (go_loud (with_reducible refine HP.out.mono ?_); rintro e3 w3 ⟨c3, b3, rfl, f3⟩)
        | fail)
      exact ⟨rfl, chg_trans HC2.out c3, b3, rfl, f3⟩
    | ok y =>
      obtain ⟨e, l1⟩ := y
      rw [hp] at HPx
      simp only [] at HPx
      go_enter Tryz.func59, Tryz.ntmps59
      go_upto_region 1 with fail
      generalize hWW : w.alloc _ = W at *
      clear hWW
      go_upto_region 3 with (first
        | (go_at_call 60; go_loud (with_reducible refine CO.out.mono ?_); rintro e1 w1 ⟨rfl, b1⟩; have B1 := hid b1; clear b1)
        | fail)
      have A2 := albl w1 (.cells #[.int .i64 ok, .int .i64 oo, .int .i64 ot, .string os, .int .i64 on] 87)
      have C2 : Chg (· = rb) W (w1.alloc (.cells #[.int .i64 ok, .int .i64 oo, .int .i64 ot, .string os, .int .i64 on] 87)) := chg_trans (chg_below B1.out) (chg_below A2)
      have hs2 := C2.size
      have HR2 := hid ((H0.out.below B1.out).below A2)
      have HRes2 := hid (HRes.out.chg C2 (show ¬ (w.heap.size = rb) by omega))
      have HX2 := hid (OX.new w1 ok oo ot os on)
      have HC2 := hid (chg_trans (chg_below HB0.out) C2)
      have hw1 := B1.out.size
      clear x0 x1 x2 x3 A2 C2
      obtain ⟨x0, x1, x2, x3⟩ := HBox.out _ _ _ HR2.out
      generalize hW2 : World.alloc w1 _ = W2 at *
      clear hW2
      have HP := hid (HPx.out _ HR2.out)
      go_wp2_with (first
        | (go_loud (with_reducible refine HP.out.mono ?_); rintro e3 w3 ⟨c3, v3, rfl, ⟨p3, q3, rfl, k3, E3⟩, r3⟩; have res3 := HRes2.out.chg c3 (show ¬ (w.heap.size = rb) by omega); obtain ⟨z0, z1, z2, z3, z4, z5, z6, z7, z8, z9⟩ := res3.cells; have zf := res3.frozen; have C3 := hid c3; have HE3 := hid E3; have HR3 := hid r3; clear c3 E3 r3 res3)
        | fail)
      refine bodyPost_ret (by simp [results, Tryz.results59, go_sem, z0, z1, z2, z3, z4, z5, z6, z7, z8, z9]; try rfl) rfl ?_
      exact finX HH.out (chg_trans HC2.out C3.out) (Nat.le_refl _) HR3.out (HE3.out.mono (fun j _ q => ⟨by omega, by omega⟩))
  | some o =>
    have hlne : l ≠ [] := by
      obtain ⟨x, r, e, _⟩ := stn_pos (opAt_some hop).2.2
      rw [e]; exact List.cons_ne_nil _ _
    rw [hop] at CO
    simp only [Option.isSome_some] at CO ⊢
    cases hpv : prev with
    | none =>
      obtain rfl := hnone hpv
      simp only []
      go_enter Tryz.func59, Tryz.ntmps59
      go_upto_region 1 with fail
      generalize hWW : w.alloc _ = W at *
      clear hWW
      go_upto_region 4 with (first
        | (go_at_call 60; go_loud (with_reducible refine CO.out.mono ?_); rintro e1 w1 ⟨rfl, b1⟩; have B1 := hid b1; clear b1)
        | fail)
      have A2 := albl w1 (.cells #[.int .i64 ok, .int .i64 oo, .int .i64 ot, .string os, .int .i64 on] 87)
      have C2 : Chg (· = rb) W (w1.alloc (.cells #[.int .i64 ok, .int .i64 oo, .int .i64 ot, .string os, .int .i64 on] 87)) := chg_trans (chg_below B1.out) (chg_below A2)
      have hs2 := C2.size
      have HR2 := hid ((H0.out.below B1.out).below A2)
      have HRes2 := hid (HRes.out.chg C2 (show ¬ (w.heap.size = rb) by omega))
      have HX2 := hid (OX.new w1 ok oo ot os on)
      have HC2 := hid (chg_trans (chg_below HB0.out) C2)
      have hw1 := B1.out.size
      clear x0 x1 x2 x3 A2 C2
      obtain ⟨x0, x1, x2, x3⟩ := HBox.out _ _ _ HR2.out
      generalize hW2 : World.alloc w1 _ = W2 at *
      clear hW2
      have HD := hid (deeper_no HR2.out)
      go_wp2_with (first
        | (go_at_call 61; go_loud (with_reducible refine HD.out.mono ?_); rintro e3 w3 ⟨b3, bb, rfl, f3⟩)
        | fail)
      exact ⟨rfl, chg_trans HC2.out (chg_below b3), bb, rfl, f3⟩
    | some g =>
      obtain ⟨d', rfl, hg⟩ := hprev g hpv
      simp only []
      have HGG := hid hg
      clear hpv hprev hnone hg
      have HG := hid (fun w' (r : RS w' rb p c xs l.tail d') => HGG.out w' _ r)
      unfold RdE QX QF at HG
      cases hgt : g l.tail with
      | error x =>
        rw [hgt] at HG
        simp only [] at HG ⊢
        go_enter Tryz.func59, Tryz.ntmps59
        go_upto_region 1 with fail
        generalize hWW : w.alloc _ = W at *
        clear hWW
        go_upto_region 4 with (first
          | (go_at_call 60; go_loud (with_reducible refine CO.out.mono ?_); rintro e1 w1 ⟨rfl, b1⟩; have B1 := hid b1; clear b1)
          | fail)
        have A2 := albl w1 (.cells #[.int .i64 ok, .int .i64 oo, .int .i64 ot, .string os, .int .i64 on] 87)
        have C2 : Chg (· = rb) W (w1.alloc (.cells #[.int .i64 ok, .int .i64 oo, .int .i64 ot, .string os, .int .i64 on] 87)) := chg_trans (chg_below B1.out) (chg_below A2)
        have hs2 := C2.size
        have HR2 := hid ((H0.out.below B1.out).below A2)
        have HRes2 := hid (HRes.out.chg C2 (show ¬ (w.heap.size = rb) by omega))
        have HX2 := hid (OX.new w1 ok oo ot os on)
        have HC2 := hid (chg_trans (chg_below HB0.out) C2)
        have hw1 := B1.out.size
        clear x0 x1 x2 x3 A2 C2
        obtain ⟨x0, x1, x2, x3⟩ := HBox.out _ _ _ HR2.out
        generalize hW2 : World.alloc w1 _ = W2 at *
        clear hW2
        have HD := hid (deeper_yes HR2.out hlne)
        obtain ⟨rfl, rfl, rfl, rfl, rfl⟩ := HOY.out o hop
        go_wp2_with (first
          | (go_at_call 61; go_loud (with_reducible refine HD.out.mono ?_); rintro e3 w3 ⟨rfl, c3, r3⟩; have C3 := hid c3; have GG := hid (HG.out _ r3); clear x0 x1 x2 x3; obtain ⟨x0, x1, x2, x3⟩ := HBox.out _ _ _ r3; clear c3 r3)
          | (go_at_call 59; go_loud (with_reducible refine GG.out.mono ?_); rintro e4 w4 ⟨c4, b4, rfl, f4⟩)
          | fail)
        exact ⟨rfl, chg_trans HC2.out (chg_trans C3.out c4), b4, rfl, f4⟩
      | ok y =>
        obtain ⟨e, l1⟩ := y
        rw [hgt] at HG
        simp only [] at HG ⊢
        go_enter Tryz.func59, Tryz.ntmps59
        go_upto_region 1 with fail
        generalize hWW : w.alloc _ = W at *
        clear hWW
        go_upto_region 4 with (first
          | (go_at_call 60; go_loud (with_reducible refine CO.out.mono ?_); rintro e1 w1 ⟨rfl, b1⟩; have B1 := hid b1; clear b1)
          | fail)
        have A2 := albl w1 (.cells #[.int .i64 ok, .int .i64 oo, .int .i64 ot, .string os, .int .i64 on] 87)
        have C2 : Chg (· = rb) W (w1.alloc (.cells #[.int .i64 ok, .int .i64 oo, .int .i64 ot, .string os, .int .i64 on] 87)) := chg_trans (chg_below B1.out) (chg_below A2)
        have hs2 := C2.size
        have HR2 := hid ((H0.out.below B1.out).below A2)
        have HRes2 := hid (HRes.out.chg C2 (show ¬ (w.heap.size = rb) by omega))
        have HX2 := hid (OX.new w1 ok oo ot os on)
        have HC2 := hid (chg_trans (chg_below HB0.out) C2)
        have hw1 := B1.out.size
        clear x0 x1 x2 x3 A2 C2
        obtain ⟨x0, x1, x2, x3⟩ := HBox.out _ _ _ HR2.out
        generalize hW2 : World.alloc w1 _ = W2 at *
        clear hW2
        have HD := hid (deeper_yes HR2.out hlne)
        obtain ⟨rfl, rfl, rfl, rfl, rfl⟩ := HOY.out o hop
        go_upto_region 6 with (first
          | (go_at_call 61; go_loud (with_reducible refine HD.out.mono ?_); rintro e3 w3 ⟨rfl, c3, r3⟩; have C3 := hid c3; have hs3 := c3.size; have GG := hid (HG.out _ r3); clear x0 x1 x2 x3; obtain ⟨x0, x1, x2, x3⟩ := HBox.out _ _ _ r3; clear c3 r3)
          | (go_at_call 59; go_loud (with_reducible refine GG.out.mono ?_); rintro e4 w4 ⟨c4, v4, rfl, ⟨pe, ce, rfl, k4, E4⟩, r4⟩; have C4 := hid c4; have hs4 := c4.size; have HE4 := hid E4; have HR4 := hid r4; clear c4 E4 r4)
          | fail)
        have A5 := albl w4 (.cells #[.int .i64 e.k, .int .i64 e.op, .int .i64 e.v.k, .int .i64 e.v.n, .string e.v.s, .string ⟨e.t.toArray⟩, .string ⟨e.n.toArray⟩, .int .i64 0, .int .i64 0, .slice pe e.xs.length ce] 32)
        have C25 : Chg (· = rb) W2 (w4.alloc (.cells #[.int .i64 e.k, .int .i64 e.op, .int .i64 e.v.k, .int .i64 e.v.n, .string e.v.s, .string ⟨e.t.toArray⟩, .string ⟨e.n.toArray⟩, .int .i64 0, .int .i64 0, .slice pe e.xs.length ce] 32)) := chg_trans C3.out (chg_trans C4.out (chg_below A5))
        have HR5 := hid (HR4.out.below A5)
        have HBX5 := hid (show BX (w4.alloc (.cells #[.int .i64 e.k, .int .i64 e.op, .int .i64 e.v.k, .int .i64 e.v.n, .string e.v.s, .string ⟨e.t.toArray⟩, .string ⟨e.n.toArray⟩, .int .i64 0, .int .i64 0, .slice pe e.xs.length ce] 32)) w4.heap.size e pe ce from heap_alloc_new w4 _)
        have HX5 := hid (HX2.out.chg C25 (show ¬ (w1.heap.size = rb) by omega))
        have HRes5 := hid (HRes2.out.chg C25 (show ¬ (w.heap.size = rb) by omega))
        have HE5 := hid (HE4.out.newer A5 (F' := fun j => w3.heap.size ≤ j ∧ j ≠ w.heap.size) (fun j q => ⟨q, by omega⟩))
        have HC5 := hid (chg_trans HC2.out C25)
        have hs5 : (w4.alloc (.cells #[.int .i64 e.k, .int .i64 e.op, .int .i64 e.v.k, .int .i64 e.v.n, .string e.v.s, .string ⟨e.t.toArray⟩, .string ⟨e.n.toArray⟩, .int .i64 0, .int .i64 0, .slice pe e.xs.length ce] 32)).heap.size = w4.heap.size + 1 := by simp
        have hdle := HH.out.dle
        clear x0 x1 x2 x3 A5 C25
        obtain ⟨x0, x1, x2, x3⟩ := HBox.out _ _ _ HR5.out
        generalize hW5 : World.alloc w4 _ = W5 at *
        clear hW5
        have c2 := HR5.out.c2
        have f2 := HR5.out.f 2
        have hJ : IntKind.i64.wrap ((32 : Int) - (d' : Int) - 1) = (32 : Int) - (d' : Int) - 1 := by rw [IntKind.wrap_i64]; omega
        have HD6 := hid (HR5.out.dp (d' := d' + 1) hdle ((32 : Int) - (d' : Int) - 1) (by omega))
        go_upto_region 7 with fail
        have K6 : Chg (· = rb) W5 (W5.setCell ⟨rb, 2, none⟩ (.int .i64 ((32 : Int) - (d' : Int) - 1))) := chg_set (Chg.refl _ _) _
        generalize hW6 : World.setCell W5 _ _ = W6 at *
        clear hW6
        obtain ⟨y0, y1, y2, y3, y4, y5, y6, y7, y8, y9⟩ := (HBX5.out.chg K6 (show ¬ (w4.heap.size = rb) by omega)).xc
        simp only [Nat.zero_add] at y0 y1 y2 y3 y4 y5 y6 y7 y8 y9
        obtain ⟨⟨o0, o1, o2, o3, o4⟩, of⟩ := HX5.out.chg K6 (show ¬ (w1.heap.size = rb) by omega)
        have res6 := HRes5.out.chg K6 (show ¬ (w.heap.size = rb) by omega)
        obtain ⟨z0, z1, z2, z3, z4, z5, z6, z7, z8, z9⟩ := res6.cells
        have zf := res6.frozen
        have hs6 := K6.size
        have HK6 := hid K6
        have hlw : w.heap.size < W6.heap.size := by omega
        have HRes6 := hid res6
        have hrb3 : rb < w3.heap.size := by omega
        have hww3 : w.heap.size ≤ w3.heap.size := by omega
        have hww6 : w.heap.size < W6.heap.size := by omega
        clear c2 f2 hJ K6 res6 x0 x1 x2 x3 z0 z1 z2 z3 z4 z5 z6 z7 z8 z9 zf
        have res7 := ResX.chg (F := fun _ => False) HRes6.out (Chg.of_below (albl W6 (.cells #[.int .i64 e.k, .int .i64 e.op, .int .i64 e.v.k, .int .i64 e.v.n, .string e.v.s, .string ⟨e.t.toArray⟩, .string ⟨e.n.toArray⟩, .int .i64 0, .int .i64 0, .slice pe e.xs.length ce] 32))) id
        obtain ⟨z0, z1, z2, z3, z4, z5, z6, z7, z8, z9⟩ := res7.cells
        have zf := res7.frozen
        have HT := hid (And.intro hrb3 (And.intro hww3 hww6))
        clear hs0 hs2 hs3 hs4 hs5 hs6 hdle hop hgt hlne hen hw1 hlt hlw res7 hrb3 hww3 hww6
        go_wp2_with fail
        refine bodyPost_ret (by simp [results, Tryz.results59, go_sem, z0, z1, z2, z3, z4, z5, z6, z7, z8, z9]; try rfl) rfl ?_
        have hg := heap_alloc_new W6 (.cells #[.int .i64 e.k, .int .i64 e.op, .int .i64 e.v.k, .int .i64 e.v.n, .string e.v.s, .string ⟨e.t.toArray⟩, .string ⟨e.n.toArray⟩, .int .i64 0, .int .i64 0, .slice pe e.xs.length ce] 32)
        have CX : Chg (· = rb) W5 (W6.alloc (.cells #[.int .i64 e.k, .int .i64 e.op, .int .i64 e.v.k, .int .i64 e.v.n, .string e.v.s, .string ⟨e.t.toArray⟩, .string ⟨e.n.toArray⟩, .int .i64 0, .int .i64 0, .slice pe e.xs.length ce] 32)) := HK6.out.alloc _
        obtain ⟨hrb3, hww3, hww6⟩ := HT.out
        obtain ⟨k', hk'⟩ := mk_one o.kind o.op (F := fun j => w.heap.size ≤ j ∧ j ≠ w.heap.size) ⟨by omega, by omega⟩ hg ((HE5.out.chg CX (fun j q r => by omega)).mono (fun j _ q => ⟨by omega, q.2⟩))
        exact finX (e := mkE o.kind o.op [e]) HH.out (chg_trans HC5.out CX) (Nat.le_refl _) (HD6.out.below (albl _ _)) hk'
end Go.Proofs.YtekapdpfbkdflaaGreatDoor
