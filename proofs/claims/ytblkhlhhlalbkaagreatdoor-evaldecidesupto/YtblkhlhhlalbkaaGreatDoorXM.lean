/- What literal of package expr does. Conditions: none. What the function of a line with an operator ahead of package expr does. Conditions: none. What the function of the line of tests of package expr does. Conditions: none. -/
import Derived.Test.YtblkhlhhlalbkaaGreatDoorXG
import Derived.Test.YtblkhlhhlalbkaaGreatDoorXJ
import Derived.Test.YtblkhlhhlalbkaaGreatDoorXI
namespace Go.Proofs.YtblkhlhhlalbkaaGreatDoor
open Go.RowKit Go.Lib Go.Sort
set_option linter.unusedVariables false
set_option maxRecDepth 20000

/-- A literal's value; none: zeroes. -/
def litO : Option Val → Value
  | some v => .agg #[.int .i64 v.k, .int .i64 v.n, .string v.s]
  | none => .agg #[.int .i64 0, .int .i64 0, .string ⟨#[]⟩]
/-- The literal that a word is. -/
def lit1 (k : Int) (s : List UInt8) (n : Int) : Option Val :=
  if k = 2 then some ⟨2, n, ⟨#[]⟩⟩
  else if k = 3 then some ⟨3, 0, ⟨s.toArray⟩⟩
  else if k = 4 then some ⟨4, 0, ⟨s.toArray⟩⟩
  else if k = 1 then
    if s == [110, 117, 108, 108] then some v0
    else if s == [116, 114, 117, 101] then some ⟨1, 1, ⟨#[]⟩⟩
    else if s == [102, 97, 108, 115, 101] then some ⟨1, 0, ⟨#[]⟩⟩
    else none
  else none
set_option maxHeartbeats 8000000 in
theorem literal1 (k : Int) (s : List UInt8) (i n : Int) (w : World) :
    Calls Tryz.prog 137 #[.agg #[.int .i64 k, .string ⟨s.toArray⟩, .int .i64 i, .int .i64 n]] w fun e w' => e = .returned (.tuple #[litO (lit1 k s n), .bool (lit1 k s n).isSome]) ∧ Below w.heap.size w w' := by
  obtain ⟨R, HR⟩ : ∃ R, Hid (lit1 k s n = R) := ⟨_, rfl⟩
  rw [HR.out]
  go_enter Tryz.func137, Tryz.ntmps137
  go_wp2
  all_goals (refine bodyPost_ret (by simp [results, Tryz.results137, go_sem]; try rfl) rfl ?_)
  all_goals (refine ⟨?_, by go_grown⟩)
  all_goals (rw [← HR.out]; simp_all [lit1, litO, v0])
theorem literal_tok (l : Ts) (w : World) :
    Calls Tryz.prog 137 #[tokV l 0] w fun e w' => e = .returned (.tuple #[litO (litT l), .bool (litT l).isSome]) ∧ Below w.heap.size w w' := by
  cases l with
  | nil => exact literal1 0 [] 0 0 w
  | cons x r => exact literal1 x.1.k x.1.s x.2 x.1.n w
end Go.Proofs.YtblkhlhhlalbkaaGreatDoor
namespace Go.Proofs.YtblkhlhhlalbkaaGreatDoor
open Go.RowKit Go.Lib Go.Sort
set_option linter.unusedVariables false
set_option maxRecDepth 20000

set_option maxHeartbeats 16000000 in
theorem ahead_any {rb : Nat} {p : Option Addr} {c : Nat} {xs : Ts} {d G : Nat} {fs cs : Array Value} {P : Ts → Rd Ex} {prev : Option (Ts → Rd Ex)} (kb : Nat) (n : Int) (hbox : ∀ w l d, RS w rb p c xs l d → w.cell? ⟨rb + kb, 0, none⟩ = some (.pointer (some ⟨rb, 0, none⟩)) ∧ w.cell? ⟨rb + (kb + 1), 0, none⟩ = some (.int .i64 n) ∧ w.cell? ⟨rb + (kb + 2), 0, none⟩ = some (.func (.func G) fs cs) ∧ w.cell? ⟨rb + (kb + 3), 0, none⟩ = some (.func (.func 131) #[] #[.pointer (some ⟨rb + kb, 0, none⟩), .pointer (some ⟨rb + (kb + 1), 0, none⟩), .pointer (some ⟨rb + (kb + 2), 0, none⟩), .pointer (some ⟨rb + (kb + 3), 0, none⟩)])) (hen : ∀ args w, (callFunc G args).run Tryz.prog w = .ok (.enter G args) w) (hP : LineOk rb p c xs d G (fs ++ cs) P)
    (hprev : ∀ g, prev = some g → ∃ d', d = d' + 1 ∧ LineOk rb p c xs d' 131 #[.pointer (some ⟨rb + kb, 0, none⟩), .pointer (some ⟨rb + (kb + 1), 0, none⟩), .pointer (some ⟨rb + (kb + 2), 0, none⟩), .pointer (some ⟨rb + (kb + 3), 0, none⟩)] g) (hnone : prev = none → d = 0) :
    LineOk rb p c xs d 131 #[.pointer (some ⟨rb + kb, 0, none⟩), .pointer (some ⟨rb + (kb + 1), 0, none⟩), .pointer (some ⟨rb + (kb + 2), 0, none⟩), .pointer (some ⟨rb + (kb + 3), 0, none⟩)] (aheadP n P prev) := by
  intro w l h
  have HH := hid h
  have hlt := h.lt
  have H0 := hid (h.below (albl w (.cells #[.int .i64 0, .int .i64 0, .int .i64 0, .int .i64 0, .string ⟨#[]⟩, .string ⟨#[]⟩, .string ⟨#[]⟩, .int .i64 0, .int .i64 0, .slice none 0 0] 26)))
  have HRes := hid (show ResX (w.alloc (.cells #[.int .i64 0, .int .i64 0, .int .i64 0, .int .i64 0, .string ⟨#[]⟩, .string ⟨#[]⟩, .string ⟨#[]⟩, .int .i64 0, .int .i64 0, .slice none 0 0] 26)) w.heap.size from heap_alloc_new w _)
  have hs0 : (w.alloc (.cells #[.int .i64 0, .int .i64 0, .int .i64 0, .int .i64 0, .string ⟨#[]⟩, .string ⟨#[]⟩, .string ⟨#[]⟩, .int .i64 0, .int .i64 0, .slice none 0 0] 26)).heap.size = w.heap.size + 1 := by simp
  obtain ⟨x0, x1, x2, x3⟩ := hbox _ _ _ H0.out
  obtain ⟨ok, oo, ot, os, on, hoy, co⟩ := operator_form n H0.out
  have HOY := hid hoy
  have CO := hid co
  have HPP := hid hP
  have HBox := hid hbox
  have HB0 := hid (albl w (.cells #[.int .i64 0, .int .i64 0, .int .i64 0, .int .i64 0, .string ⟨#[]⟩, .string ⟨#[]⟩, .string ⟨#[]⟩, .int .i64 0, .int .i64 0, .slice none 0 0] 26))
  unfold aheadP
  clear h hP hbox hoy co
  cases hop : opAt n l with
  | none =>
    rw [hop] at CO
    simp only [Option.isSome_none] at CO ⊢
    have HPx := hid (fun w' (r : RS w' rb p c xs l d) => HPP.out w' l r)
    unfold RdE QX QF at HPx
    cases hp : P l with
    | error x =>
      rw [hp] at HPx
      simp only [] at HPx
      go_enter Tryz.func131, Tryz.ntmps131
      go_upto_region 1 with fail
      generalize hWW : w.alloc _ = W at *
      clear hWW
      go_upto_region 3 with (first
        | (go_at_call 132; go_loud (with_reducible refine CO.out.mono ?_); rintro e1 w1 ⟨rfl, b1⟩; have B1 := hid b1; clear b1)
        | fail)
      have A2 := albl w1 (.cells #[.int .i64 ok, .int .i64 oo, .int .i64 ot, .string os, .int .i64 on] 132)
      have C2 : Chg (· = rb) W (w1.alloc (.cells #[.int .i64 ok, .int .i64 oo, .int .i64 ot, .string os, .int .i64 on] 132)) := chg_trans (chg_below B1.out) (chg_below A2)
      have hs2 := C2.size
      have HR2 := hid ((H0.out.below B1.out).below A2)
      have HRes2 := hid (HRes.out.chg C2 (show ¬ (w.heap.size = rb) by omega))
      have HX2 := hid (OX.new w1 ok oo ot os on)
      have HC2 := hid (chg_trans (chg_below HB0.out) C2)
      have hw1 := B1.out.size
      clear x0 x1 x2 x3 A2 C2
      obtain ⟨x0, x1, x2, x3⟩ := HBox.out _ _ _ HR2.out
      generalize hW2 : World.alloc w1 _ = W2 at *
      clear hW2
      have HP := hid (HPx.out _ HR2.out)
      go_wp2_with (first
        | (go_loud (with_reducible refine HP.out.mono ?_); rintro e3 w3 ⟨c3, b3, rfl, f3⟩)
        | fail)
      exact ⟨rfl, chg_trans HC2.out c3, b3, rfl, f3⟩
    | ok y =>
      obtain ⟨e, l1⟩ := y
      rw [hp] at HPx
      simp only [] at HPx
      go_enter Tryz.func131, Tryz.ntmps131
      go_upto_region 1 with fail
      generalize hWW : w.alloc _ = W at *
      clear hWW
      go_upto_region 3 with (first
        | (go_at_call 132; go_loud (with_reducible refine CO.out.mono ?_); rintro e1 w1 ⟨rfl, b1⟩; have B1 := hid b1; clear b1)
        | fail)
      have A2 := albl w1 (.cells #[.int .i64 ok, .int .i64 oo, .int .i64 ot, .string os, .int .i64 on] 132)
      have C2 : Chg (· = rb) W (w1.alloc (.cells #[.int .i64 ok, .int .i64 oo, .int .i64 ot, .string os, .int .i64 on] 132)) := chg_trans (chg_below B1.out) (chg_below A2)
      have hs2 := C2.size
      have HR2 := hid ((H0.out.below B1.out).below A2)
      have HRes2 := hid (HRes.out.chg C2 (show ¬ (w.heap.size = rb) by omega))
      have HX2 := hid (OX.new w1 ok oo ot os on)
      have HC2 := hid (chg_trans (chg_below HB0.out) C2)
      have hw1 := B1.out.size
      clear x0 x1 x2 x3 A2 C2
      obtain ⟨x0, x1, x2, x3⟩ := HBox.out _ _ _ HR2.out
      generalize hW2 : World.alloc w1 _ = W2 at *
      clear hW2
      have HP := hid (HPx.out _ HR2.out)
      go_wp2_with (first
        | (go_loud (with_reducible refine HP.out.mono ?_); rintro e3 w3 ⟨c3, v3, rfl, ⟨p3, q3, rfl, k3, E3, hcp3⟩, r3⟩; have res3 := HRes2.out.chg c3 (show ¬ (w.heap.size = rb) by omega); obtain ⟨z0, z1, z2, z3, z4, z5, z6, z7, z8, z9⟩ := res3.cells; have zf := res3.frozen; have C3 := hid c3; have HE3 := hid E3; have HR3 := hid r3; clear c3 E3 r3 res3)
        | fail)
      refine bodyPost_ret (by simp [results, Tryz.results131, go_sem, z0, z1, z2, z3, z4, z5, z6, z7, z8, z9]; try rfl) rfl ?_
      exact finX HH.out (chg_trans HC2.out C3.out) (Nat.le_refl _) HR3.out (HE3.out.mono (fun j _ q => ⟨by omega, by omega⟩)) hcp3
  | some o =>
    have hlne : l ≠ [] := by
      obtain ⟨x, r, e, _⟩ := stn_pos (opAt_some hop).2.2
      rw [e]; exact List.cons_ne_nil _ _
    rw [hop] at CO
    simp only [Option.isSome_some] at CO ⊢
    cases hpv : prev with
    | none =>
      obtain rfl := hnone hpv
      simp only []
      go_enter Tryz.func131, Tryz.ntmps131
      go_upto_region 1 with fail
      generalize hWW : w.alloc _ = W at *
      clear hWW
      go_upto_region 4 with (first
        | (go_at_call 132; go_loud (with_reducible refine CO.out.mono ?_); rintro e1 w1 ⟨rfl, b1⟩; have B1 := hid b1; clear b1)
        | fail)
      have A2 := albl w1 (.cells #[.int .i64 ok, .int .i64 oo, .int .i64 ot, .string os, .int .i64 on] 132)
      have C2 : Chg (· = rb) W (w1.alloc (.cells #[.int .i64 ok, .int .i64 oo, .int .i64 ot, .string os, .int .i64 on] 132)) := chg_trans (chg_below B1.out) (chg_below A2)
      have hs2 := C2.size
      have HR2 := hid ((H0.out.below B1.out).below A2)
      have HRes2 := hid (HRes.out.chg C2 (show ¬ (w.heap.size = rb) by omega))
      have HX2 := hid (OX.new w1 ok oo ot os on)
      have HC2 := hid (chg_trans (chg_below HB0.out) C2)
      have hw1 := B1.out.size
      clear x0 x1 x2 x3 A2 C2
      obtain ⟨x0, x1, x2, x3⟩ := HBox.out _ _ _ HR2.out
      generalize hW2 : World.alloc w1 _ = W2 at *
      clear hW2
      have HD := hid (deeper_no HR2.out)
      go_wp2_with (first
        | (go_at_call 133; go_loud (with_reducible refine HD.out.mono ?_); rintro e3 w3 ⟨b3, bb, rfl, f3⟩)
        | fail)
      exact ⟨rfl, chg_trans HC2.out (chg_below b3), bb, rfl, f3⟩
    | some g =>
      obtain ⟨d', rfl, hg⟩ := hprev g hpv
      simp only []
      have HGG := hid hg
      clear hpv hprev hnone hg
      have HG := hid (fun w' (r : RS w' rb p c xs l.tail d') => HGG.out w' _ r)
      unfold RdE QX QF at HG
      cases hgt : g l.tail with
      | error x =>
        rw [hgt] at HG
        simp only [] at HG ⊢
        go_enter Tryz.func131, Tryz.ntmps131
        go_upto_region 1 with fail
        generalize hWW : w.alloc _ = W at *
        clear hWW
        go_upto_region 4 with (first
          | (go_at_call 132; go_loud (with_reducible refine CO.out.mono ?_); rintro e1 w1 ⟨rfl, b1⟩; have B1 := hid b1; clear b1)
          | fail)
        have A2 := albl w1 (.cells #[.int .i64 ok, .int .i64 oo, .int .i64 ot, .string os, .int .i64 on] 132)
        have C2 : Chg (· = rb) W (w1.alloc (.cells #[.int .i64 ok, .int .i64 oo, .int .i64 ot, .string os, .int .i64 on] 132)) := chg_trans (chg_below B1.out) (chg_below A2)
        have hs2 := C2.size
        have HR2 := hid ((H0.out.below B1.out).below A2)
        have HRes2 := hid (HRes.out.chg C2 (show ¬ (w.heap.size = rb) by omega))
        have HX2 := hid (OX.new w1 ok oo ot os on)
        have HC2 := hid (chg_trans (chg_below HB0.out) C2)
        have hw1 := B1.out.size
        clear x0 x1 x2 x3 A2 C2
        obtain ⟨x0, x1, x2, x3⟩ := HBox.out _ _ _ HR2.out
        generalize hW2 : World.alloc w1 _ = W2 at *
        clear hW2
        have HD := hid (deeper_yes HR2.out hlne)
        obtain ⟨rfl, rfl, rfl, rfl, rfl⟩ := HOY.out o hop
        go_wp2_with (first
          | (go_at_call 133; go_loud (with_reducible refine HD.out.mono ?_); rintro e3 w3 ⟨rfl, c3, r3⟩; have C3 := hid c3; have GG := hid (HG.out _ r3); clear x0 x1 x2 x3; obtain ⟨x0, x1, x2, x3⟩ := HBox.out _ _ _ r3; clear c3 r3)
          | (go_at_call 131; go_loud (with_reducible refine GG.out.mono ?_); rintro e4 w4 ⟨c4, b4, rfl, f4⟩)
          | fail)
        exact ⟨rfl, chg_trans HC2.out (chg_trans C3.out c4), b4, rfl, f4⟩
      | ok y =>
        obtain ⟨e, l1⟩ := y
        rw [hgt] at HG
        simp only [] at HG ⊢
        go_enter Tryz.func131, Tryz.ntmps131
        go_upto_region 1 with fail
        generalize hWW : w.alloc _ = W at *
        clear hWW
        go_upto_region 4 with (first
          | (go_at_call 132; go_loud (with_reducible refine CO.out.mono ?_); rintro e1 w1 ⟨rfl, b1⟩; have B1 := hid b1; clear b1)
          | fail)
        have A2 := albl w1 (.cells #[.int .i64 ok, .int .i64 oo, .int .i64 ot, .string os, .int .i64 on] 132)
        have C2 : Chg (· = rb) W (w1.alloc (.cells #[.int .i64 ok, .int .i64 oo, .int .i64 ot, .string os, .int .i64 on] 132)) := chg_trans (chg_below B1.out) (chg_below A2)
        have hs2 := C2.size
        have HR2 := hid ((H0.out.below B1.out).below A2)
        have HRes2 := hid (HRes.out.chg C2 (show ¬ (w.heap.size = rb) by omega))
        have HX2 := hid (OX.new w1 ok oo ot os on)
        have HC2 := hid (chg_trans (chg_below HB0.out) C2)
        have hw1 := B1.out.size
        clear x0 x1 x2 x3 A2 C2
        obtain ⟨x0, x1, x2, x3⟩ := HBox.out _ _ _ HR2.out
        generalize hW2 : World.alloc w1 _ = W2 at *
        clear hW2
        have HD := hid (deeper_yes HR2.out hlne)
        obtain ⟨rfl, rfl, rfl, rfl, rfl⟩ := HOY.out o hop
        go_upto_region 6 with (first
          | (go_at_call 133; go_loud (with_reducible refine HD.out.mono ?_); rintro e3 w3 ⟨rfl, c3, r3⟩; have C3 := hid c3; have hs3 := c3.size; have GG := hid (HG.out _ r3); clear x0 x1 x2 x3; obtain ⟨x0, x1, x2, x3⟩ := HBox.out _ _ _ r3; clear c3 r3)
          | (go_at_call 131; go_loud (with_reducible refine GG.out.mono ?_); rintro e4 w4 ⟨c4, v4, rfl, ⟨pe, ce, rfl, k4, E4, hcp4⟩, r4⟩; have C4 := hid c4; have hs4 := c4.size; have HE4 := hid E4; have HR4 := hid r4; clear c4 E4 r4)
          | fail)
        have A5 := albl w4 (.cells #[.int .i64 e.k, .int .i64 e.op, .int .i64 e.v.k, .int .i64 e.v.n, .string e.v.s, .string ⟨e.t.toArray⟩, .string ⟨e.n.toArray⟩, .int .i64 0, .int .i64 0, .slice pe e.xs.length ce] 26)
        have C25 : Chg (· = rb) W2 (w4.alloc (.cells #[.int .i64 e.k, .int .i64 e.op, .int .i64 e.v.k, .int .i64 e.v.n, .string e.v.s, .string ⟨e.t.toArray⟩, .string ⟨e.n.toArray⟩, .int .i64 0, .int .i64 0, .slice pe e.xs.length ce] 26)) := chg_trans C3.out (chg_trans C4.out (chg_below A5))
        have HR5 := hid (HR4.out.below A5)
        have HBX5 := hid (show BX (w4.alloc (.cells #[.int .i64 e.k, .int .i64 e.op, .int .i64 e.v.k, .int .i64 e.v.n, .string e.v.s, .string ⟨e.t.toArray⟩, .string ⟨e.n.toArray⟩, .int .i64 0, .int .i64 0, .slice pe e.xs.length ce] 26)) w4.heap.size e pe ce from heap_alloc_new w4 _)
        have HX5 := hid (HX2.out.chg C25 (show ¬ (w1.heap.size = rb) by omega))
        have HRes5 := hid (HRes2.out.chg C25 (show ¬ (w.heap.size = rb) by omega))
        have HE5 := hid (HE4.out.newer A5 (F' := fun j => w3.heap.size ≤ j ∧ j ≠ w.heap.size) (fun j q => ⟨q, by omega⟩))
        have HC5 := hid (chg_trans HC2.out C25)
        have hs5 : (w4.alloc (.cells #[.int .i64 e.k, .int .i64 e.op, .int .i64 e.v.k, .int .i64 e.v.n, .string e.v.s, .string ⟨e.t.toArray⟩, .string ⟨e.n.toArray⟩, .int .i64 0, .int .i64 0, .slice pe e.xs.length ce] 26)).heap.size = w4.heap.size + 1 := by simp
        have hdle := HH.out.dle
        clear x0 x1 x2 x3 A5 C25
        obtain ⟨x0, x1, x2, x3⟩ := HBox.out _ _ _ HR5.out
        generalize hW5 : World.alloc w4 _ = W5 at *
        clear hW5
        have c2 := HR5.out.c2
        have f2 := HR5.out.f 2
        have hJ : IntKind.i64.wrap ((32 : Int) - (d' : Int) - 1) = (32 : Int) - (d' : Int) - 1 := by rw [IntKind.wrap_i64]; omega
        have HD6 := hid (HR5.out.dp (d' := d' + 1) hdle ((32 : Int) - (d' : Int) - 1) (by omega))
        go_upto_region 7 with fail
        have K6 : Chg (· = rb) W5 (W5.setCell ⟨rb, 2, none⟩ (.int .i64 ((32 : Int) - (d' : Int) - 1))) := chg_set (Chg.refl _ _) _
        generalize hW6 : World.setCell W5 _ _ = W6 at *
        clear hW6
        obtain ⟨y0, y1, y2, y3, y4, y5, y6, y7, y8, y9⟩ := (HBX5.out.chg K6 (show ¬ (w4.heap.size = rb) by omega)).xc
        simp only [Nat.zero_add] at y0 y1 y2 y3 y4 y5 y6 y7 y8 y9
        obtain ⟨⟨o0, o1, o2, o3, o4⟩, of⟩ := HX5.out.chg K6 (show ¬ (w1.heap.size = rb) by omega)
        have res6 := HRes5.out.chg K6 (show ¬ (w.heap.size = rb) by omega)
        obtain ⟨z0, z1, z2, z3, z4, z5, z6, z7, z8, z9⟩ := res6.cells
        have zf := res6.frozen
        have hs6 := K6.size
        have HK6 := hid K6
        have hlw : w.heap.size < W6.heap.size := by omega
        have HRes6 := hid res6
        have hrb3 : rb < w3.heap.size := by omega
        have hww3 : w.heap.size ≤ w3.heap.size := by omega
        have hww6 : w.heap.size < W6.heap.size := by omega
        clear c2 f2 hJ K6 res6 x0 x1 x2 x3 z0 z1 z2 z3 z4 z5 z6 z7 z8 z9 zf
        have res7 := ResX.chg (F := fun _ => False) HRes6.out (Chg.of_below (albl W6 (.cells #[.int .i64 e.k, .int .i64 e.op, .int .i64 e.v.k, .int .i64 e.v.n, .string e.v.s, .string ⟨e.t.toArray⟩, .string ⟨e.n.toArray⟩, .int .i64 0, .int .i64 0, .slice pe e.xs.length ce] 26))) id
        obtain ⟨z0, z1, z2, z3, z4, z5, z6, z7, z8, z9⟩ := res7.cells
        have zf := res7.frozen
        have HT := hid (And.intro hrb3 (And.intro hww3 hww6))
        clear hs0 hs2 hs3 hs4 hs5 hs6 hdle hop hgt hlne hen hw1 hlt hlw res7 hrb3 hww3 hww6
        go_wp2_with fail
        refine bodyPost_ret (by simp [results, Tryz.results131, go_sem, z0, z1, z2, z3, z4, z5, z6, z7, z8, z9]; try rfl) rfl ?_
        have hg := heap_alloc_new W6 (.cells #[.int .i64 e.k, .int .i64 e.op, .int .i64 e.v.k, .int .i64 e.v.n, .string e.v.s, .string ⟨e.t.toArray⟩, .string ⟨e.n.toArray⟩, .int .i64 0, .int .i64 0, .slice pe e.xs.length ce] 26)
        have CX : Chg (· = rb) W5 (W6.alloc (.cells #[.int .i64 e.k, .int .i64 e.op, .int .i64 e.v.k, .int .i64 e.v.n, .string e.v.s, .string ⟨e.t.toArray⟩, .string ⟨e.n.toArray⟩, .int .i64 0, .int .i64 0, .slice pe e.xs.length ce] 26)) := HK6.out.alloc _
        obtain ⟨hrb3, hww3, hww6⟩ := HT.out
        obtain ⟨k', hk'⟩ := mk_one o.kind o.op (F := fun j => w.heap.size ≤ j ∧ j ≠ w.heap.size) ⟨by omega, by omega⟩ hg ((HE5.out.chg CX (fun j q r => by omega)).mono (fun j _ q => ⟨by omega, q.2⟩)) hcp4
        exact finX (e := mkE o.kind o.op [e]) HH.out (chg_trans HC5.out CX) (Nat.le_refl _) (HD6.out.below (albl _ _)) hk' (by show 1 ≤ 1; exact Nat.le_refl 1)
end Go.Proofs.YtblkhlhhlalbkaaGreatDoor
namespace Go.Proofs.YtblkhlhhlalbkaaGreatDoor
open Go.RowKit Go.Lib Go.Sort
set_option linter.unusedVariables false
set_option maxRecDepth 20000

set_option maxHeartbeats 16000000 in
theorem test_any {rb : Nat} {p : Option Addr} {c : Nat} {xs : Ts} {d G : Nat} {fs cs : Array Value} {P : Ts → Rd Ex} (kb : Nat) (hbox : ∀ w l, RS w rb p c xs l d → w.cell? ⟨rb + kb, 0, none⟩ = some (.pointer (some ⟨rb, 0, none⟩)) ∧ w.cell? ⟨rb + (kb + 1), 0, none⟩ = some (.func (.func G) fs cs)) (hen : ∀ args w, (callFunc G args).run Tryz.prog w = .ok (.enter G args) w) (hP : LineOk rb p c xs d G (fs ++ cs) P) :
    LineOk rb p c xs d 144 #[rP rb (kb + 1), rP rb kb] (testP P) := by
  intro w l h
  have HH := hid h
  have hlt := h.lt
  have H0 := h.below (albl w (.cells #[.int .i64 0, .int .i64 0, .int .i64 0, .int .i64 0, .string ⟨#[]⟩, .string ⟨#[]⟩, .string ⟨#[]⟩, .int .i64 0, .int .i64 0, .slice none 0 0] 26))
  have hres : ResX (w.alloc (.cells #[.int .i64 0, .int .i64 0, .int .i64 0, .int .i64 0, .string ⟨#[]⟩, .string ⟨#[]⟩, .string ⟨#[]⟩, .int .i64 0, .int .i64 0, .slice none 0 0] 26)) w.heap.size := heap_alloc_new w _
  have hs0 : (w.alloc (.cells #[.int .i64 0, .int .i64 0, .int .i64 0, .int .i64 0, .string ⟨#[]⟩, .string ⟨#[]⟩, .string ⟨#[]⟩, .int .i64 0, .int .i64 0, .slice none 0 0] 26)).heap.size = w.heap.size + 1 := by simp
  obtain ⟨_, x2⟩ := hbox _ _ H0
  have HP := hid (hP _ _ H0)
  have HPP := hid hP
  have HBox := hid hbox
  have HRes := hid hres
  have HB0 := hid (albl w (.cells #[.int .i64 0, .int .i64 0, .int .i64 0, .int .i64 0, .string ⟨#[]⟩, .string ⟨#[]⟩, .string ⟨#[]⟩, .int .i64 0, .int .i64 0, .slice none 0 0] 26))
  unfold RdE QX QF at HP
  rw [hs0] at HP
  unfold testP rP
  clear h hres H0 hP hbox
  cases hp : P l with
  | error x =>
    rw [hp] at HP
    simp only [] at HP ⊢
    clear hp HPP HBox
    go_enter Tryz.func144, Tryz.ntmps144
    go_upto_region 1 with fail
    generalize hWW : w.alloc _ = W at *
    clear hWW
    go_wp2_with (first | (with_reducible refine HP.out.mono ?_; rintro e2 w2 ⟨c2, b2, rfl, f2⟩) | fail)
    exact ⟨rfl, chg_trans (chg_below HB0.out) c2, b2, rfl, f2⟩
  | ok y =>
    obtain ⟨e, l1⟩ := y
    rw [hp] at HP
    simp only [] at HP ⊢
    have HTk := hid (fun w' (r : RS w' rb p c xs l1 d) => take_any 1 [105, 115] r (by decide))
    clear hp
    cases his : stn 1 [105, 115] l1 with
    | true =>
      rw [his] at HTk
      simp only [if_true] at HTk ⊢
      have HN0 := hid (fun w' (r : RS w' rb p c xs l1.tail d) => nullness_any r)
      unfold RdE at HN0
      cases hn : nullP l1.tail with
      | error x =>
        rw [hn] at HN0
        simp only [] at HN0 ⊢
        have HN := hid (fun w' r => HN0.out w' r)
        clear HN0 hn
        go_enter Tryz.func144, Tryz.ntmps144
        go_upto_region 1 with fail
        generalize hWW : w.alloc _ = W at *
        clear hWW
        go_upto_region 3 with (first
          | (go_loud (with_reducible refine HP.out.mono ?_); rintro e2 w2 ⟨c2, v2, rfl, ⟨pe, ce, rfl, k, hE, hcp0⟩, r2⟩; have r3 := r2.below (albl w2 (.cells #[.int .i64 e.k, .int .i64 e.op, .int .i64 e.v.k, .int .i64 e.v.n, .string e.v.s, .string ⟨e.t.toArray⟩, .string ⟨e.n.toArray⟩, .int .i64 0, .int .i64 0, .slice pe e.xs.length ce] 26)); have HRes2 := hid (ResX.chg (F := fun _ => False) (HRes.out.chg c2 (show ¬ (w.heap.size = rb) by omega)) (Chg.of_below (albl w2 (.cells #[.int .i64 e.k, .int .i64 e.op, .int .i64 e.v.k, .int .i64 e.v.n, .string e.v.s, .string ⟨e.t.toArray⟩, .string ⟨e.n.toArray⟩, .int .i64 0, .int .i64 0, .slice pe e.xs.length ce] 26))) id); have HE := hid hE; have HBX2 := hid (show BX (w2.alloc (.cells #[.int .i64 e.k, .int .i64 e.op, .int .i64 e.v.k, .int .i64 e.v.n, .string e.v.s, .string ⟨e.t.toArray⟩, .string ⟨e.n.toArray⟩, .int .i64 0, .int .i64 0, .slice pe e.xs.length ce] 26)) w2.heap.size e pe ce from heap_alloc_new w2 _); have C2 := hid (chg_trans (chg_below HB0.out) c2); have hs2 := c2.size; obtain ⟨x0, x1⟩ := HBox.out _ _ r3; have TK := hid (HTk.out _ r3); clear c2 hE r2 r3)
          | (go_at_call 145; go_loud (with_reducible refine TK.out.mono ?_); rintro e3 w3 ⟨rfl, c3, r3⟩; have HR3 := hid r3; have C3 := hid c3; have hs3 := c3.size; clear c3 r3)
          | fail)
        have C23 : Hid (Chg (· = rb) w2 w3) := chg_trans (chg_below (albl w2 (.cells #[.int .i64 e.k, .int .i64 e.op, .int .i64 e.v.k, .int .i64 e.v.n, .string e.v.s, .string ⟨e.t.toArray⟩, .string ⟨e.n.toArray⟩, .int .i64 0, .int .i64 0, .slice pe e.xs.length ce] 26))) C3.out
        have HCW := hid (chg_trans C2.out C23.out)
        have HRes3 := hid (HRes2.out.chg C3.out (show ¬ (w.heap.size = rb) by omega))
        have HRW := HR3
        have hsw2 : w2.heap.size < w3.heap.size := by simp only [World.size_alloc] at hs3; omega
        have HS : Hid (∀ w', Chg (· = rb) w3 w' → w'.cell? ⟨rb + kb, 0, none⟩ = some (.pointer (some ⟨rb, 0, none⟩)) ∧ w'.cell? ⟨w2.heap.size, 0, none⟩ = some (.int .i64 e.k) ∧ w'.cell? ⟨w2.heap.size, 1, none⟩ = some (.int .i64 e.op) ∧ w'.cell? ⟨w2.heap.size, 2, none⟩ = some (.int .i64 e.v.k) ∧ w'.cell? ⟨w2.heap.size, 3, none⟩ = some (.int .i64 e.v.n) ∧ w'.cell? ⟨w2.heap.size, 4, none⟩ = some (.string e.v.s) ∧ w'.cell? ⟨w2.heap.size, 5, none⟩ = some (.string ⟨e.t.toArray⟩) ∧ w'.cell? ⟨w2.heap.size, 6, none⟩ = some (.string ⟨e.n.toArray⟩) ∧ w'.cell? ⟨w2.heap.size, 7, none⟩ = some (.int .i64 0) ∧ w'.cell? ⟨w2.heap.size, 8, none⟩ = some (.int .i64 0) ∧ w'.cell? ⟨w2.heap.size, 9, none⟩ = some (.slice pe e.xs.length ce)) := fun w' C => by
          have hx := ((HBX2.out.chg C3.out (show ¬ (w2.heap.size = rb) by omega)).chg C (show ¬ (w2.heap.size = rb) by omega)).xc
          have q0 := (HBox.out _ _ HR3.out).1
          have hk0 := (HBox.out _ _ HH.out).1
          refine ⟨?_, hx⟩
          by_cases hkb : kb = 0
          · exact absurd (HBox.out _ _ HR3.out).1 (by rw [hkb, Nat.add_zero, HR3.out.c0]; simp)
          · exact C.cell q0 (show ¬ (rb + kb = rb) by omega)
        clear x0 x1 x2
        generalize hW3 : w3 = W3 at *
        clear hW3
        have CC : Chg (· = rb) W3 W3.drew := (Chg.refl _ _).drew
        have CC0 := hid (show Below W3.heap.size W3 W3.drew from (Below.refl _ _).drew)
        refine wp_region_z (z := 5) (S := fun w' => w'.cell? ⟨rb + kb, 0, none⟩ = some (.pointer (some ⟨rb, 0, none⟩)) ∧ w'.cell? ⟨w2.heap.size, 0, none⟩ = some (.int .i64 e.k) ∧ w'.cell? ⟨w2.heap.size, 1, none⟩ = some (.int .i64 e.op) ∧ w'.cell? ⟨w2.heap.size, 2, none⟩ = some (.int .i64 e.v.k) ∧ w'.cell? ⟨w2.heap.size, 3, none⟩ = some (.int .i64 e.v.n) ∧ w'.cell? ⟨w2.heap.size, 4, none⟩ = some (.string e.v.s) ∧ w'.cell? ⟨w2.heap.size, 5, none⟩ = some (.string ⟨e.t.toArray⟩) ∧ w'.cell? ⟨w2.heap.size, 6, none⟩ = some (.string ⟨e.n.toArray⟩) ∧ w'.cell? ⟨w2.heap.size, 7, none⟩ = some (.int .i64 0) ∧ w'.cell? ⟨w2.heap.size, 8, none⟩ = some (.int .i64 0) ∧ w'.cell? ⟨w2.heap.size, 9, none⟩ = some (.slice pe e.xs.length ce)) (by kernel_rfl) (HS.out _ CC) (fun hHeld => ?_)
        generalize hV : W3.drew = V at *
        clear hV
        have HRV := hid (HRW.out.below CC0.out)
        clear CC0
        refine wpZ_take (i := 0) (t := 12) (v := ?_) rfl rfl (by kernel_rfl) (by kernel_rfl) (by kernel_rfl) (by kernel_rfl) (fun _ _ _ h => h) (Or.inl ⟨by rfl, ?_⟩) (by assumption) ?_
        rotate_left
        · intro wq hSw
          try dsimp only at hSw
          go_simp
          try with_reducible rfl
        try go_frame
        refine wpZ_take (i := 2) (t := 14) (v := ?_) rfl rfl (by kernel_rfl) (by kernel_rfl) (by kernel_rfl) (by kernel_rfl) (fun _ _ _ h => h) (Or.inl ⟨by rfl, ?_⟩) (by assumption) ?_
        rotate_left
        · intro wq hSw
          try dsimp only at hSw
          go_simp
          try with_reducible rfl
        try go_frame
        refine wpZ_two (i := 1) (j := 3) (by kernel_rfl) rfl rfl (fun K hK => ?_) (fun K hK => ?_)
        · go_simp
          go_wp2_with (first | (go_at_call 146; go_loud (with_reducible refine (HN.out _ HRV.out).mono ?_); rintro e4 w4 ⟨c4, b4, rfl, f4⟩) | fail)
          exact ⟨rfl, chg_trans HCW.out (chg_trans CC c4), b4, rfl, f4⟩
        · go_simp
          have HG0 := heap_alloc_new V (.cells #[.int .i64 e.k, .int .i64 e.op, .int .i64 e.v.k, .int .i64 e.v.n, .string e.v.s, .string ⟨e.t.toArray⟩, .string ⟨e.n.toArray⟩, .int .i64 0, .int .i64 0, .slice pe e.xs.length ce] 26)
          have hg0 := CC.size
          replace CC := CC.alloc (.cells #[.int .i64 e.k, .int .i64 e.op, .int .i64 e.v.k, .int .i64 e.v.n, .string e.v.s, .string ⟨e.t.toArray⟩, .string ⟨e.n.toArray⟩, .int .i64 0, .int .i64 0, .slice pe e.xs.length ce] 26)
          have HRV := hid (HRV.out.below (albl _ (.cells #[.int .i64 e.k, .int .i64 e.op, .int .i64 e.v.k, .int .i64 e.v.n, .string e.v.s, .string ⟨e.t.toArray⟩, .string ⟨e.n.toArray⟩, .int .i64 0, .int .i64 0, .slice pe e.xs.length ce] 26)))
          have HG := hid HG0
          clear HG0
          refine hK.out _ _ (fun _ => HS.out _ CC) (fun hHeldN => ?_)
          replace hHeld := hHeldN (by decide)
          clear hK K hHeldN
          try go_frame
          refine wpZ_step (i := 1) (by kernel_rfl) rfl (fun K hK => ?_)
          go_simp
          go_wp2_with (first | (go_at_call 146; go_loud (with_reducible refine (HN.out _ HRV.out).mono ?_); rintro e4 w4 ⟨c4, b4, rfl, f4⟩) | fail)
          exact ⟨rfl, chg_trans HCW.out (chg_trans CC c4), b4, rfl, f4⟩
      | ok z =>
        obtain ⟨nn, l2⟩ := z
        rw [hn] at HN0
        simp only [] at HN0 ⊢
        have HN := hid (fun w' r => HN0.out w' r)
        clear HN0 hn
        go_enter Tryz.func144, Tryz.ntmps144
        go_upto_region 1 with fail
        generalize hWW : w.alloc _ = W at *
        clear hWW
        go_upto_region 3 with (first
          | (go_loud (with_reducible refine HP.out.mono ?_); rintro e2 w2 ⟨c2, v2, rfl, ⟨pe, ce, rfl, k, hE, hcp0⟩, r2⟩; have r3 := r2.below (albl w2 (.cells #[.int .i64 e.k, .int .i64 e.op, .int .i64 e.v.k, .int .i64 e.v.n, .string e.v.s, .string ⟨e.t.toArray⟩, .string ⟨e.n.toArray⟩, .int .i64 0, .int .i64 0, .slice pe e.xs.length ce] 26)); have HRes2 := hid (ResX.chg (F := fun _ => False) (HRes.out.chg c2 (show ¬ (w.heap.size = rb) by omega)) (Chg.of_below (albl w2 (.cells #[.int .i64 e.k, .int .i64 e.op, .int .i64 e.v.k, .int .i64 e.v.n, .string e.v.s, .string ⟨e.t.toArray⟩, .string ⟨e.n.toArray⟩, .int .i64 0, .int .i64 0, .slice pe e.xs.length ce] 26))) id); have HE := hid hE; have HBX2 := hid (show BX (w2.alloc (.cells #[.int .i64 e.k, .int .i64 e.op, .int .i64 e.v.k, .int .i64 e.v.n, .string e.v.s, .string ⟨e.t.toArray⟩, .string ⟨e.n.toArray⟩, .int .i64 0, .int .i64 0, .slice pe e.xs.length ce] 26)) w2.heap.size e pe ce from heap_alloc_new w2 _); have C2 := hid (chg_trans (chg_below HB0.out) c2); have hs2 := c2.size; obtain ⟨x0, x1⟩ := HBox.out _ _ r3; have TK := hid (HTk.out _ r3); clear c2 hE r2 r3)
          | (go_at_call 145; go_loud (with_reducible refine TK.out.mono ?_); rintro e3 w3 ⟨rfl, c3, r3⟩; have HR3 := hid r3; have C3 := hid c3; have hs3 := c3.size; clear c3 r3)
          | fail)
        have C23 : Hid (Chg (· = rb) w2 w3) := chg_trans (chg_below (albl w2 (.cells #[.int .i64 e.k, .int .i64 e.op, .int .i64 e.v.k, .int .i64 e.v.n, .string e.v.s, .string ⟨e.t.toArray⟩, .string ⟨e.n.toArray⟩, .int .i64 0, .int .i64 0, .slice pe e.xs.length ce] 26))) C3.out
        have HCW := hid (chg_trans C2.out C23.out)
        have HRes3 := hid (HRes2.out.chg C3.out (show ¬ (w.heap.size = rb) by omega))
        have HRW := HR3
        have hsw2 : w2.heap.size < w3.heap.size := by simp only [World.size_alloc] at hs3; omega
        have HS : Hid (∀ w', Chg (· = rb) w3 w' → w'.cell? ⟨rb + kb, 0, none⟩ = some (.pointer (some ⟨rb, 0, none⟩)) ∧ w'.cell? ⟨w2.heap.size, 0, none⟩ = some (.int .i64 e.k) ∧ w'.cell? ⟨w2.heap.size, 1, none⟩ = some (.int .i64 e.op) ∧ w'.cell? ⟨w2.heap.size, 2, none⟩ = some (.int .i64 e.v.k) ∧ w'.cell? ⟨w2.heap.size, 3, none⟩ = some (.int .i64 e.v.n) ∧ w'.cell? ⟨w2.heap.size, 4, none⟩ = some (.string e.v.s) ∧ w'.cell? ⟨w2.heap.size, 5, none⟩ = some (.string ⟨e.t.toArray⟩) ∧ w'.cell? ⟨w2.heap.size, 6, none⟩ = some (.string ⟨e.n.toArray⟩) ∧ w'.cell? ⟨w2.heap.size, 7, none⟩ = some (.int .i64 0) ∧ w'.cell? ⟨w2.heap.size, 8, none⟩ = some (.int .i64 0) ∧ w'.cell? ⟨w2.heap.size, 9, none⟩ = some (.slice pe e.xs.length ce)) := fun w' C => by
          have hx := ((HBX2.out.chg C3.out (show ¬ (w2.heap.size = rb) by omega)).chg C (show ¬ (w2.heap.size = rb) by omega)).xc
          have q0 := (HBox.out _ _ HR3.out).1
          have hk0 := (HBox.out _ _ HH.out).1
          refine ⟨?_, hx⟩
          by_cases hkb : kb = 0
          · exact absurd (HBox.out _ _ HR3.out).1 (by rw [hkb, Nat.add_zero, HR3.out.c0]; simp)
          · exact C.cell q0 (show ¬ (rb + kb = rb) by omega)
        clear x0 x1 x2
        generalize hW3 : w3 = W3 at *
        clear hW3
        have CC : Chg (· = rb) W3 W3.drew := (Chg.refl _ _).drew
        have CC0 := hid (show Below W3.heap.size W3 W3.drew from (Below.refl _ _).drew)
        refine wp_region_z (z := 5) (S := fun w' => w'.cell? ⟨rb + kb, 0, none⟩ = some (.pointer (some ⟨rb, 0, none⟩)) ∧ w'.cell? ⟨w2.heap.size, 0, none⟩ = some (.int .i64 e.k) ∧ w'.cell? ⟨w2.heap.size, 1, none⟩ = some (.int .i64 e.op) ∧ w'.cell? ⟨w2.heap.size, 2, none⟩ = some (.int .i64 e.v.k) ∧ w'.cell? ⟨w2.heap.size, 3, none⟩ = some (.int .i64 e.v.n) ∧ w'.cell? ⟨w2.heap.size, 4, none⟩ = some (.string e.v.s) ∧ w'.cell? ⟨w2.heap.size, 5, none⟩ = some (.string ⟨e.t.toArray⟩) ∧ w'.cell? ⟨w2.heap.size, 6, none⟩ = some (.string ⟨e.n.toArray⟩) ∧ w'.cell? ⟨w2.heap.size, 7, none⟩ = some (.int .i64 0) ∧ w'.cell? ⟨w2.heap.size, 8, none⟩ = some (.int .i64 0) ∧ w'.cell? ⟨w2.heap.size, 9, none⟩ = some (.slice pe e.xs.length ce)) (by kernel_rfl) (HS.out _ CC) (fun hHeld => ?_)
        generalize hV : W3.drew = V at *
        clear hV
        have HRV := hid (HRW.out.below CC0.out)
        clear CC0
        refine wpZ_take (i := 0) (t := 12) (v := ?_) rfl rfl (by kernel_rfl) (by kernel_rfl) (by kernel_rfl) (by kernel_rfl) (fun _ _ _ h => h) (Or.inl ⟨by rfl, ?_⟩) (by assumption) ?_
        rotate_left
        · intro wq hSw
          try dsimp only at hSw
          go_simp
          try with_reducible rfl
        try go_frame
        refine wpZ_take (i := 2) (t := 14) (v := ?_) rfl rfl (by kernel_rfl) (by kernel_rfl) (by kernel_rfl) (by kernel_rfl) (fun _ _ _ h => h) (Or.inl ⟨by rfl, ?_⟩) (by assumption) ?_
        rotate_left
        · intro wq hSw
          try dsimp only at hSw
          go_simp
          try with_reducible rfl
        try go_frame
        refine wpZ_two (i := 1) (j := 3) (by kernel_rfl) rfl rfl (fun K hK => ?_) (fun K hK => ?_)
        · go_simp
          go_wp2_with (first | (go_at_call 146; go_loud (with_reducible refine (HN.out _ HRV.out).mono ?_); rintro e4 w4 ⟨c4, v4, rfl, rfl, r4⟩; replace CC := chg_trans CC c4; have HRV := hid r4; clear c4 r4) | fail)
          refine hK.out _ _ (fun _ => HS.out _ CC) (fun hHeldN => ?_)
          replace hHeld := hHeldN (by decide)
          clear hK K hHeldN
          try go_frame
          refine wpZ_step (i := 3) (by kernel_rfl) rfl (fun K hK => ?_)
          go_simp
          have HG0 := heap_alloc_new w4 (.cells #[.int .i64 e.k, .int .i64 e.op, .int .i64 e.v.k, .int .i64 e.v.n, .string e.v.s, .string ⟨e.t.toArray⟩, .string ⟨e.n.toArray⟩, .int .i64 0, .int .i64 0, .slice pe e.xs.length ce] 26)
          have hg0 := CC.size
          replace CC := CC.alloc (.cells #[.int .i64 e.k, .int .i64 e.op, .int .i64 e.v.k, .int .i64 e.v.n, .string e.v.s, .string ⟨e.t.toArray⟩, .string ⟨e.n.toArray⟩, .int .i64 0, .int .i64 0, .slice pe e.xs.length ce] 26)
          have HRV := hid (HRV.out.below (albl _ (.cells #[.int .i64 e.k, .int .i64 e.op, .int .i64 e.v.k, .int .i64 e.v.n, .string e.v.s, .string ⟨e.t.toArray⟩, .string ⟨e.n.toArray⟩, .int .i64 0, .int .i64 0, .slice pe e.xs.length ce] 26)))
          have HG := hid HG0
          clear HG0
          refine hK.out _ _ (fun _ => HS.out _ CC) (fun hHeldN => ?_)
          replace hHeld := hHeldN (by decide)
          clear hK K hHeldN
          try go_frame
          refine wpZ_take (i := 4) (t := 16) (v := ?_) rfl rfl (by kernel_rfl) (by kernel_rfl) (by kernel_rfl) (by kernel_rfl) (fun _ _ _ h => h) (Or.inl ⟨by rfl, ?_⟩) (by assumption) ?_
          rotate_left
          · intro wq hSw
            try dsimp only at hSw
            go_simp
            try with_reducible rfl
          try go_frame
          refine wpZ_step (i := 5) (by kernel_rfl) rfl (fun K hK => ?_)
          have HRes := hid (HRes3.out.chg CC (show ¬ (w.heap.size = rb) by omega))
          obtain ⟨z0, z1, z2, z3, z4, z5, z6, z7, z8, z9⟩ := HRes.out.cells
          have zf := HRes.out.frozen
          go_simp
          refine hK.out _ _ (fun h => absurd rfl h) (fun _ => ?_)
          clear hK K
          refine wpZ_done (by kernel_rfl) ?_
          go_wp2
          refine bodyPost_ret (by simp [results, Tryz.results144, go_sem, z0, z1, z2, z3, z4, z5, z6, z7, z8, z9]; try rfl) rfl ?_
          have hsX := CC.size
          obtain ⟨k', hk'⟩ := mk_one 7 nn (F := fun j => w.heap.size ≤ j ∧ j ≠ w.heap.size) ⟨by omega, by omega⟩ HG.out (HE.out.keep (chg_trans C23.out CC) (fun j q r => by omega) (fun j q r => ⟨by omega, by omega⟩)) hcp0
          exact finX (e := mkE 7 nn [e]) HH.out (chg_trans HCW.out CC) (Nat.le_refl _) HRV.out hk' (by show 1 ≤ 1; exact Nat.le_refl 1)
        · go_simp
          have HG0 := heap_alloc_new V (.cells #[.int .i64 e.k, .int .i64 e.op, .int .i64 e.v.k, .int .i64 e.v.n, .string e.v.s, .string ⟨e.t.toArray⟩, .string ⟨e.n.toArray⟩, .int .i64 0, .int .i64 0, .slice pe e.xs.length ce] 26)
          have hg0 := CC.size
          replace CC := CC.alloc (.cells #[.int .i64 e.k, .int .i64 e.op, .int .i64 e.v.k, .int .i64 e.v.n, .string e.v.s, .string ⟨e.t.toArray⟩, .string ⟨e.n.toArray⟩, .int .i64 0, .int .i64 0, .slice pe e.xs.length ce] 26)
          have HRV := hid (HRV.out.below (albl _ (.cells #[.int .i64 e.k, .int .i64 e.op, .int .i64 e.v.k, .int .i64 e.v.n, .string e.v.s, .string ⟨e.t.toArray⟩, .string ⟨e.n.toArray⟩, .int .i64 0, .int .i64 0, .slice pe e.xs.length ce] 26)))
          have HG := hid HG0
          clear HG0
          refine hK.out _ _ (fun _ => HS.out _ CC) (fun hHeldN => ?_)
          replace hHeld := hHeldN (by decide)
          clear hK K hHeldN
          try go_frame
          refine wpZ_step (i := 1) (by kernel_rfl) rfl (fun K hK => ?_)
          go_simp
          go_wp2_with (first | (go_at_call 146; go_loud (with_reducible refine (HN.out _ HRV.out).mono ?_); rintro e4 w4 ⟨c4, v4, rfl, rfl, r4⟩; replace CC := chg_trans CC c4; have HRV := hid r4; replace HG := hid ((c4.block _ (Array.getElem?_eq_some_iff.1 HG.out).1 (show ¬ (V.heap.size = rb) by omega)).trans HG.out); clear c4 r4) | fail)
          refine hK.out _ _ (fun _ => HS.out _ CC) (fun hHeldN => ?_)
          replace hHeld := hHeldN (by decide)
          clear hK K hHeldN
          try go_frame
          refine wpZ_take (i := 4) (t := 16) (v := ?_) rfl rfl (by kernel_rfl) (by kernel_rfl) (by kernel_rfl) (by kernel_rfl) (fun _ _ _ h => h) (Or.inl ⟨by rfl, ?_⟩) (by assumption) ?_
          rotate_left
          · intro wq hSw
            try dsimp only at hSw
            go_simp
            try with_reducible rfl
          try go_frame
          refine wpZ_step (i := 5) (by kernel_rfl) rfl (fun K hK => ?_)
          have HRes := hid (HRes3.out.chg CC (show ¬ (w.heap.size = rb) by omega))
          obtain ⟨z0, z1, z2, z3, z4, z5, z6, z7, z8, z9⟩ := HRes.out.cells
          have zf := HRes.out.frozen
          go_simp
          refine hK.out _ _ (fun h => absurd rfl h) (fun _ => ?_)
          clear hK K
          refine wpZ_done (by kernel_rfl) ?_
          go_wp2
          refine bodyPost_ret (by simp [results, Tryz.results144, go_sem, z0, z1, z2, z3, z4, z5, z6, z7, z8, z9]; try rfl) rfl ?_
          have hsX := CC.size
          obtain ⟨k', hk'⟩ := mk_one 7 nn (F := fun j => w.heap.size ≤ j ∧ j ≠ w.heap.size) ⟨by omega, by omega⟩ HG.out (HE.out.keep (chg_trans C23.out CC) (fun j q r => by omega) (fun j q r => ⟨by omega, by omega⟩)) hcp0
          exact finX (e := mkE 7 nn [e]) HH.out (chg_trans HCW.out CC) (Nat.le_refl _) HRV.out hk' (by show 1 ≤ 1; exact Nat.le_refl 1)
    | false =>
      rw [his] at HTk
      simp only [Bool.false_eq_true, if_false] at HTk ⊢
      have HOp := hid (fun w' (r : RS w' rb p c xs l1 d) => operator_form 4 r)
      cases hop : opAt 4 l1 with
      | none =>
        rw [hop] at HOp
        simp only [Option.isSome_none] at HOp ⊢
        go_enter Tryz.func144, Tryz.ntmps144
        go_upto_region 1 with fail
        generalize hWW : w.alloc _ = W at *
        clear hWW
        go_upto_region 4 with (first
          | (go_loud (with_reducible refine HP.out.mono ?_); rintro e2 w2 ⟨c2, v2, rfl, ⟨pe, ce, rfl, k, hE, hcp0⟩, r2⟩; have r3 := r2.below (albl w2 (.cells #[.int .i64 e.k, .int .i64 e.op, .int .i64 e.v.k, .int .i64 e.v.n, .string e.v.s, .string ⟨e.t.toArray⟩, .string ⟨e.n.toArray⟩, .int .i64 0, .int .i64 0, .slice pe e.xs.length ce] 26)); have HRes2 := hid (ResX.chg (F := fun _ => False) (HRes.out.chg c2 (show ¬ (w.heap.size = rb) by omega)) (Chg.of_below (albl w2 (.cells #[.int .i64 e.k, .int .i64 e.op, .int .i64 e.v.k, .int .i64 e.v.n, .string e.v.s, .string ⟨e.t.toArray⟩, .string ⟨e.n.toArray⟩, .int .i64 0, .int .i64 0, .slice pe e.xs.length ce] 26))) id); have HE := hid hE; have HBX2 := hid (show BX (w2.alloc (.cells #[.int .i64 e.k, .int .i64 e.op, .int .i64 e.v.k, .int .i64 e.v.n, .string e.v.s, .string ⟨e.t.toArray⟩, .string ⟨e.n.toArray⟩, .int .i64 0, .int .i64 0, .slice pe e.xs.length ce] 26)) w2.heap.size e pe ce from heap_alloc_new w2 _); have C2 := hid (chg_trans (chg_below HB0.out) c2); have hs2 := c2.size; obtain ⟨x0, x1⟩ := HBox.out _ _ r3; have TK := hid (HTk.out _ r3); clear c2 hE r2 r3)
          | (go_at_call 145; go_loud (with_reducible refine TK.out.mono ?_); rintro e3 w3 ⟨rfl, c3, r3⟩; have HR3 := hid r3; have C3 := hid c3; have hs3 := c3.size; clear c3 r3)
          | fail)
        have C23 : Hid (Chg (· = rb) w2 w3) := chg_trans (chg_below (albl w2 (.cells #[.int .i64 e.k, .int .i64 e.op, .int .i64 e.v.k, .int .i64 e.v.n, .string e.v.s, .string ⟨e.t.toArray⟩, .string ⟨e.n.toArray⟩, .int .i64 0, .int .i64 0, .slice pe e.xs.length ce] 26))) C3.out
        have HCW := hid (chg_trans C2.out C23.out)
        have HRes3 := hid (HRes2.out.chg C3.out (show ¬ (w.heap.size = rb) by omega))
        have HBX3 := hid (HBX2.out.chg C3.out (show ¬ (w2.heap.size = rb) by omega))
        have hsw2 : w2.heap.size < w3.heap.size := by simp only [World.size_alloc] at hs3; omega
        have HE3 := hid (HE.out.keep (F' := fun j => w.heap.size + 1 ≤ j) C23.out (fun j q r => by omega) (fun j q r => q))
        clear x0 x1 x2
        obtain ⟨x0, x1⟩ := HBox.out _ _ HR3.out
        obtain ⟨ok, oo, ot, os, on, hoy, co⟩ := HOp.out _ HR3.out
        have HOY := hid hoy
        have CO := hid co
        clear hoy co
        go_upto_region 7 with (first
          | (go_at_call 132; go_loud (with_reducible refine CO.out.mono ?_); rintro e4 w4 ⟨rfl, b4⟩; have B4 := hid b4; clear b4)
          | fail)
        have A5 := albl w4 (.cells #[.int .i64 ok, .int .i64 oo, .int .i64 ot, .string os, .int .i64 on] 132)
        have C35 : Chg (· = rb) w3 (w4.alloc (.cells #[.int .i64 ok, .int .i64 oo, .int .i64 ot, .string os, .int .i64 on] 132)) := chg_trans (chg_below B4.out) (chg_below A5)
        have hs5 := C35.size
        have HR5 := hid ((HR3.out.below B4.out).below A5)
        have HBX5 := hid (HBX3.out.chg C35 (show ¬ (w2.heap.size = rb) by omega))
        have HRes5 := hid (HRes3.out.chg C35 (show ¬ (w.heap.size = rb) by omega))
        have HE5 := hid (HE3.out.keep (F' := fun j => w.heap.size + 1 ≤ j ∧ j < w3.heap.size) C35 (fun j q r => by omega) (fun j q r => ⟨q, r⟩))
        have HX5 := hid (OX.new w4 ok oo ot os on)
        have HC5 := hid (chg_trans HCW.out C35)
        have hw4 := B4.out.size
        clear x0 x1 A5 C35
        obtain ⟨x0, x1⟩ := HBox.out _ _ HR5.out
        generalize hW5 : World.alloc w4 _ = W5 at *
        clear hW5
        obtain ⟨y0, y1, y2, y3, y4, y5, y6, y7, y8, y9⟩ := HBX5.out.xc
        simp only [Nat.zero_add] at y0 y1 y2 y3 y4 y5 y6 y7 y8 y9
        obtain ⟨⟨o0, o1, o2, o3, o4⟩, of⟩ := HX5.out
        obtain ⟨z0, z1, z2, z3, z4, z5, z6, z7, z8, z9⟩ := HRes5.out.cells
        have zf := HRes5.out.frozen
        go_wp2_with fail
        refine bodyPost_ret (by simp [results, Tryz.results144, go_sem, z0, z1, z2, z3, z4, z5, z6, z7, z8, z9]; try rfl) rfl ?_
        exact finX HH.out HC5.out (Nat.le_refl _) HR5.out (HE5.out.mono (fun j _ q => ⟨by omega, by omega⟩)) hcp0
      | some o =>
        have hlne : l1 ≠ [] := by
          obtain ⟨x, r, e, _⟩ := stn_pos (opAt_some hop).2.2
          rw [e]; exact List.cons_ne_nil _ _
        rw [hop] at HOp
        simp only [Option.isSome_some] at HOp ⊢
        cases hpt : P l1.tail with
        | error x =>
          simp only []
          go_enter Tryz.func144, Tryz.ntmps144
          go_upto_region 1 with fail
          generalize hWW : w.alloc _ = W at *
          clear hWW
          go_upto_region 4 with (first
            | (go_loud (with_reducible refine HP.out.mono ?_); rintro e2 w2 ⟨c2, v2, rfl, ⟨pe, ce, rfl, k, hE, hcp0⟩, r2⟩; have r3 := r2.below (albl w2 (.cells #[.int .i64 e.k, .int .i64 e.op, .int .i64 e.v.k, .int .i64 e.v.n, .string e.v.s, .string ⟨e.t.toArray⟩, .string ⟨e.n.toArray⟩, .int .i64 0, .int .i64 0, .slice pe e.xs.length ce] 26)); have HRes2 := hid (ResX.chg (F := fun _ => False) (HRes.out.chg c2 (show ¬ (w.heap.size = rb) by omega)) (Chg.of_below (albl w2 (.cells #[.int .i64 e.k, .int .i64 e.op, .int .i64 e.v.k, .int .i64 e.v.n, .string e.v.s, .string ⟨e.t.toArray⟩, .string ⟨e.n.toArray⟩, .int .i64 0, .int .i64 0, .slice pe e.xs.length ce] 26))) id); have HE := hid hE; have HBX2 := hid (show BX (w2.alloc (.cells #[.int .i64 e.k, .int .i64 e.op, .int .i64 e.v.k, .int .i64 e.v.n, .string e.v.s, .string ⟨e.t.toArray⟩, .string ⟨e.n.toArray⟩, .int .i64 0, .int .i64 0, .slice pe e.xs.length ce] 26)) w2.heap.size e pe ce from heap_alloc_new w2 _); have C2 := hid (chg_trans (chg_below HB0.out) c2); have hs2 := c2.size; obtain ⟨x0, x1⟩ := HBox.out _ _ r3; have TK := hid (HTk.out _ r3); clear c2 hE r2 r3)
            | (go_at_call 145; go_loud (with_reducible refine TK.out.mono ?_); rintro e3 w3 ⟨rfl, c3, r3⟩; have HR3 := hid r3; have C3 := hid c3; have hs3 := c3.size; clear c3 r3)
            | fail)
          have C23 : Hid (Chg (· = rb) w2 w3) := chg_trans (chg_below (albl w2 (.cells #[.int .i64 e.k, .int .i64 e.op, .int .i64 e.v.k, .int .i64 e.v.n, .string e.v.s, .string ⟨e.t.toArray⟩, .string ⟨e.n.toArray⟩, .int .i64 0, .int .i64 0, .slice pe e.xs.length ce] 26))) C3.out
          have HCW := hid (chg_trans C2.out C23.out)
          have HRes3 := hid (HRes2.out.chg C3.out (show ¬ (w.heap.size = rb) by omega))
          have HBX3 := hid (HBX2.out.chg C3.out (show ¬ (w2.heap.size = rb) by omega))
          have hsw2 : w2.heap.size < w3.heap.size := by simp only [World.size_alloc] at hs3; omega
          have HE3 := hid (HE.out.keep (F' := fun j => w.heap.size + 1 ≤ j) C23.out (fun j q r => by omega) (fun j q r => q))
          clear x0 x1 x2
          obtain ⟨x0, x1⟩ := HBox.out _ _ HR3.out
          obtain ⟨ok, oo, ot, os, on, hoy, co⟩ := HOp.out _ HR3.out
          have HOY := hid hoy
          have CO := hid co
          clear hoy co
          go_upto_region 6 with (first
            | (go_at_call 132; go_loud (with_reducible refine CO.out.mono ?_); rintro e4 w4 ⟨rfl, b4⟩; have B4 := hid b4; clear b4)
            | fail)
          have A5 := albl w4 (.cells #[.int .i64 ok, .int .i64 oo, .int .i64 ot, .string os, .int .i64 on] 132)
          have C35 : Chg (· = rb) w3 (w4.alloc (.cells #[.int .i64 ok, .int .i64 oo, .int .i64 ot, .string os, .int .i64 on] 132)) := chg_trans (chg_below B4.out) (chg_below A5)
          have hs5 := C35.size
          have HR5 := hid ((HR3.out.below B4.out).below A5)
          have HBX5 := hid (HBX3.out.chg C35 (show ¬ (w2.heap.size = rb) by omega))
          have HRes5 := hid (HRes3.out.chg C35 (show ¬ (w.heap.size = rb) by omega))
          have HE5 := hid (HE3.out.keep (F' := fun j => w.heap.size + 1 ≤ j ∧ j < w3.heap.size) C35 (fun j q r => by omega) (fun j q r => ⟨q, r⟩))
          have HX5 := hid (OX.new w4 ok oo ot os on)
          have HC5 := hid (chg_trans HCW.out C35)
          have hw4 := B4.out.size
          clear x0 x1 A5 C35
          obtain ⟨x0, x1⟩ := HBox.out _ _ HR5.out
          generalize hW5 : World.alloc w4 _ = W5 at *
          clear hW5
          obtain ⟨y0, y1, y2, y3, y4, y5, y6, y7, y8, y9⟩ := HBX5.out.xc
          simp only [Nat.zero_add] at y0 y1 y2 y3 y4 y5 y6 y7 y8 y9
          obtain ⟨⟨o0, o1, o2, o3, o4⟩, of⟩ := HX5.out
          obtain ⟨rfl, rfl, rfl, rfl, rfl⟩ := HOY.out o rfl
          have HW := hid (with_any (F := fun j => w.heap.size + 1 ≤ j ∧ j < w3.heap.size) o e pe ce k HR5.out hlne hen HPP.out (fun j q r => by omega) HE5.out hcp0)
          unfold RdE QF at HW
          rw [hpt] at HW
          simp only [] at HW
          go_wp2_with (first
            | (go_at_call 143; go_loud (with_reducible refine HW.out.mono ?_); rintro e6 w6 ⟨c6, b6, rfl, f6⟩)
            | fail)
          exact ⟨rfl, chg_trans HC5.out c6, b6, rfl, f6⟩
        | ok y =>
          obtain ⟨y, l2⟩ := y
          simp only []
          go_enter Tryz.func144, Tryz.ntmps144
          go_upto_region 1 with fail
          generalize hWW : w.alloc _ = W at *
          clear hWW
          go_upto_region 4 with (first
            | (go_loud (with_reducible refine HP.out.mono ?_); rintro e2 w2 ⟨c2, v2, rfl, ⟨pe, ce, rfl, k, hE, hcp0⟩, r2⟩; have r3 := r2.below (albl w2 (.cells #[.int .i64 e.k, .int .i64 e.op, .int .i64 e.v.k, .int .i64 e.v.n, .string e.v.s, .string ⟨e.t.toArray⟩, .string ⟨e.n.toArray⟩, .int .i64 0, .int .i64 0, .slice pe e.xs.length ce] 26)); have HRes2 := hid (ResX.chg (F := fun _ => False) (HRes.out.chg c2 (show ¬ (w.heap.size = rb) by omega)) (Chg.of_below (albl w2 (.cells #[.int .i64 e.k, .int .i64 e.op, .int .i64 e.v.k, .int .i64 e.v.n, .string e.v.s, .string ⟨e.t.toArray⟩, .string ⟨e.n.toArray⟩, .int .i64 0, .int .i64 0, .slice pe e.xs.length ce] 26))) id); have HE := hid hE; have HBX2 := hid (show BX (w2.alloc (.cells #[.int .i64 e.k, .int .i64 e.op, .int .i64 e.v.k, .int .i64 e.v.n, .string e.v.s, .string ⟨e.t.toArray⟩, .string ⟨e.n.toArray⟩, .int .i64 0, .int .i64 0, .slice pe e.xs.length ce] 26)) w2.heap.size e pe ce from heap_alloc_new w2 _); have C2 := hid (chg_trans (chg_below HB0.out) c2); have hs2 := c2.size; obtain ⟨x0, x1⟩ := HBox.out _ _ r3; have TK := hid (HTk.out _ r3); clear c2 hE r2 r3)
            | (go_at_call 145; go_loud (with_reducible refine TK.out.mono ?_); rintro e3 w3 ⟨rfl, c3, r3⟩; have HR3 := hid r3; have C3 := hid c3; have hs3 := c3.size; clear c3 r3)
            | fail)
          have C23 : Hid (Chg (· = rb) w2 w3) := chg_trans (chg_below (albl w2 (.cells #[.int .i64 e.k, .int .i64 e.op, .int .i64 e.v.k, .int .i64 e.v.n, .string e.v.s, .string ⟨e.t.toArray⟩, .string ⟨e.n.toArray⟩, .int .i64 0, .int .i64 0, .slice pe e.xs.length ce] 26))) C3.out
          have HCW := hid (chg_trans C2.out C23.out)
          have HRes3 := hid (HRes2.out.chg C3.out (show ¬ (w.heap.size = rb) by omega))
          have HBX3 := hid (HBX2.out.chg C3.out (show ¬ (w2.heap.size = rb) by omega))
          have hsw2 : w2.heap.size < w3.heap.size := by simp only [World.size_alloc] at hs3; omega
          have HE3 := hid (HE.out.keep (F' := fun j => w.heap.size + 1 ≤ j) C23.out (fun j q r => by omega) (fun j q r => q))
          clear x0 x1 x2
          obtain ⟨x0, x1⟩ := HBox.out _ _ HR3.out
          obtain ⟨ok, oo, ot, os, on, hoy, co⟩ := HOp.out _ HR3.out
          have HOY := hid hoy
          have CO := hid co
          clear hoy co
          go_upto_region 6 with (first
            | (go_at_call 132; go_loud (with_reducible refine CO.out.mono ?_); rintro e4 w4 ⟨rfl, b4⟩; have B4 := hid b4; clear b4)
            | fail)
          have A5 := albl w4 (.cells #[.int .i64 ok, .int .i64 oo, .int .i64 ot, .string os, .int .i64 on] 132)
          have C35 : Chg (· = rb) w3 (w4.alloc (.cells #[.int .i64 ok, .int .i64 oo, .int .i64 ot, .string os, .int .i64 on] 132)) := chg_trans (chg_below B4.out) (chg_below A5)
          have hs5 := C35.size
          have HR5 := hid ((HR3.out.below B4.out).below A5)
          have HBX5 := hid (HBX3.out.chg C35 (show ¬ (w2.heap.size = rb) by omega))
          have HRes5 := hid (HRes3.out.chg C35 (show ¬ (w.heap.size = rb) by omega))
          have HE5 := hid (HE3.out.keep (F' := fun j => w.heap.size + 1 ≤ j ∧ j < w3.heap.size) C35 (fun j q r => by omega) (fun j q r => ⟨q, r⟩))
          have HX5 := hid (OX.new w4 ok oo ot os on)
          have HC5 := hid (chg_trans HCW.out C35)
          have hw4 := B4.out.size
          clear x0 x1 A5 C35
          obtain ⟨x0, x1⟩ := HBox.out _ _ HR5.out
          generalize hW5 : World.alloc w4 _ = W5 at *
          clear hW5
          obtain ⟨y0, y1, y2, y3, y4, y5, y6, y7, y8, y9⟩ := HBX5.out.xc
          simp only [Nat.zero_add] at y0 y1 y2 y3 y4 y5 y6 y7 y8 y9
          obtain ⟨⟨o0, o1, o2, o3, o4⟩, of⟩ := HX5.out
          obtain ⟨rfl, rfl, rfl, rfl, rfl⟩ := HOY.out o rfl
          have HW := hid (with_any (F := fun j => w.heap.size + 1 ≤ j ∧ j < w3.heap.size) o e pe ce k HR5.out hlne hen HPP.out (fun j q r => by omega) HE5.out hcp0)
          unfold RdE QF at HW
          rw [hpt] at HW
          simp only [] at HW
          go_wp2_with (first
            | (go_at_call 143; go_loud (with_reducible refine HW.out.mono ?_); rintro e6 w6 ⟨c6, v6, rfl, ⟨p6, q6, rfl, k6, E6, hcp6⟩, r6⟩; have res6 := HRes5.out.chg c6 (show ¬ (w.heap.size = rb) by omega); obtain ⟨z0, z1, z2, z3, z4, z5, z6, z7, z8, z9⟩ := res6.cells; have zf := res6.frozen; have C6 := hid c6; have HE6 := hid E6; have HR6 := hid r6; clear c6 E6 r6 res6)
            | fail)
          refine bodyPost_ret (by simp [results, Tryz.results144, go_sem, z0, z1, z2, z3, z4, z5, z6, z7, z8, z9]; try rfl) rfl ?_
          exact finX (e := mkE o.kind o.op [e, y]) HH.out (chg_trans HC5.out C6.out) (Nat.le_refl _) HR6.out (HE6.out.mono (fun j _ q => ⟨by omega, by omega⟩)) hcp6
end Go.Proofs.YtblkhlhhlalbkaaGreatDoor
