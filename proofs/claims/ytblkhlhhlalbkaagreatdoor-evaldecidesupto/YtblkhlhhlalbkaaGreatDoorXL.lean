/- What item of the reader of package expr does. Conditions: none. What item of the reader of package expr does: literals, calls and columns, and the whole. Conditions: none. -/
import Derived.Test.YtblkhlhhlalbkaaGreatDoorXK
import Derived.Test.YtblkhlhhlalbkaaGreatDoorXM
namespace Go.Proofs.YtblkhlhhlalbkaaGreatDoor
open Go.RowKit Go.Lib Go.Sort
set_option linter.unusedVariables false
set_option maxRecDepth 20000

set_option maxHeartbeats 16000000 in
theorem item_paren {w : World} {rb : Nat} {p : Option Addr} {c : Nat} {xs l : Ts} {d : Nat} {prev : Option (Ts → Rd Ex)} (h : RS w rb p c xs l d) (hst : stn 5 [40] l = true) (hprev : ∀ g, prev = some g → ∃ d', d = d' + 1 ∧ LineOk rb p c xs d' 142 #[.pointer (some ⟨rb + 25, 0, none⟩), .pointer (some ⟨rb + 23, 0, none⟩), .pointer (some ⟨rb + 24, 0, none⟩)] g) (hnone : prev = none → d = 0) :
    Calls Tryz.prog 92 #[.pointer (some ⟨rb, 0, none⟩)] w (RdE (QX w.heap.size) rb p c xs d (brkP prev (fun g => g) l) w) := by
  have HH := hid h
  have hlt := h.lt
  have hl : l ≠ [] := by
    obtain ⟨x, r, e, _⟩ := stn_pos hst
    rw [e]; exact List.cons_ne_nil _ _
  obtain ⟨hs0, e1, e2⟩ := alc2 w (.cells #[.pointer (some ⟨rb, 0, none⟩)] 109) (.cells #[.int .i64 0, .int .i64 0, .int .i64 0, .int .i64 0, .string ⟨#[]⟩, .string ⟨#[]⟩, .string ⟨#[]⟩, .int .i64 0, .int .i64 0, .slice none 0 0] 26)
  have B0 : Below w.heap.size w ((w.alloc (.cells #[.pointer (some ⟨rb, 0, none⟩)] 109)).alloc (.cells #[.int .i64 0, .int .i64 0, .int .i64 0, .int .i64 0, .string ⟨#[]⟩, .string ⟨#[]⟩, .string ⟨#[]⟩, .int .i64 0, .int .i64 0, .slice none 0 0] 26)) := ((Below.refl _ _).alloc (Nat.le_refl _) _).alloc (by simp) _
  have H0 := hid (h.below B0)
  have HB0 := hid B0
  have HRes : Hid (ResX ((w.alloc (.cells #[.pointer (some ⟨rb, 0, none⟩)] 109)).alloc (.cells #[.int .i64 0, .int .i64 0, .int .i64 0, .int .i64 0, .string ⟨#[]⟩, .string ⟨#[]⟩, .string ⟨#[]⟩, .int .i64 0, .int .i64 0, .slice none 0 0] 26)) (w.heap.size + 1)) := e2
  have x0 : ((w.alloc (.cells #[.pointer (some ⟨rb, 0, none⟩)] 109)).alloc (.cells #[.int .i64 0, .int .i64 0, .int .i64 0, .int .i64 0, .string ⟨#[]⟩, .string ⟨#[]⟩, .string ⟨#[]⟩, .int .i64 0, .int .i64 0, .slice none 0 0] 26)).cell? ⟨w.heap.size, 0, none⟩ = some (.pointer (some ⟨rb, 0, none⟩)) := by rw [Lib.cell_of_heap e1]; rfl
  have HX0 := hid x0
  have HSt := hid (stands_any 5 [40] H0.out (by decide))
  rw [hst] at HSt
  clear e1 e2 B0 h hst
  cases hpv : prev with
  | none =>
    obtain rfl := hnone hpv
    show Calls _ _ _ _ (RdE _ _ _ _ _ _ (.error (l, 21)) _)
    clear hpv hnone hprev
    go_enter Tryz.func92, Tryz.ntmps92
    go_upto_region 1 with fail
    generalize hWW : World.alloc _ (.cells #[.int .i64 0, .int .i64 0, .int .i64 0, .int .i64 0, .string ⟨#[]⟩, .string ⟨#[]⟩, .string ⟨#[]⟩, .int .i64 0, .int .i64 0, .slice none 0 0] 26) = W at *
    clear hWW
    go_upto_region 3 with (first
      | (go_at_call 134; go_loud (with_reducible refine HSt.out.mono ?_); rintro e1 w1 ⟨rfl, b1⟩; have B1 := hid b1; have x1 := lxbelow_cell b1 HX0.out; clear b1)
      | fail)
    have hs1 := B1.out.size
    have A3 := albl w1 (.cells #[.int .i64 0, .int .i64 0, .int .i64 0, .int .i64 0, .string ⟨#[]⟩, .string ⟨#[]⟩, .string ⟨#[]⟩, .int .i64 0, .int .i64 0, .slice none 0 0] 26)
    have HX3 := hid (show BX (w1.alloc (.cells #[.int .i64 0, .int .i64 0, .int .i64 0, .int .i64 0, .string ⟨#[]⟩, .string ⟨#[]⟩, .string ⟨#[]⟩, .int .i64 0, .int .i64 0, .slice none 0 0] 26)) w1.heap.size ⟨0, 0, v0, [], [], []⟩ none 0 from heap_alloc_new w1 _)
    have HR3 := hid ((H0.out.below B1.out).below A3)
    have C3 := hid (chg_trans (chg_below (rb := rb) HB0.out) (chg_trans (chg_below B1.out) (chg_below A3)))
    have HRes3 := hid (HRes.out.chg (chg_trans (chg_below (rb := rb) B1.out) (chg_below A3)) (show ¬ (w.heap.size + 1 = rb) by omega))
    have x3 := lxbelow_cell A3 x1
    have HXr := hid x3
    have hs3 : (w1.alloc (.cells #[.int .i64 0, .int .i64 0, .int .i64 0, .int .i64 0, .string ⟨#[]⟩, .string ⟨#[]⟩, .string ⟨#[]⟩, .int .i64 0, .int .i64 0, .slice none 0 0] 26)).heap.size = w1.heap.size + 1 := by simp
    clear A3 x1
    generalize hW3 : World.alloc w1 _ = W3 at *
    clear hW3
    have HBr := hid (fun v => brackets_no v HR3.out)
    go_wp2_with (first
      | (go_at_call 135; go_loud (with_reducible refine (HBr.out _).mono ?_); rintro e5 w5 ⟨b5, bb, rfl, f5⟩)
      | fail)
    exact ⟨rfl, chg_trans C3.out (chg_below b5), bb, rfl, f5⟩
  | some g =>
    obtain ⟨d', rfl, hG⟩ := hprev g hpv
    rw [brkP_some]
    clear hpv hnone hprev
    obtain ⟨R, HRr⟩ : ∃ R, Hid (brkE (g l.tail) = R) := ⟨_, rfl⟩
    show Calls _ _ _ _ (RdE _ _ _ _ _ _ (brkE (g l.tail)) _)
    rw [HRr.out]
    cases R with
    | error x =>
      go_enter Tryz.func92, Tryz.ntmps92
      go_upto_region 1 with fail
      generalize hWW : World.alloc _ (.cells #[.int .i64 0, .int .i64 0, .int .i64 0, .int .i64 0, .string ⟨#[]⟩, .string ⟨#[]⟩, .string ⟨#[]⟩, .int .i64 0, .int .i64 0, .slice none 0 0] 26) = W at *
      clear hWW
      go_upto_region 3 with (first
        | (go_at_call 134; go_loud (with_reducible refine HSt.out.mono ?_); rintro e1 w1 ⟨rfl, b1⟩; have B1 := hid b1; have x1 := lxbelow_cell b1 HX0.out; clear b1)
        | fail)
      have hs1 := B1.out.size
      have A3 := albl w1 (.cells #[.int .i64 0, .int .i64 0, .int .i64 0, .int .i64 0, .string ⟨#[]⟩, .string ⟨#[]⟩, .string ⟨#[]⟩, .int .i64 0, .int .i64 0, .slice none 0 0] 26)
      have HX3 := hid (show BX (w1.alloc (.cells #[.int .i64 0, .int .i64 0, .int .i64 0, .int .i64 0, .string ⟨#[]⟩, .string ⟨#[]⟩, .string ⟨#[]⟩, .int .i64 0, .int .i64 0, .slice none 0 0] 26)) w1.heap.size ⟨0, 0, v0, [], [], []⟩ none 0 from heap_alloc_new w1 _)
      have HR3 := hid ((H0.out.below B1.out).below A3)
      have C3 := hid (chg_trans (chg_below (rb := rb) HB0.out) (chg_trans (chg_below B1.out) (chg_below A3)))
      have HRes3 := hid (HRes.out.chg (chg_trans (chg_below (rb := rb) B1.out) (chg_below A3)) (show ¬ (w.heap.size + 1 = rb) by omega))
      have x3 := lxbelow_cell A3 x1
      have HXr := hid x3
      have hs3 : (w1.alloc (.cells #[.int .i64 0, .int .i64 0, .int .i64 0, .int .i64 0, .string ⟨#[]⟩, .string ⟨#[]⟩, .string ⟨#[]⟩, .int .i64 0, .int .i64 0, .slice none 0 0] 26)).heap.size = w1.heap.size + 1 := by simp
      clear A3 x1
      generalize hW3 : World.alloc w1 _ = W3 at *
      clear hW3
      have HBr := hid (brackets_yes (eb := w1.heap.size) (cs := #[.pointer (some ⟨w.heap.size, 0, none⟩), .pointer (some ⟨w1.heap.size, 0, none⟩)]) (g l.tail) (fun w' a => QB w1.heap.size W3.heap.size w' a) HR3.out hl Tryz.call136
        (fun w' C r => item1_any r HH.out (by omega) (C.cell HXr.out (show ¬ (w.heap.size = rb) by omega)) (HX3.out.chg C (show ¬ (w1.heap.size = rb) by omega)) C.size hG)
        (fun a w1 w2 C q => q.chg C (by omega) (by omega)))
      rw [HRr.out] at HBr
      unfold RdG QB at HBr
      simp only [] at HBr
      go_wp2_with (first
        | (go_at_call 135; go_loud (with_reducible refine HBr.out.mono ?_); rintro e5 w5 ⟨c5, b5, rfl, f5⟩)
        | fail)
      exact ⟨rfl, fr_new C3.out (by omega) c5, b5, rfl, f5⟩
    | ok y =>
      obtain ⟨e, l2⟩ := y
      go_enter Tryz.func92, Tryz.ntmps92
      go_upto_region 1 with fail
      generalize hWW : World.alloc _ (.cells #[.int .i64 0, .int .i64 0, .int .i64 0, .int .i64 0, .string ⟨#[]⟩, .string ⟨#[]⟩, .string ⟨#[]⟩, .int .i64 0, .int .i64 0, .slice none 0 0] 26) = W at *
      clear hWW
      go_upto_region 3 with (first
        | (go_at_call 134; go_loud (with_reducible refine HSt.out.mono ?_); rintro e1 w1 ⟨rfl, b1⟩; have B1 := hid b1; have x1 := lxbelow_cell b1 HX0.out; clear b1)
        | fail)
      have hs1 := B1.out.size
      have A3 := albl w1 (.cells #[.int .i64 0, .int .i64 0, .int .i64 0, .int .i64 0, .string ⟨#[]⟩, .string ⟨#[]⟩, .string ⟨#[]⟩, .int .i64 0, .int .i64 0, .slice none 0 0] 26)
      have HX3 := hid (show BX (w1.alloc (.cells #[.int .i64 0, .int .i64 0, .int .i64 0, .int .i64 0, .string ⟨#[]⟩, .string ⟨#[]⟩, .string ⟨#[]⟩, .int .i64 0, .int .i64 0, .slice none 0 0] 26)) w1.heap.size ⟨0, 0, v0, [], [], []⟩ none 0 from heap_alloc_new w1 _)
      have HR3 := hid ((H0.out.below B1.out).below A3)
      have C3 := hid (chg_trans (chg_below (rb := rb) HB0.out) (chg_trans (chg_below B1.out) (chg_below A3)))
      have HRes3 := hid (HRes.out.chg (chg_trans (chg_below (rb := rb) B1.out) (chg_below A3)) (show ¬ (w.heap.size + 1 = rb) by omega))
      have x3 := lxbelow_cell A3 x1
      have HXr := hid x3
      have hs3 : (w1.alloc (.cells #[.int .i64 0, .int .i64 0, .int .i64 0, .int .i64 0, .string ⟨#[]⟩, .string ⟨#[]⟩, .string ⟨#[]⟩, .int .i64 0, .int .i64 0, .slice none 0 0] 26)).heap.size = w1.heap.size + 1 := by simp
      clear A3 x1
      generalize hW3 : World.alloc w1 _ = W3 at *
      clear hW3
      have HBr := hid (brackets_yes (eb := w1.heap.size) (cs := #[.pointer (some ⟨w.heap.size, 0, none⟩), .pointer (some ⟨w1.heap.size, 0, none⟩)]) (g l.tail) (fun w' a => QB w1.heap.size W3.heap.size w' a) HR3.out hl Tryz.call136
        (fun w' C r => item1_any r HH.out (by omega) (C.cell HXr.out (show ¬ (w.heap.size = rb) by omega)) (HX3.out.chg C (show ¬ (w1.heap.size = rb) by omega)) C.size hG)
        (fun a w1 w2 C q => q.chg C (by omega) (by omega)))
      rw [HRr.out] at HBr
      unfold RdG QB at HBr
      simp only [] at HBr
      go_wp2_with (first
        | (go_at_call 135; go_loud (with_reducible refine HBr.out.mono ?_); rintro e5 w5 ⟨c5, v5, rfl, ⟨rfl, pe, ce, hbx, k5, E5, hcp5⟩, r5⟩; have C5 := hid c5; have HE5 := hid E5; have HR5 := hid r5; obtain ⟨y0, y1, y2, y3, y4, y5, y6, y7, y8, y9⟩ := hbx.xc; simp only [Nat.zero_add] at y0 y1 y2 y3 y4 y5 y6 y7 y8 y9; have res5 := HRes3.out.chg c5 (show ¬ (w.heap.size + 1 = rb ∨ w.heap.size + 1 = w1.heap.size) by omega); obtain ⟨z0, z1, z2, z3, z4, z5, z6, z7, z8, z9⟩ := res5.cells; have zf := res5.frozen; clear c5 E5 r5 hbx res5)
        | fail)
      refine bodyPost_ret (by simp [results, Tryz.results92, go_sem, z0, z1, z2, z3, z4, z5, z6, z7, z8, z9]; try rfl) rfl ?_
      exact finX (e := e) HH.out (fr_new C3.out (by omega) C5.out) (by omega) HR5.out (HE5.out.mono (fun j _ q => ⟨by omega, by omega⟩)) hcp5
end Go.Proofs.YtblkhlhhlalbkaaGreatDoor
namespace Go.Proofs.YtblkhlhhlalbkaaGreatDoor
open Go.RowKit Go.Lib Go.Sort
set_option linter.unusedVariables false
set_option maxRecDepth 20000

set_option maxHeartbeats 16000000 in
theorem item_lit {w : World} {rb : Nat} {p : Option Addr} {c : Nat} {xs l : Ts} {d : Nat} (v : Val) (h : RS w rb p c xs l d) (hst : stn 5 [40] l = false) (hv : litT l = some v) :
    Calls Tryz.prog 92 #[.pointer (some ⟨rb, 0, none⟩)] w (RdE (QX w.heap.size) rb p c xs d (.ok (litE v, l.tail)) w) := by
  have hlp : 0 < l.length := by cases l with | nil => cases hv | cons _ _ => simp
  have HH := hid h
  have hlt := h.lt
  have hsz := h.suf.length_le
  have hlen := h.len
  obtain ⟨hs0, e1, e2⟩ := alc2 w (.cells #[.pointer (some ⟨rb, 0, none⟩)] 109) (.cells #[.int .i64 0, .int .i64 0, .int .i64 0, .int .i64 0, .string ⟨#[]⟩, .string ⟨#[]⟩, .string ⟨#[]⟩, .int .i64 0, .int .i64 0, .slice none 0 0] 26)
  have B0 : Below w.heap.size w ((w.alloc (.cells #[.pointer (some ⟨rb, 0, none⟩)] 109)).alloc (.cells #[.int .i64 0, .int .i64 0, .int .i64 0, .int .i64 0, .string ⟨#[]⟩, .string ⟨#[]⟩, .string ⟨#[]⟩, .int .i64 0, .int .i64 0, .slice none 0 0] 26)) := ((Below.refl _ _).alloc (Nat.le_refl _) _).alloc (by simp) _
  have H0 := hid (h.below B0)
  have HB0 := hid B0
  have HRes : Hid (ResX ((w.alloc (.cells #[.pointer (some ⟨rb, 0, none⟩)] 109)).alloc (.cells #[.int .i64 0, .int .i64 0, .int .i64 0, .int .i64 0, .string ⟨#[]⟩, .string ⟨#[]⟩, .string ⟨#[]⟩, .int .i64 0, .int .i64 0, .slice none 0 0] 26)) (w.heap.size + 1)) := e2
  have x0 : ((w.alloc (.cells #[.pointer (some ⟨rb, 0, none⟩)] 109)).alloc (.cells #[.int .i64 0, .int .i64 0, .int .i64 0, .int .i64 0, .string ⟨#[]⟩, .string ⟨#[]⟩, .string ⟨#[]⟩, .int .i64 0, .int .i64 0, .slice none 0 0] 26)).cell? ⟨w.heap.size, 0, none⟩ = some (.pointer (some ⟨rb, 0, none⟩)) := by rw [Lib.cell_of_heap e1]; rfl
  have HX0 := hid x0
  have HSt := hid (stands_any 5 [40] H0.out (by decide))
  rw [hst] at HSt
  have HTk := hid (fun w' (r : RS w' rb p c xs l d) => token0 r)
  have HLt := hid (fun w => literal_tok l w)
  clear e1 e2 B0 h hst
  rw [hv] at HLt
  unfold litO at HLt
  simp only [Option.isSome_some] at HLt
  have hw : IntKind.i64.wrap ((xs.length : Int) - (l.length : Int) + 1) = (xs.length : Int) - (l.length : Int) + 1 := by rw [IntKind.wrap_i64]; omega
  have HX : Hid ((xs.length : Int) - (l.length : Int) + 1 = (xs.length : Int) - (l.tail.length : Int)) := by show _ = _; rw [List.length_tail]; omega
  clear hv
  go_enter Tryz.func92, Tryz.ntmps92
  go_upto_region 1 with fail
  generalize hWW : World.alloc _ (.cells #[.int .i64 0, .int .i64 0, .int .i64 0, .int .i64 0, .string ⟨#[]⟩, .string ⟨#[]⟩, .string ⟨#[]⟩, .int .i64 0, .int .i64 0, .slice none 0 0] 26) = W at *
  clear hWW
  go_upto_region 7 with (first
    | (go_at_call 134; go_loud (with_reducible refine HSt.out.mono ?_); rintro e1 w1 ⟨rfl, b1⟩; have B1 := hid b1; have x1 := lxbelow_cell b1 HX0.out; clear b1)
    | (go_at_call 138; go_loud (with_reducible refine (HTk.out _ (H0.out.below B1.out)).mono ?_); rintro e2 w2 ⟨rfl, b2⟩; have B2 := hid (B1.out.trans (b2.mono B1.out.size)); clear b2)
    | (go_at_call 137; go_loud (with_reducible refine (HLt.out _).mono ?_); rintro e3 w3 ⟨rfl, b3⟩; have B3 := hid (B2.out.trans (b3.mono B2.out.size)); clear b3)
    | fail)
  have hs3 := B3.out.size
  have A4 := albl w3 (.cells #[.int .i64 v.k, .int .i64 v.n, .string v.s] 23)
  have e4 := heap_alloc_new w3 (.cells #[.int .i64 v.k, .int .i64 v.n, .string v.s] 23)
  have B4 := hid (B3.out.trans (A4.mono hs3))
  have hs4 : (w3.alloc (.cells #[.int .i64 v.k, .int .i64 v.n, .string v.s] 23)).heap.size = w3.heap.size + 1 := by simp
  have x4 := lxbelow_cell B4.out HX0.out
  have HR4 := hid (H0.out.below B4.out)
  have HV4 := hid e4
  clear A4 e4 x0 x1
  generalize hW4 : World.alloc w3 _ = W4 at *
  clear hW4
  have c1 := HR4.out.c1
  have f1 := HR4.out.f 1
  generalize hJ : (xs.length : Int) - (l.length : Int) = J at c1 hw HX
  clear hJ
  go_upto_region 8 with fail
  have K5 : Chg (· = rb) W4 (W4.setCell ⟨rb, 1, none⟩ (.int .i64 (J + 1))) := chg_set (Chg.refl _ _) _
  have HR5 := hid (HR4.out.mv (suf_tail.trans HH.out.suf) (J + 1) HX.out)
  have HV5 := (K5.block _ (by omega) (show ¬ (w3.heap.size = rb) by omega)).trans HV4.out
  have HRes5 := hid ((HRes.out.chg (chg_below (rb := rb) B4.out) (show ¬ (w.heap.size + 1 = rb) by omega)).chg K5 (show ¬ (w.heap.size + 1 = rb) by omega))
  have HC5 := hid (chg_trans (chg_trans (chg_below (rb := rb) HB0.out) (chg_below B4.out)) K5)
  have v0 : (W4.setCell ⟨rb, 1, none⟩ (.int .i64 (J + 1))).cell? ⟨w3.heap.size, 0, none⟩ = some (.int .i64 v.k) := by rw [Lib.cell_of_heap HV5]; rfl
  have v1 : (W4.setCell ⟨rb, 1, none⟩ (.int .i64 (J + 1))).cell? ⟨w3.heap.size, 1, none⟩ = some (.int .i64 v.n) := by rw [Lib.cell_of_heap HV5]; rfl
  have v2 : (W4.setCell ⟨rb, 1, none⟩ (.int .i64 (J + 1))).cell? ⟨w3.heap.size, 2, none⟩ = some (.string v.s) := by rw [Lib.cell_of_heap HV5]; rfl
  clear c1 f1 x4 HV5 K5
  generalize hW5 : World.setCell W4 _ _ = W5 at *
  clear hW5
  obtain ⟨z0, z1, z2, z3, z4, z5, z6, z7, z8, z9⟩ := HRes5.out.cells
  have zf := HRes5.out.frozen
  go_wp2_with fail
  refine bodyPost_ret (by simp [results, Tryz.results92, go_sem, z0, z1, z2, z3, z4, z5, z6, z7, z8, z9]; try rfl) rfl ?_
  exact finX (e := litE v) (k := 0) HH.out HC5.out (by omega) HR5.out rfl (Nat.zero_le _)
set_option maxHeartbeats 16000000 in
theorem item_col {w : World} {rb : Nat} {p : Option Addr} {c : Nat} {xs l : Ts} {d : Nat} (h : RS w rb p c xs l d) (hst : stn 5 [40] l = false) (hv : litT l = none) (hc : calT l = none) :
    Calls Tryz.prog 92 #[.pointer (some ⟨rb, 0, none⟩)] w (RdE (QX w.heap.size) rb p c xs d (colP l) w) := by
  have HH := hid h
  have hlt := h.lt
  have hsz := h.suf.length_le
  have hlen := h.len
  obtain ⟨hs0, e1, e2⟩ := alc2 w (.cells #[.pointer (some ⟨rb, 0, none⟩)] 109) (.cells #[.int .i64 0, .int .i64 0, .int .i64 0, .int .i64 0, .string ⟨#[]⟩, .string ⟨#[]⟩, .string ⟨#[]⟩, .int .i64 0, .int .i64 0, .slice none 0 0] 26)
  have B0 : Below w.heap.size w ((w.alloc (.cells #[.pointer (some ⟨rb, 0, none⟩)] 109)).alloc (.cells #[.int .i64 0, .int .i64 0, .int .i64 0, .int .i64 0, .string ⟨#[]⟩, .string ⟨#[]⟩, .string ⟨#[]⟩, .int .i64 0, .int .i64 0, .slice none 0 0] 26)) := ((Below.refl _ _).alloc (Nat.le_refl _) _).alloc (by simp) _
  have H0 := hid (h.below B0)
  have HB0 := hid B0
  have HRes : Hid (ResX ((w.alloc (.cells #[.pointer (some ⟨rb, 0, none⟩)] 109)).alloc (.cells #[.int .i64 0, .int .i64 0, .int .i64 0, .int .i64 0, .string ⟨#[]⟩, .string ⟨#[]⟩, .string ⟨#[]⟩, .int .i64 0, .int .i64 0, .slice none 0 0] 26)) (w.heap.size + 1)) := e2
  have x0 : ((w.alloc (.cells #[.pointer (some ⟨rb, 0, none⟩)] 109)).alloc (.cells #[.int .i64 0, .int .i64 0, .int .i64 0, .int .i64 0, .string ⟨#[]⟩, .string ⟨#[]⟩, .string ⟨#[]⟩, .int .i64 0, .int .i64 0, .slice none 0 0] 26)).cell? ⟨w.heap.size, 0, none⟩ = some (.pointer (some ⟨rb, 0, none⟩)) := by rw [Lib.cell_of_heap e1]; rfl
  have HX0 := hid x0
  have HSt := hid (stands_any 5 [40] H0.out (by decide))
  rw [hst] at HSt
  have HTk := hid (fun w' (r : RS w' rb p c xs l d) => token0 r)
  have HLt := hid (fun w => literal_tok l w)
  clear e1 e2 B0 h hst
  have HCl := hid (fun w' (r : RS w' rb p c xs l d) => call_any r)
  rw [hv] at HLt
  rw [hc] at HCl
  unfold litO at HLt
  unfold calO at HCl
  simp only [Option.isSome_none] at HLt HCl
  have HCo := hid (fun w' (r : RS w' rb p c xs l d) => column_any r)
  unfold RdE QX QF at HCo
  clear hv hc
  cases hp : colP l with
  | error x =>
    rw [hp] at HCo
    simp only [] at HCo
    go_enter Tryz.func92, Tryz.ntmps92
    go_upto_region 1 with fail
    generalize hWW : World.alloc _ (.cells #[.int .i64 0, .int .i64 0, .int .i64 0, .int .i64 0, .string ⟨#[]⟩, .string ⟨#[]⟩, .string ⟨#[]⟩, .int .i64 0, .int .i64 0, .slice none 0 0] 26) = W at *
    clear hWW
    go_upto_region 9 with (first
      | (go_at_call 134; go_loud (with_reducible refine HSt.out.mono ?_); rintro e1 w1 ⟨rfl, b1⟩; have B1 := hid b1; have x1 := lxbelow_cell b1 HX0.out; clear b1)
      | (go_at_call 138; go_loud (with_reducible refine (HTk.out _ (H0.out.below B1.out)).mono ?_); rintro e2 w2 ⟨rfl, b2⟩; have B2 := hid (B1.out.trans (b2.mono B1.out.size)); clear b2)
      | (go_at_call 137; go_loud (with_reducible refine (HLt.out _).mono ?_); rintro e3 w3 ⟨rfl, b3⟩; have B3 := hid (B2.out.trans (b3.mono B2.out.size)); clear b3)
      | fail)
    have hs3 := B3.out.size
    have BV := hid (B3.out.trans ((albl w3 (.cells #[.int .i64 0, .int .i64 0, .string ⟨#[]⟩] 23)).mono hs3))
    have hs4 : (w3.alloc (.cells #[.int .i64 0, .int .i64 0, .string ⟨#[]⟩] 23)).heap.size = w3.heap.size + 1 := by simp
    have x4 := lxbelow_cell BV.out HX0.out
    clear x0 x1
    generalize hW4 : World.alloc w3 _ = W4 at *
    clear hW4
    go_upto_region 13 with (first
      | (go_at_call 139; go_loud (with_reducible refine (HCl.out _ (H0.out.below BV.out)).mono ?_); rintro e5 w5 ⟨rfl, b5⟩; have B5 := hid (BV.out.trans (b5.mono BV.out.size)); clear b5)
      | fail)
    have hs5 := B5.out.size
    have A6 := albl w5 (.cells #[.int .i64 0, .int .i64 0, .string ⟨#[]⟩, .int .i64 0] 161)
    have B6 := hid (B5.out.trans (A6.mono hs5))
    have e6 := heap_alloc_new w5 (.cells #[.int .i64 0, .int .i64 0, .string ⟨#[]⟩, .int .i64 0] 161)
    have hs6 : (w5.alloc (.cells #[.int .i64 0, .int .i64 0, .string ⟨#[]⟩, .int .i64 0] 161)).heap.size = w5.heap.size + 1 := by simp
    have x6 := lxbelow_cell B6.out HX0.out
    have HR6 := hid (H0.out.below B6.out)
    have HRes6 := hid (HRes.out.chg (chg_below (rb := rb) B6.out) (show ¬ (w.heap.size + 1 = rb) by omega))
    have HC6 := hid (chg_trans (chg_below (rb := rb) HB0.out) (chg_below B6.out))
    clear A6 x4
    generalize hW6 : World.alloc w5 _ = W6 at *
    clear hW6
    go_wp2_with (first
      | (go_at_call 141; go_loud (with_reducible refine (HCo.out _ HR6.out).mono ?_); rintro e9 w9 ⟨c9, b9, rfl, f9⟩)
      | fail)
    exact ⟨rfl, chg_trans HC6.out c9, b9, rfl, f9⟩
  | ok y =>
    obtain ⟨e, l1⟩ := y
    rw [hp] at HCo
    simp only [] at HCo
    go_enter Tryz.func92, Tryz.ntmps92
    go_upto_region 1 with fail
    generalize hWW : World.alloc _ (.cells #[.int .i64 0, .int .i64 0, .int .i64 0, .int .i64 0, .string ⟨#[]⟩, .string ⟨#[]⟩, .string ⟨#[]⟩, .int .i64 0, .int .i64 0, .slice none 0 0] 26) = W at *
    clear hWW
    go_upto_region 9 with (first
      | (go_at_call 134; go_loud (with_reducible refine HSt.out.mono ?_); rintro e1 w1 ⟨rfl, b1⟩; have B1 := hid b1; have x1 := lxbelow_cell b1 HX0.out; clear b1)
      | (go_at_call 138; go_loud (with_reducible refine (HTk.out _ (H0.out.below B1.out)).mono ?_); rintro e2 w2 ⟨rfl, b2⟩; have B2 := hid (B1.out.trans (b2.mono B1.out.size)); clear b2)
      | (go_at_call 137; go_loud (with_reducible refine (HLt.out _).mono ?_); rintro e3 w3 ⟨rfl, b3⟩; have B3 := hid (B2.out.trans (b3.mono B2.out.size)); clear b3)
      | fail)
    have hs3 := B3.out.size
    have BV := hid (B3.out.trans ((albl w3 (.cells #[.int .i64 0, .int .i64 0, .string ⟨#[]⟩] 23)).mono hs3))
    have hs4 : (w3.alloc (.cells #[.int .i64 0, .int .i64 0, .string ⟨#[]⟩] 23)).heap.size = w3.heap.size + 1 := by simp
    have x4 := lxbelow_cell BV.out HX0.out
    clear x0 x1
    generalize hW4 : World.alloc w3 _ = W4 at *
    clear hW4
    go_upto_region 13 with (first
      | (go_at_call 139; go_loud (with_reducible refine (HCl.out _ (H0.out.below BV.out)).mono ?_); rintro e5 w5 ⟨rfl, b5⟩; have B5 := hid (BV.out.trans (b5.mono BV.out.size)); clear b5)
      | fail)
    have hs5 := B5.out.size
    have A6 := albl w5 (.cells #[.int .i64 0, .int .i64 0, .string ⟨#[]⟩, .int .i64 0] 161)
    have B6 := hid (B5.out.trans (A6.mono hs5))
    have e6 := heap_alloc_new w5 (.cells #[.int .i64 0, .int .i64 0, .string ⟨#[]⟩, .int .i64 0] 161)
    have hs6 : (w5.alloc (.cells #[.int .i64 0, .int .i64 0, .string ⟨#[]⟩, .int .i64 0] 161)).heap.size = w5.heap.size + 1 := by simp
    have x6 := lxbelow_cell B6.out HX0.out
    have HR6 := hid (H0.out.below B6.out)
    have HRes6 := hid (HRes.out.chg (chg_below (rb := rb) B6.out) (show ¬ (w.heap.size + 1 = rb) by omega))
    have HC6 := hid (chg_trans (chg_below (rb := rb) HB0.out) (chg_below B6.out))
    clear A6 x4
    generalize hW6 : World.alloc w5 _ = W6 at *
    clear hW6
    go_wp2_with (first
      | (go_at_call 141; go_loud (with_reducible refine (HCo.out _ HR6.out).mono ?_); rintro e9 w9 ⟨c9, v9, rfl, ⟨p9, q9, rfl, k9, E9, hcp9⟩, r9⟩; have C9 := hid c9; have HE9 := hid E9; have HR9 := hid r9; have res9 := HRes6.out.chg c9 (show ¬ (w.heap.size + 1 = rb) by omega); obtain ⟨z0, z1, z2, z3, z4, z5, z6, z7, z8, z9⟩ := res9.cells; have zf := res9.frozen; clear c9 E9 r9 res9)
      | fail)
    refine bodyPost_ret (by simp [results, Tryz.results92, go_sem, z0, z1, z2, z3, z4, z5, z6, z7, z8, z9]; try rfl) rfl ?_
    exact finX (e := e) HH.out (chg_trans HC6.out C9.out) (by omega) HR9.out (HE9.out.mono (fun j _ q => ⟨by omega, by omega⟩)) hcp9
/-- A call. -/
def calP (prev : Option (Ts → Rd Ex)) (o : Cal) (l : Ts) : Rd Ex := match brkP prev (fun g => inP g o) l with
  | .error x => .error x
  | .ok y => .ok (mkE o.kind o.op y.1, y.2)
set_option maxHeartbeats 16000000 in
theorem item_call {w : World} {rb : Nat} {p : Option Addr} {c : Nat} {xs l : Ts} {d : Nat} {prev : Option (Ts → Rd Ex)} (o : Cal) (h : RS w rb p c xs l d) (hst : stn 5 [40] l = false) (hv : litT l = none) (hc : calT l = some o) (hprev : ∀ g, prev = some g → ∃ d', d = d' + 1 ∧ LineOk rb p c xs d' 142 #[.pointer (some ⟨rb + 25, 0, none⟩), .pointer (some ⟨rb + 23, 0, none⟩), .pointer (some ⟨rb + 24, 0, none⟩)] g) (hnone : prev = none → d = 0) :
    Calls Tryz.prog 92 #[.pointer (some ⟨rb, 0, none⟩)] w (RdE (QX w.heap.size) rb p c xs d (calP prev o l.tail) w) := by
  have ho : o ∈ cals ∧ l.tail ≠ [] ∧ 0 < l.length := by
    match l, hc with
    | x :: y :: r, hc =>
      have e : calT (x :: y :: r) = if x.1.k = 1 ∧ y.1.k = 5 ∧ y.1.s = [40] then calN x.1.s else none := rfl
      by_cases hq : x.1.k = 1 ∧ y.1.k = 5 ∧ y.1.s = [40]
      · rw [e, if_pos hq] at hc
        exact ⟨List.mem_of_find?_eq_some hc, List.cons_ne_nil _ _, by simp⟩
      · rw [e, if_neg hq] at hc
        cases hc
  have hlp := ho.2.2
  have HH := hid h
  have hlt := h.lt
  have hsz := h.suf.length_le
  have hlen := h.len
  obtain ⟨hs0, e1, e2⟩ := alc2 w (.cells #[.pointer (some ⟨rb, 0, none⟩)] 109) (.cells #[.int .i64 0, .int .i64 0, .int .i64 0, .int .i64 0, .string ⟨#[]⟩, .string ⟨#[]⟩, .string ⟨#[]⟩, .int .i64 0, .int .i64 0, .slice none 0 0] 26)
  have B0 : Below w.heap.size w ((w.alloc (.cells #[.pointer (some ⟨rb, 0, none⟩)] 109)).alloc (.cells #[.int .i64 0, .int .i64 0, .int .i64 0, .int .i64 0, .string ⟨#[]⟩, .string ⟨#[]⟩, .string ⟨#[]⟩, .int .i64 0, .int .i64 0, .slice none 0 0] 26)) := ((Below.refl _ _).alloc (Nat.le_refl _) _).alloc (by simp) _
  have H0 := hid (h.below B0)
  have HB0 := hid B0
  have HRes : Hid (ResX ((w.alloc (.cells #[.pointer (some ⟨rb, 0, none⟩)] 109)).alloc (.cells #[.int .i64 0, .int .i64 0, .int .i64 0, .int .i64 0, .string ⟨#[]⟩, .string ⟨#[]⟩, .string ⟨#[]⟩, .int .i64 0, .int .i64 0, .slice none 0 0] 26)) (w.heap.size + 1)) := e2
  have x0 : ((w.alloc (.cells #[.pointer (some ⟨rb, 0, none⟩)] 109)).alloc (.cells #[.int .i64 0, .int .i64 0, .int .i64 0, .int .i64 0, .string ⟨#[]⟩, .string ⟨#[]⟩, .string ⟨#[]⟩, .int .i64 0, .int .i64 0, .slice none 0 0] 26)).cell? ⟨w.heap.size, 0, none⟩ = some (.pointer (some ⟨rb, 0, none⟩)) := by rw [Lib.cell_of_heap e1]; rfl
  have HX0 := hid x0
  have HSt := hid (stands_any 5 [40] H0.out (by decide))
  rw [hst] at HSt
  have HTk := hid (fun w' (r : RS w' rb p c xs l d) => token0 r)
  have HLt := hid (fun w => literal_tok l w)
  clear e1 e2 B0 h hst
  have HCl := hid (fun w' (r : RS w' rb p c xs l d) => call_any r)
  rw [hv] at HLt
  rw [hc] at HCl
  unfold litO at HLt
  unfold calO at HCl
  simp only [Option.isSome_none, Option.isSome_some] at HLt HCl
  have HCd := hid (show ∀ w' (r : RS w' rb p c xs l.tail d), Calls Tryz.prog 140 #[.pointer (some ⟨rb, 0, none⟩), .agg #[.int .i64 o.kind, .int .i64 o.op, .string ⟨o.name.toArray⟩, .int .i64 (o.cnt : Int)]] w' (RdE (QX w'.heap.size) rb p c xs d (calP prev o l.tail) w') from fun w' r => called_any o ho.1 r ho.2.1 hprev hnone)
  have hw : IntKind.i64.wrap ((xs.length : Int) - (l.length : Int) + 1) = (xs.length : Int) - (l.length : Int) + 1 := by rw [IntKind.wrap_i64]; omega
  have HX : Hid ((xs.length : Int) - (l.length : Int) + 1 = (xs.length : Int) - (l.tail.length : Int)) := by show _ = _; rw [List.length_tail]; omega
  clear hv hc ho hprev hnone
  generalize calP prev o l.tail = R at *
  unfold RdE QX QF at HCd
  cases R with
  | error x =>
    simp only [] at HCd
    go_enter Tryz.func92, Tryz.ntmps92
    go_upto_region 1 with fail
    generalize hWW : World.alloc _ (.cells #[.int .i64 0, .int .i64 0, .int .i64 0, .int .i64 0, .string ⟨#[]⟩, .string ⟨#[]⟩, .string ⟨#[]⟩, .int .i64 0, .int .i64 0, .slice none 0 0] 26) = W at *
    clear hWW
    go_upto_region 9 with (first
      | (go_at_call 134; go_loud (with_reducible refine HSt.out.mono ?_); rintro e1 w1 ⟨rfl, b1⟩; have B1 := hid b1; have x1 := lxbelow_cell b1 HX0.out; clear b1)
      | (go_at_call 138; go_loud (with_reducible refine (HTk.out _ (H0.out.below B1.out)).mono ?_); rintro e2 w2 ⟨rfl, b2⟩; have B2 := hid (B1.out.trans (b2.mono B1.out.size)); clear b2)
      | (go_at_call 137; go_loud (with_reducible refine (HLt.out _).mono ?_); rintro e3 w3 ⟨rfl, b3⟩; have B3 := hid (B2.out.trans (b3.mono B2.out.size)); clear b3)
      | fail)
    have hs3 := B3.out.size
    have BV := hid (B3.out.trans ((albl w3 (.cells #[.int .i64 0, .int .i64 0, .string ⟨#[]⟩] 23)).mono hs3))
    have hs4 : (w3.alloc (.cells #[.int .i64 0, .int .i64 0, .string ⟨#[]⟩] 23)).heap.size = w3.heap.size + 1 := by simp
    have x4 := lxbelow_cell BV.out HX0.out
    clear x0 x1
    generalize hW4 : World.alloc w3 _ = W4 at *
    clear hW4
    go_upto_region 11 with (first
      | (go_at_call 139; go_loud (with_reducible refine (HCl.out _ (H0.out.below BV.out)).mono ?_); rintro e5 w5 ⟨rfl, b5⟩; have B5 := hid (BV.out.trans (b5.mono BV.out.size)); clear b5)
      | fail)
    have hs5 := B5.out.size
    have A6 := albl w5 (.cells #[.int .i64 o.kind, .int .i64 o.op, .string ⟨o.name.toArray⟩, .int .i64 (o.cnt : Int)] 161)
    have B6 := hid (B5.out.trans (A6.mono hs5))
    have e6 := heap_alloc_new w5 (.cells #[.int .i64 o.kind, .int .i64 o.op, .string ⟨o.name.toArray⟩, .int .i64 (o.cnt : Int)] 161)
    have hs6 : (w5.alloc (.cells #[.int .i64 o.kind, .int .i64 o.op, .string ⟨o.name.toArray⟩, .int .i64 (o.cnt : Int)] 161)).heap.size = w5.heap.size + 1 := by simp
    have x6 := lxbelow_cell B6.out HX0.out
    have HR6 := hid (H0.out.below B6.out)
    have HRes6 := hid (HRes.out.chg (chg_below (rb := rb) B6.out) (show ¬ (w.heap.size + 1 = rb) by omega))
    have HC6 := hid (chg_trans (chg_below (rb := rb) HB0.out) (chg_below B6.out))
    clear A6 x4
    generalize hW6 : World.alloc w5 _ = W6 at *
    clear hW6
    have c1 := HR6.out.c1
    have f1 := HR6.out.f 1
    generalize hJ : (xs.length : Int) - (l.length : Int) = J at c1 hw HX
    clear hJ
    go_upto_region 12 with fail
    have K7 : Chg (· = rb) W6 (W6.setCell ⟨rb, 1, none⟩ (.int .i64 (J + 1))) := chg_set (Chg.refl _ _) _
    have HR7 := hid (HR6.out.mv (suf_tail.trans HH.out.suf) (J + 1) HX.out)
    have e7 := (K7.block _ (by omega) (show ¬ (w5.heap.size = rb) by omega)).trans e6
    have HRes7 := hid (HRes6.out.chg K7 (show ¬ (w.heap.size + 1 = rb) by omega))
    have HC7 := hid (chg_trans HC6.out K7)
    have hs7 := K7.size
    have x7 := K7.cell x6 (show ¬ (w.heap.size = rb) by omega)
    have v0 : (W6.setCell ⟨rb, 1, none⟩ (.int .i64 (J + 1))).cell? ⟨w5.heap.size, 0, none⟩ = some (.int .i64 o.kind) := by rw [Lib.cell_of_heap e7]; rfl
    have v1 : (W6.setCell ⟨rb, 1, none⟩ (.int .i64 (J + 1))).cell? ⟨w5.heap.size, 1, none⟩ = some (.int .i64 o.op) := by rw [Lib.cell_of_heap e7]; rfl
    have v2 : (W6.setCell ⟨rb, 1, none⟩ (.int .i64 (J + 1))).cell? ⟨w5.heap.size, 2, none⟩ = some (.string ⟨o.name.toArray⟩) := by rw [Lib.cell_of_heap e7]; rfl
    have v3 : (W6.setCell ⟨rb, 1, none⟩ (.int .i64 (J + 1))).cell? ⟨w5.heap.size, 3, none⟩ = some (.int .i64 (o.cnt : Int)) := by rw [Lib.cell_of_heap e7]; rfl
    clear c1 f1 x6 e6 e7 K7
    generalize hW7 : World.setCell W6 _ _ = W7 at *
    clear hW7
    go_wp2_with (first
      | (go_at_call 140; go_loud (with_reducible refine (HCd.out _ HR7.out).mono ?_); rintro e9 w9 ⟨c9, b9, rfl, f9⟩)
      | fail)
    exact ⟨rfl, chg_trans HC7.out c9, b9, rfl, f9⟩
  | ok y =>
    obtain ⟨e, l1⟩ := y
    simp only [] at HCd
    go_enter Tryz.func92, Tryz.ntmps92
    go_upto_region 1 with fail
    generalize hWW : World.alloc _ (.cells #[.int .i64 0, .int .i64 0, .int .i64 0, .int .i64 0, .string ⟨#[]⟩, .string ⟨#[]⟩, .string ⟨#[]⟩, .int .i64 0, .int .i64 0, .slice none 0 0] 26) = W at *
    clear hWW
    go_upto_region 9 with (first
      | (go_at_call 134; go_loud (with_reducible refine HSt.out.mono ?_); rintro e1 w1 ⟨rfl, b1⟩; have B1 := hid b1; have x1 := lxbelow_cell b1 HX0.out; clear b1)
      | (go_at_call 138; go_loud (with_reducible refine (HTk.out _ (H0.out.below B1.out)).mono ?_); rintro e2 w2 ⟨rfl, b2⟩; have B2 := hid (B1.out.trans (b2.mono B1.out.size)); clear b2)
      | (go_at_call 137; go_loud (with_reducible refine (HLt.out _).mono ?_); rintro e3 w3 ⟨rfl, b3⟩; have B3 := hid (B2.out.trans (b3.mono B2.out.size)); clear b3)
      | fail)
    have hs3 := B3.out.size
    have BV := hid (B3.out.trans ((albl w3 (.cells #[.int .i64 0, .int .i64 0, .string ⟨#[]⟩] 23)).mono hs3))
    have hs4 : (w3.alloc (.cells #[.int .i64 0, .int .i64 0, .string ⟨#[]⟩] 23)).heap.size = w3.heap.size + 1 := by simp
    have x4 := lxbelow_cell BV.out HX0.out
    clear x0 x1
    generalize hW4 : World.alloc w3 _ = W4 at *
    clear hW4
    go_upto_region 11 with (first
      | (go_at_call 139; go_loud (with_reducible refine (HCl.out _ (H0.out.below BV.out)).mono ?_); rintro e5 w5 ⟨rfl, b5⟩; have B5 := hid (BV.out.trans (b5.mono BV.out.size)); clear b5)
      | fail)
    have hs5 := B5.out.size
    have A6 := albl w5 (.cells #[.int .i64 o.kind, .int .i64 o.op, .string ⟨o.name.toArray⟩, .int .i64 (o.cnt : Int)] 161)
    have B6 := hid (B5.out.trans (A6.mono hs5))
    have e6 := heap_alloc_new w5 (.cells #[.int .i64 o.kind, .int .i64 o.op, .string ⟨o.name.toArray⟩, .int .i64 (o.cnt : Int)] 161)
    have hs6 : (w5.alloc (.cells #[.int .i64 o.kind, .int .i64 o.op, .string ⟨o.name.toArray⟩, .int .i64 (o.cnt : Int)] 161)).heap.size = w5.heap.size + 1 := by simp
    have x6 := lxbelow_cell B6.out HX0.out
    have HR6 := hid (H0.out.below B6.out)
    have HRes6 := hid (HRes.out.chg (chg_below (rb := rb) B6.out) (show ¬ (w.heap.size + 1 = rb) by omega))
    have HC6 := hid (chg_trans (chg_below (rb := rb) HB0.out) (chg_below B6.out))
    clear A6 x4
    generalize hW6 : World.alloc w5 _ = W6 at *
    clear hW6
    have c1 := HR6.out.c1
    have f1 := HR6.out.f 1
    generalize hJ : (xs.length : Int) - (l.length : Int) = J at c1 hw HX
    clear hJ
    go_upto_region 12 with fail
    have K7 : Chg (· = rb) W6 (W6.setCell ⟨rb, 1, none⟩ (.int .i64 (J + 1))) := chg_set (Chg.refl _ _) _
    have HR7 := hid (HR6.out.mv (suf_tail.trans HH.out.suf) (J + 1) HX.out)
    have e7 := (K7.block _ (by omega) (show ¬ (w5.heap.size = rb) by omega)).trans e6
    have HRes7 := hid (HRes6.out.chg K7 (show ¬ (w.heap.size + 1 = rb) by omega))
    have HC7 := hid (chg_trans HC6.out K7)
    have hs7 := K7.size
    have x7 := K7.cell x6 (show ¬ (w.heap.size = rb) by omega)
    have v0 : (W6.setCell ⟨rb, 1, none⟩ (.int .i64 (J + 1))).cell? ⟨w5.heap.size, 0, none⟩ = some (.int .i64 o.kind) := by rw [Lib.cell_of_heap e7]; rfl
    have v1 : (W6.setCell ⟨rb, 1, none⟩ (.int .i64 (J + 1))).cell? ⟨w5.heap.size, 1, none⟩ = some (.int .i64 o.op) := by rw [Lib.cell_of_heap e7]; rfl
    have v2 : (W6.setCell ⟨rb, 1, none⟩ (.int .i64 (J + 1))).cell? ⟨w5.heap.size, 2, none⟩ = some (.string ⟨o.name.toArray⟩) := by rw [Lib.cell_of_heap e7]; rfl
    have v3 : (W6.setCell ⟨rb, 1, none⟩ (.int .i64 (J + 1))).cell? ⟨w5.heap.size, 3, none⟩ = some (.int .i64 (o.cnt : Int)) := by rw [Lib.cell_of_heap e7]; rfl
    clear c1 f1 x6 e6 e7 K7
    generalize hW7 : World.setCell W6 _ _ = W7 at *
    clear hW7
    go_wp2_with (first
      | (go_at_call 140; go_loud (with_reducible refine (HCd.out _ HR7.out).mono ?_); rintro e9 w9 ⟨c9, v9, rfl, ⟨p9, q9, rfl, k9, E9, hcp9⟩, r9⟩; have C9 := hid c9; have HE9 := hid E9; have HR9 := hid r9; have res9 := HRes7.out.chg c9 (show ¬ (w.heap.size + 1 = rb) by omega); obtain ⟨z0, z1, z2, z3, z4, z5, z6, z7, z8, z9⟩ := res9.cells; have zf := res9.frozen; clear c9 E9 r9 res9)
      | fail)
    refine bodyPost_ret (by simp [results, Tryz.results92, go_sem, z0, z1, z2, z3, z4, z5, z6, z7, z8, z9]; try rfl) rfl ?_
    exact finX (e := e) HH.out (chg_trans HC7.out C9.out) (by omega) HR9.out (HE9.out.mono (fun j _ q => ⟨by omega, by omega⟩)) hcp9
/-- An item. -/
theorem item_any {rb : Nat} {p : Option Addr} {c : Nat} {xs : Ts} {d : Nat} {prev : Option (Ts → Rd Ex)} (hprev : ∀ g, prev = some g → ∃ d', d = d' + 1 ∧ LineOk rb p c xs d' 142 #[.pointer (some ⟨rb + 25, 0, none⟩), .pointer (some ⟨rb + 23, 0, none⟩), .pointer (some ⟨rb + 24, 0, none⟩)] g) (hnone : prev = none → d = 0) :
    LineOk rb p c xs d 92 #[.pointer (some ⟨rb, 0, none⟩)] (itemP prev) := by
  intro w l h
  unfold itemP
  cases hst : stn 5 [40] l with
  | true => exact item_paren h hst hprev hnone
  | false =>
    simp only [Bool.false_eq_true, if_false]
    cases hv : litT l with
    | some v => exact item_lit v h hst hv
    | none =>
      cases hc : calT l with
      | some o => exact item_call o h hst hv hc hprev hnone
      | none => exact item_col h hst hv hc
end Go.Proofs.YtblkhlhhlalbkaaGreatDoor
