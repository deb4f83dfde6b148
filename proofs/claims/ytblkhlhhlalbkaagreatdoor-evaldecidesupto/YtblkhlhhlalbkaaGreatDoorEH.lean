/- The law's own trial: works answers true. Conditions: the library's variables hold what their text lays. EvalConstant: the walk of the law. Conditions: lists within the reach. -/
import Derived.Test.YtblkhlhhlalbkaaGreatDoorXT
import Derived.Test.YtblkhlhhlalbkaaGreatDoorEG
import Derived.Test.YtblkhlhhlalbkaaGreatDoorER
namespace Go.Proofs.YtblkhlhhlalbkaaGreatDoor
open Go.RowKit Go.Lib Go.Sort
set_option linter.unusedVariables false
set_option maxRecDepth 20000

abbrev exA0 : Ex := mkE 4 6 [colE [] [98], numE 0]
theorem loc_A {w : World} {F : Nat → Prop} {k : Nat} {p : Option Addr} (h : EAt w F k txAE p) : ∃ b0 o0 b1 o1 q1 c0 c1, p = some ⟨b0, o0, none⟩ ∧ GC w b0 o0 (upN 2 exA0) (some ⟨b1, o1, none⟩) c0 ∧ GC w b1 o1 (upN 1 (colE [] [98])) q1 c1 ∧ w.frozen? ⟨b1, o1 + 7, none⟩ = false ∧ F b1 := by
  match k, h with
  | 0, h => cases (show txAE.xs = [] from h)
  | k + 1, h =>
    rcases h with h | ⟨b0, o0, rfl, _, hc⟩
    · cases h
    · obtain ⟨q, c, X, E, _⟩ := hc 0 (by decide)
      match k, E with
      | 0, E => cases (show exA0.xs = [] from E)
      | k + 1, E =>
        rcases E with E | ⟨b1, o1, rfl, hF, hc1⟩
        · cases E
        · obtain ⟨q1, c1, X1, E1, _, f1⟩ := hc1 0 (by decide)
          refine ⟨b0, o0, b1, o1, q1, c, c1, rfl, ?_, ?_, ?_, hF⟩
          · exact gc_up (m := 2) (show XC w b0 o0 exA0 (some ⟨b1, o1, none⟩) c from X) (by simp [DpE, mkE, colE, numE, litE])
          · exact gc_up (m := 1) (show XC w b1 o1 (colE [] [98]) q1 c1 from X1) (by simp [DpE, colE])
          · exact (show w.frozen? ⟨b1, o1 + 7, none⟩ = false from f1)
theorem after_A {w w' : World} {F : Nat → Prop} {k : Nat} {p : Option Addr} (h : EAt w F k txAE p) {b0 o0 b1 o1 c0 c1 : Nat} {q1 : Option Addr} (hp : p = some ⟨b0, o0, none⟩) (g0 : GC w b0 o0 (upN 2 exA0) (some ⟨b1, o1, none⟩) c0) (g1 : GC w b1 o1 (upN 1 (colE [] [98])) q1 c1) (S : Stored w w' b1 o1) :
    ∃ xs, xs.length = 2 ∧ GAt w' 3 (andA xs) p ∧ RtN 3 (andA xs) ∧ evN 3 rowA [] 3 (andA xs) = ⟨truthV false, 0⟩ := by
  obtain ⟨e', v', g'⟩ := gat_stored S g1 3 _ p (eat_gat 3 k txAE p h dp_txA)
  have hl : e'.xs.length = 2 := vr_len v'
  obtain ⟨b, o, a0, a1, q0, q2, d0, d1, hb, hx, G0, A0, G1, A1⟩ := two_at g' hp hl
  obtain ⟨rfl, rfl⟩ : b0 = b ∧ o0 = o := by cases hb; exact ⟨rfl, rfl⟩
  have v0' : Vr 2 (upN 2 exA0) a0 := by
    have := v'.2.2 0 (by decide) (by omega)
    simp only [hx, List.getElem_cons_zero] at this
    exact this
  have ha0 : a0.xs.length = 2 := vr_len v0'
  have hq : q0 = some ⟨b1, o1, none⟩ := by
    have h9 := G0.2.2.2.2.2.2.2.2.2
    have k9 := g0.2.2.2.2.2.2.2.2.2
    have k7 := g1.2.2.2.2.2.2.2.1
    rw [S.ne b0 (o0 + 9) (by
      rintro ⟨rfl, e⟩
      cases clash k9 k7 e), k9] at h9
    injection h9 with h9
    injection h9 with e1 _ _
    exact e1.symm
  obtain ⟨b', o', y0, y1, r0, r1, f0, f1, hb', hy, Y0, _, Y1, _⟩ := two_at A0 hq ha0
  obtain ⟨rfl, rfl⟩ : b1 = b' ∧ o1 = o' := by cases hb'; exact ⟨rfl, rfl⟩
  have hc : y0.c = 1 := by
    have h7 := Y0.2.2.2.2.2.2.2.1
    rw [S.eq] at h7
    injection h7 with h7
    injection h7 with _ e
    exact e.symm
  have w0 : Vr 1 (upN 1 (colE [] [98])) y0 := by
    have := v0'.2.2 0 (by decide) (by omega)
    simp only [hy, List.getElem_cons_zero] at this
    exact this
  have w1 : Vr 1 (upN 1 (numE 0)) y1 := by
    have := v0'.2.2 1 (by decide) (by omega)
    simp only [hy, List.getElem_cons_succ, List.getElem_cons_zero] at this
    exact this
  refine ⟨[a0, a1], rfl, gat_xs g' hx.symm, ⟨rt_txA.1, ?_⟩, ev_and v0' hy w0 w1 hc⟩
  have := (vr_rt 3 v' rt_txA).2
  rw [hx] at this
  exact this
set_option linter.unusedSimpArgs false in
theorem stored_set {w : World} {b o : Nat} {u : Value} (h : w.cell? ⟨b, o + 7, none⟩ = some u) : Stored w (w.setCell ⟨b, o + 7, none⟩ (.int .i64 1)) b o := by
  refine ⟨fun b2 o2 hn => ?_, ?_⟩
  · by_cases hb : b2 = b
    · subst hb
      have ho : o2 ≠ o + 7 := fun e => hn ⟨rfl, e⟩
      have ho2 : o + 7 ≠ o2 := fun e => ho e.symm
      simp [go_sem, ho, ho2]
    · exact World.cell?_setCell_far _ _ _ _ (fun e => hb e.symm)
  · simp [go_sem, h]
theorem row_blk {w : World} {g : Nat} (h : w.heap[g]? = some (.cells #[.int .i64 2, .int .i64 7, .string ⟨#[]⟩, .int .i64 2, .int .i64 0, .string ⟨#[]⟩] 23 (0, 0))) : Row w (some ⟨g, 0, none⟩) rowA := by
  refine Or.inr ⟨g, 0, rfl, fun i hi => ?_⟩
  match i, hi with
  | 0, _ => refine ⟨?_, ?_, ?_⟩ <;> (rw [Lib.cell_of_heap h]; rfl)
  | 1, _ => refine ⟨?_, ?_, ?_⟩ <;> (rw [Lib.cell_of_heap h]; rfl)
theorem rt_rowA : ∀ v ∈ rowA, RtV v := by
  intro v hv
  simp [rowA] at hv
  rcases hv with rfl | rfl <;> simp [RtV, inR, Val.right, bs0]
/-- The first expression's variable. -/
def BA (w : World) (b : Nat) (p : Option Addr) (c : Nat) : Prop := w.heap[b]? = some (.cells #[.int .i64 4, .int .i64 4, .int .i64 0, .int .i64 0, .string ⟨#[]⟩, .string ⟨#[]⟩, .string ⟨#[]⟩, .int .i64 0, .int .i64 0, .slice p 2 c] 26 (0, 0))
theorem BA.new (w : World) (p : Option Addr) (c : Nat) : BA (w.alloc (.cells #[.int .i64 4, .int .i64 4, .int .i64 0, .int .i64 0, .string ⟨#[]⟩, .string ⟨#[]⟩, .string ⟨#[]⟩, .int .i64 0, .int .i64 0, .slice p 2 c] 26)) w.heap.size p c := heap_alloc_new w _
theorem BA.below {w w' : World} {b : Nat} {p : Option Addr} {c : Nat} (h : BA w b p c) (B : Below w.heap.size w w') : BA w' b p c := (B.block b (Array.getElem?_eq_some_iff.1 h).1).trans h
theorem BA.chg {F : Nat → Prop} {w w' : World} {b : Nat} {p : Option Addr} {c : Nat} (h : BA w b p c) (C : Chg F w w') (hn : ¬ F b) : BA w' b p c := (C.block b (Array.getElem?_eq_some_iff.1 h).1 hn).trans h
theorem BA.cells {w : World} {b : Nat} {p : Option Addr} {c : Nat} (h : BA w b p c) : w.cell? ⟨b, 0, none⟩ = some (.int .i64 4) ∧ w.cell? ⟨b, 1, none⟩ = some (.int .i64 4) ∧ w.cell? ⟨b, 2, none⟩ = some (.int .i64 0) ∧ w.cell? ⟨b, 3, none⟩ = some (.int .i64 0) ∧ w.cell? ⟨b, 4, none⟩ = some (.string ⟨#[]⟩) ∧ w.cell? ⟨b, 5, none⟩ = some (.string ⟨#[]⟩) ∧ w.cell? ⟨b, 6, none⟩ = some (.string ⟨#[]⟩) ∧ w.cell? ⟨b, 7, none⟩ = some (.int .i64 0) ∧ w.cell? ⟨b, 8, none⟩ = some (.int .i64 0) ∧ w.cell? ⟨b, 9, none⟩ = some (.slice p 2 c) := by
  refine ⟨?_, ?_, ?_, ?_, ?_, ?_, ?_, ?_, ?_, ?_⟩ <;> (rw [Lib.cell_of_heap h]; rfl)
/-- A variable that holds a value. -/
def VB (w : World) (b : Nat) (k n : Int) : Prop := w.heap[b]? = some (.cells #[.int .i64 k, .int .i64 n, .string ⟨#[]⟩] 23 (0, 0))
theorem VB.new (w : World) (k n : Int) : VB (w.alloc (.cells #[.int .i64 k, .int .i64 n, .string ⟨#[]⟩] 23)) w.heap.size k n := heap_alloc_new w _
theorem VB.below {w w' : World} {b : Nat} {k n : Int} (h : VB w b k n) (B : Below w.heap.size w w') : VB w' b k n := (B.block b (Array.getElem?_eq_some_iff.1 h).1).trans h
theorem VB.cells {w : World} {b : Nat} {k n : Int} (h : VB w b k n) : w.cell? ⟨b, 0, none⟩ = some (.int .i64 k) ∧ w.cell? ⟨b, 1, none⟩ = some (.int .i64 n) ∧ w.cell? ⟨b, 2, none⟩ = some (.string ⟨#[]⟩) := by
  refine ⟨?_, ?_, ?_⟩ <;> (rw [Lib.cell_of_heap h]; rfl)
theorem cv_none {w : World} {pr : Option Addr} (M : Nat) (hr : Row w pr rowA) (ht : Tb w) : Cv w M rowA pr [] none := ⟨hr, ⟨by simp, Or.inl rfl⟩, ht, by decide, rt_rowA, fun q hq => by cases hq⟩
theorem evalA {w : World} {pr p : Option Addr} {c : Nat} {xs : List Gx} (hr : Row w pr rowA) (ht : Tb w) (hl : xs.length = 2) (hg : GAt w 3 (andA xs) p) (he : RtN 3 (andA xs)) (hv : evN 3 rowA [] 3 (andA xs) = ⟨truthV false, 0⟩) (hc : 2 ≤ c) :
    Calls Tryz.prog 12 #[.agg #[.int .i64 4, .int .i64 4, .int .i64 0, .int .i64 0, .string ⟨#[]⟩, .string ⟨#[]⟩, .string ⟨#[]⟩, .int .i64 0, .int .i64 0, .slice p 2 c], .slice pr 2 2, .slice none 0 0] w fun r w' => r = .returned (.tuple #[.agg #[.int .i64 1, .int .i64 0, .string ⟨#[]⟩], .int .i64 0]) ∧ Below w.heap.size w w' := by
  match xs, hl with
  | [a, b], _ =>
    have := eval_any 3 3 (Nat.le_refl _) rowA pr 2 [] none 0 w (andA [a, b]) p c (cv_none 3 hr ht) hg he hc
    rw [hv] at this
    exact this
theorem evalB {w : World} {pr p : Option Addr} {c : Nat} (hr : Row w pr rowA) (ht : Tb w) (hg : GAt w 1 (upN 1 txBE) p) (hc : 2 ≤ c) :
    Calls Tryz.prog 12 #[.agg #[.int .i64 4, .int .i64 14, .int .i64 0, .int .i64 0, .string ⟨#[]⟩, .string ⟨#[]⟩, .string ⟨#[]⟩, .int .i64 0, .int .i64 0, .slice p 2 c], .slice pr 2 2, .slice none 0 0] w fun r w' => r = .returned (.tuple #[.agg #[.int .i64 0, .int .i64 0, .string ⟨#[]⟩], .int .i64 41]) ∧ Below w.heap.size w w' := by
  have := eval_any 1 1 (Nat.le_refl _) rowA pr 2 [] none 0 w (upN 1 txBE) p c (cv_none 1 hr ht) hg rt_txB hc
  rw [ev_txB] at this
  exact this
abbrev knD : List (Gx × Val) := [(upN 1 txDE, ⟨2, 5, ⟨#[]⟩⟩)]
theorem kn_blk {w : World} {g : Nat} {q : Option Addr} {c : Nat} (h : w.heap[g]? = some (.cells #[.int .i64 6, .int .i64 2, .int .i64 0, .int .i64 0, .string ⟨#[]⟩, .string ⟨#[]⟩, .string ⟨#[]⟩, .int .i64 0, .int .i64 0, .slice q 1 c, .int .i64 2, .int .i64 5, .string ⟨#[]⟩] 38 (0, 0))) (hg : GAt w 1 (upN 1 txDE) q) : KnR w 2 (some ⟨g, 0, none⟩) knD := by
  refine ⟨by decide, Or.inr ⟨g, 0, rfl, fun i hi => ?_⟩⟩
  match i, hi with
  | 0, _ =>
    refine ⟨q, c, ?_, ?_, hg.up⟩
    · refine ⟨?_, ?_, ?_, ?_, ?_, ?_, ?_, ?_, ?_, ?_⟩ <;> (rw [Lib.cell_of_heap h]; rfl)
    · refine ⟨?_, ?_, ?_⟩ <;> (rw [Lib.cell_of_heap h]; rfl)
theorem evalC {w : World} {pr p q : Option Addr} {c cd g : Nat} (hr : Row w pr rowA) (ht : Tb w) (hg : GAt w 2 (upN 2 txCE) p) (hc : 2 ≤ c) (h : w.heap[g]? = some (.cells #[.int .i64 6, .int .i64 2, .int .i64 0, .int .i64 0, .string ⟨#[]⟩, .string ⟨#[]⟩, .string ⟨#[]⟩, .int .i64 0, .int .i64 0, .slice q 1 cd, .int .i64 2, .int .i64 5, .string ⟨#[]⟩] 38 (0, 0))) (hq : GAt w 1 (upN 1 txDE) q) :
    Calls Tryz.prog 12 #[.agg #[.int .i64 4, .int .i64 11, .int .i64 0, .int .i64 0, .string ⟨#[]⟩, .string ⟨#[]⟩, .string ⟨#[]⟩, .int .i64 0, .int .i64 0, .slice p 2 c], .slice pr 2 2, .slice (some ⟨g, 0, none⟩) 1 1] w fun r w' => r = .returned (.tuple #[.agg #[.int .i64 2, .int .i64 6, .string ⟨#[]⟩], .int .i64 0]) ∧ Below w.heap.size w w' := by
  have := eval_any 2 2 (Nat.le_refl _) rowA pr 2 knD (some ⟨g, 0, none⟩) 1 w (upN 2 txCE) p c ⟨hr, kn_blk h hq, ht, by decide, rt_rowA, fun x hx => by
    simp [knD] at hx
    subst hx
    simp [RtV, inR, Val.right, bs0]⟩ hg rt_txC hc
  rw [ev_txC] at this
  exact this
set_option maxHeartbeats 16000000 in
theorem works_any16 (w : World) (hE : Ew w) :
    Calls Tryz.prog 16 #[] w fun e w' => e = .returned (.bool true) ∧ Below w.heap.size w w' := by
  have HE := hid hE
  have CA : Hid (∀ w, Ew w → Calls Tryz.prog 31 #[.string ⟨#[98, 32, 60, 62, 32, 48, 32, 65, 78, 68, 32, 97, 32, 47, 32, 98, 32, 61, 32, 49]⟩] w fun ev w' => ∃ pe ce, ev = .returned (.agg #[.int .i64 4, .int .i64 4, .int .i64 0, .int .i64 0, .string ⟨#[]⟩, .string ⟨#[]⟩, .string ⟨#[]⟩, .int .i64 0, .int .i64 0, .slice pe 2 ce]) ∧ (∃ k, EAt w' (fun j => w.heap.size ≤ j) k txAE pe) ∧ Below w.heap.size w w' ∧ 2 ≤ ce) := fun w h => lread_ok ⟨#[98, 32, 60, 62, 32, 48, 32, 65, 78, 68, 32, 97, 32, 47, 32, 98, 32, 61, 32, 49]⟩ w (by decide) h lex_txA read_txA
  have CB : Hid (∀ w, Ew w → Calls Tryz.prog 31 #[.string ⟨#[49, 32, 47, 32, 48]⟩] w fun ev w' => ∃ pe ce, ev = .returned (.agg #[.int .i64 4, .int .i64 14, .int .i64 0, .int .i64 0, .string ⟨#[]⟩, .string ⟨#[]⟩, .string ⟨#[]⟩, .int .i64 0, .int .i64 0, .slice pe 2 ce]) ∧ (∃ k, EAt w' (fun j => w.heap.size ≤ j) k txBE pe) ∧ Below w.heap.size w w' ∧ 2 ≤ ce) := fun w h => lread_ok ⟨#[49, 32, 47, 32, 48]⟩ w (by decide) h lex_txB read_txB
  have CC : Hid (∀ w, Ew w → Calls Tryz.prog 31 #[.string ⟨#[115, 117, 109, 40, 97, 41, 32, 43, 32, 49]⟩] w fun ev w' => ∃ pe ce, ev = .returned (.agg #[.int .i64 4, .int .i64 11, .int .i64 0, .int .i64 0, .string ⟨#[]⟩, .string ⟨#[]⟩, .string ⟨#[]⟩, .int .i64 0, .int .i64 0, .slice pe 2 ce]) ∧ (∃ k, EAt w' (fun j => w.heap.size ≤ j) k txCE pe) ∧ Below w.heap.size w w' ∧ 2 ≤ ce) := fun w h => lread_ok ⟨#[115, 117, 109, 40, 97, 41, 32, 43, 32, 49]⟩ w (by decide) h lex_txC read_txC
  have CD : Hid (∀ w, Ew w → Calls Tryz.prog 31 #[.string ⟨#[115, 117, 109, 40, 97, 41]⟩] w fun ev w' => ∃ pe ce, ev = .returned (.agg #[.int .i64 6, .int .i64 2, .int .i64 0, .int .i64 0, .string ⟨#[]⟩, .string ⟨#[]⟩, .string ⟨#[]⟩, .int .i64 0, .int .i64 0, .slice pe 1 ce]) ∧ (∃ k, EAt w' (fun j => w.heap.size ≤ j) k txDE pe) ∧ Below w.heap.size w w' ∧ 1 ≤ ce) := fun w h => lread_ok ⟨#[115, 117, 109, 40, 97, 41]⟩ w (by decide) h lex_txD read_txD
  have hR := row_blk (heap_alloc_new w (.cells #[.int .i64 2, .int .i64 7, .string ⟨#[]⟩, .int .i64 2, .int .i64 0, .string ⟨#[]⟩] 23))
  have hB := albl w (.cells #[.int .i64 2, .int .i64 7, .string ⟨#[]⟩, .int .i64 2, .int .i64 0, .string ⟨#[]⟩] 23)
  clear hE
  go_enter Tryz.func16, Tryz.ntmps16
  go_upto_region 2 with fail
  have HR1 := hid hR
  have B1 := hid hB
  clear hR hB
  generalize hW : World.alloc w _ = W1 at *
  clear hW
  have E1 := hid (HE.out.below B1.out)
  have DA := hid (CA.out W1 E1.out)
  go_upto_region 3 with (first
    | (go_at_call 31; go_loud (with_reducible refine DA.out.mono ?_); rintro v w2 ⟨pe, ce, rfl, ⟨ke, q2⟩, b2, hc2⟩; have Q2 := hid q2; have B2 := hid b2; have HC2 := hid hc2; clear q2 b2 hc2)
    | fail)
  obtain ⟨b0, o0, b1, o1, q1, c0, c1, rfl, G0, G1, hfz, hF1⟩ := loc_A Q2.out
  have hb0 := G0.lt
  have hb1 := G1.lt
  have BAl := albl w2 (.cells #[.int .i64 4, .int .i64 4, .int .i64 0, .int .i64 0, .string ⟨#[]⟩, .string ⟨#[]⟩, .string ⟨#[]⟩, .int .i64 0, .int .i64 0, .slice (some ⟨b0, o0, none⟩) 2 ce] 26)
  have HX := hid (BA.new w2 (some ⟨b0, o0, none⟩) ce)
  have B3 := hid (B2.out.trans (BAl.mono B2.out.size))
  have Q3 := hid (Q2.out.chg (G := fun _ => False) (Chg.of_below BAl) (fun _ _ q => q))
  have G03 := hid (G0.below BAl)
  have G13 := hid (G1.below BAl)
  have hfz3 : (w2.alloc (.cells #[.int .i64 4, .int .i64 4, .int .i64 0, .int .i64 0, .string ⟨#[]⟩, .string ⟨#[]⟩, .string ⟨#[]⟩, .int .i64 0, .int .i64 0, .slice (some ⟨b0, o0, none⟩) 2 ce] 26)).frozen? ⟨b1, o1 + 7, none⟩ = false := by
    have := BAl.block b1 hb1
    unfold World.frozen? at hfz ⊢
    rw [this]
    exact hfz
  have hne : b1 ≠ w2.heap.size := by omega
  clear BAl hfz G0 G1
  generalize hW3 : World.alloc w2 _ = W3 at *
  clear hW3
  have hl3 := B3.out.size
  have hb03 := G03.out.lt
  have hb13 := G13.out.lt
  obtain ⟨x0, x1, x2, x3, x4, x5, x6, x7, x8, x9⟩ := HX.out.cells
  have y9 : W3.cell? ⟨b0, o0 + 9, none⟩ = some (.slice (some ⟨b1, o1, none⟩) 2 c0) := G03.out.2.2.2.2.2.2.2.2.2
  have y7 : W3.cell? ⟨b1, o1 + 7, none⟩ = some (.int .i64 0) := G13.out.2.2.2.2.2.2.2.1
  go_upto_region 5 with fail
  go_upto_region 6 with fail
  have S := stored_set y7
  have K : Below W1.heap.size W1 (W3.setCell ⟨b1, o1 + 7, none⟩ (.int .i64 1)) := B3.out.setCell (p := ⟨b1, o1 + 7, none⟩) hF1 _
  have C5 : Chg (· = b1) W3 (W3.setCell ⟨b1, o1 + 7, none⟩ (.int .i64 1)) := Chg.setCell (F := (· = b1)) (p := ⟨b1, o1 + 7, none⟩) (Chg.refl _ _) (Or.inl rfl) _
  have HX5 := hid (HX.out.chg C5 (fun e => hne e.symm))
  have B5 := hid K
  obtain ⟨xs, hxl, hg5, hr5, hv5⟩ := after_A Q3.out rfl G03.out G13.out S
  have A5 := hid (And.intro hxl (And.intro hg5 (And.intro hr5 hv5)))
  clear S K C5 x0 x1 x2 x3 x4 x5 x6 x7 x8 x9 y9 y7 hfz3 hg5 hr5 hv5 hxl
  generalize hW5 : World.setCell W3 _ _ = W5 at *
  clear hW5
  have DB := hid (CB.out W5 (E1.out.below B5.out))
  go_upto_region 7 with (first
    | (go_at_call 31; go_loud (with_reducible refine DB.out.mono ?_); rintro v w6 ⟨p6, c6, rfl, ⟨k6, q6⟩, b6, hc6⟩; have B6 := hid (B5.out.trans (b6.mono B5.out.size)); have HX6 := hid (HX5.out.below b6); have A6 := hid (A5.out.2.1.below b6); have D6 := hid (evalB (HR1.out.below B6.out) (E1.out.below B6.out).tb (eat_gat 1 k6 txBE p6 q6 dp_txB) hc6); clear q6 b6 hc6)
    | (go_at_call 12; go_loud (with_reducible refine D6.out.mono ?_); rintro v w7 ⟨rfl, b7⟩; have B7 := hid (B6.out.trans (b7.mono B6.out.size)); have HX7 := hid (HX6.out.below b7); have A7 := hid (A6.out.below b7); clear b7)
    | fail)
  have BAl := albl w7 (.cells #[.int .i64 0, .int .i64 0, .string ⟨#[]⟩] 23)
  have B8 := hid (B7.out.trans (BAl.mono B7.out.size))
  have HX8 := hid (HX7.out.below BAl)
  have A8 := hid (A7.out.below BAl)
  clear BAl
  generalize hW8 : World.alloc w7 _ = W8 at *
  clear hW8
  obtain ⟨x0, x1, x2, x3, x4, x5, x6, x7, x8, x9⟩ := HX8.out.cells
  have D8 := hid (evalA (HR1.out.below B8.out) (E1.out.below B8.out).tb A5.out.1 A8.out A5.out.2.2.1 A5.out.2.2.2 HC2.out)
  go_upto_region 8 with (first
    | (go_at_call 12; go_loud (with_reducible refine D8.out.mono ?_); rintro v w9 ⟨rfl, b9⟩; have B9 := hid (B8.out.trans (b9.mono B8.out.size)); clear b9)
    | fail)
  have BAl := albl w9 (.cells #[.int .i64 1, .int .i64 0, .string ⟨#[]⟩] 23)
  have B10 := hid (B9.out.trans (BAl.mono B9.out.size))
  have V10 := hid (VB.new w9 1 0)
  clear BAl x0 x1 x2 x3 x4 x5 x6 x7 x8 x9
  generalize hW10 : World.alloc w9 _ = W10 at *
  clear hW10
  have DC := hid (CC.out W10 (E1.out.below B10.out))
  go_upto_region 9 with (first
    | (go_at_call 31; go_loud (with_reducible refine DC.out.mono ?_); rintro v wc ⟨pc, cc, rfl, ⟨kc, qc⟩, bc, hcc⟩; have Bc := hid (B10.out.trans (bc.mono B10.out.size)); have Vc := hid (V10.out.below bc); have Gc := hid (eat_gat 2 kc txCE pc qc dp_txC); have Hc := hid hcc; have DD := hid (CD.out wc (E1.out.below Bc.out)); clear qc bc hcc DC)
    | (go_at_call 31; go_loud (with_reducible refine DD.out.mono ?_); rintro v wd ⟨pd, cd, rfl, ⟨kd, qd⟩, bd, hcd⟩; have BAd := albl wd (.cells #[.int .i64 6, .int .i64 2, .int .i64 0, .int .i64 0, .string ⟨#[]⟩, .string ⟨#[]⟩, .string ⟨#[]⟩, .int .i64 0, .int .i64 0, .slice pd 1 cd, .int .i64 2, .int .i64 5, .string ⟨#[]⟩] 38); have hBd := Bc.out.trans (bd.mono Bc.out.size); have Bd := hid (hBd.trans (BAd.mono hBd.size)); have Vd := hid ((Vc.out.below bd).below BAd); have DE := hid (evalC (HR1.out.below Bd.out) (E1.out.below Bd.out).tb ((Gc.out.below bd).below BAd) Hc.out (heap_alloc_new wd _) ((eat_gat 1 kd txDE pd qd dp_txD).below BAd)); clear qd bd hcd BAd hBd)
    | (go_at_call 12; go_loud (with_reducible refine DE.out.mono ?_); rintro v we ⟨rfl, be⟩; have Be := hid (Bd.out.trans (be.mono Bd.out.size)); have Ve := hid (Vd.out.below be); clear be)
    | fail)
  have BAl := albl we (.cells #[.int .i64 2, .int .i64 6, .string ⟨#[]⟩] 23)
  have Bf := hid (Be.out.trans (BAl.mono Be.out.size))
  have Vf := hid (Ve.out.below BAl)
  have Vg := hid (VB.new we 2 6)
  clear BAl
  generalize hWf : World.alloc we _ = Wf at *
  clear hWf
  obtain ⟨x0, x1, x2⟩ := Vf.out.cells
  obtain ⟨y0, y1, y2⟩ := Vg.out.cells
  go_wp2_with fail
  go_ret
  exact ⟨rfl, B1.out.trans (Bf.out.mono B1.out.size)⟩
end Go.Proofs.YtblkhlhhlalbkaaGreatDoor
namespace Go.Proofs.YtblkhlhhlalbkaaGreatDoor
open Go.RowKit Go.Lib Go.Sort
set_option linter.unusedVariables false
set_option maxRecDepth 20000

theorem evB_const {M : Nat} {a b : List Val} {kn : List (Gx × Val)} {e : Gx} {rs : List Ans} (hk : e.k ≠ 2) : evB M a kn e rs = evB M b kn e rs := by
  unfold evB
  simp only [if_neg hk]
theorem ev_const {M : Nat} {a b : List Val} {kn : List (Gx × Val)} : ∀ (m : Nat) (e : Gx), colN m e = false → evN M a kn m e = evN M b kn m e
  | 0, e, h => by
    rw [colN, Bool.or_eq_false_iff] at h
    exact evB_const (by simpa using h.1)
  | m + 1, e, h => by
    rw [colN, Bool.or_eq_false_iff, List.any_eq_false] at h
    have hx : e.xs.map (evN M a kn m) = e.xs.map (evN M b kn m) := List.map_congr_left (fun x hx => ev_const m x (by simpa using h.2 x hx))
    show evB M a kn e (e.xs.map (evN M a kn m)) = evB M b kn e (e.xs.map (evN M b kn m))
    rw [hx]
    exact evB_const (by simpa using h.1)
/-- A value within the reach. -/
def BdV (v : Val) : Prop := inR v.n ∧ v.s.size ≤ 2147483648
def BdN : Nat → Gx → Prop
  | 0, e => BdV e.v ∧ e.t.length ≤ 2147483648 ∧ e.n.length ≤ 2147483648
  | m + 1, e => (BdV e.v ∧ e.t.length ≤ 2147483648 ∧ e.n.length ≤ 2147483648) ∧ ∀ x ∈ e.xs, BdN m x
theorem rt_of {v : Val} (h : BdV v) (hc : checkV v = 0) : RtV v := by
  unfold checkV at hc
  split at hc
  · cases hc
  · rename_i hk
    split at hc
    · rename_i hr
      exact ⟨h.1, h.2, by omega, by omega, hr⟩
    · cases hc
theorem rtN_of : ∀ (m : Nat) (e : Gx), BdN m e → rgN m e = true → RtN m e
  | 0, e, h, r => by
    rw [rgN, Bool.and_eq_true] at r
    exact ⟨rt_of h.1 (by simpa using r.1), h.2⟩
  | m + 1, e, h, r => by
    rw [rgN, Bool.and_eq_true, List.all_eq_true] at r
    exact ⟨⟨rt_of h.1.1 (by simpa using r.1), h.1.2⟩, fun x hx => rtN_of m x (h.2 x hx) (r.2 x hx)⟩
theorem rtRow_of {l : List Val} (h : ∀ v ∈ l, BdV v) (r : (l.all fun v => checkV v == 0) = true) : ∀ v ∈ l, RtV v := by
  rw [List.all_eq_true] at r
  exact fun v hv => rt_of (h v hv) (by simpa using r v hv)
/-- A value's variable. -/
def VV (w : World) (b : Nat) (k n : Int) (s : ByteArray) : Prop := w.heap[b]? = some (.cells #[.int .i64 k, .int .i64 n, .string s] 23 (0, 0))
theorem VV.new (w : World) (k n : Int) (s : ByteArray) : VV (w.alloc (.cells #[.int .i64 k, .int .i64 n, .string s] 23)) w.heap.size k n s := heap_alloc_new w _
theorem VV.below {w w' : World} {b : Nat} {k n : Int} {s : ByteArray} (h : VV w b k n s) (B : Below w.heap.size w w') : VV w' b k n s := (B.block b (Array.getElem?_eq_some_iff.1 h).1).trans h
theorem VV.cells {w : World} {b : Nat} {k n : Int} {s : ByteArray} (h : VV w b k n s) : w.cell? ⟨b, 0, none⟩ = some (.int .i64 k) ∧ w.cell? ⟨b, 1, none⟩ = some (.int .i64 n) ∧ w.cell? ⟨b, 2, none⟩ = some (.string s) := by
  refine ⟨?_, ?_, ?_⟩ <;> (rw [Lib.cell_of_heap h]; rfl)
theorem cv_no {w : World} {pr : Option Addr} {row : List Val} (M : Nat) (hr : Row w pr row) (ht : Tb w) (hl : row.length ≤ 1048576) (hg : ∀ v ∈ row, RtV v) : Cv w M row pr [] none := ⟨hr, ⟨by simp, Or.inl rfl⟩, ht, hl, hg, fun q hq => by cases hq⟩
theorem eval_no {w : World} {m : Nat} {pr p : Option Addr} {row : List Val} {cr c : Nat} {e : Gx} (hr : Row w pr row) (ht : Tb w) (hl : row.length ≤ 1048576) (hg : ∀ v ∈ row, RtV v) (hE : GAt w m e p) (he : RtN m e) (hc : e.xs.length ≤ c) :
    Calls Tryz.prog 12 #[gV e p c, .slice pr row.length cr, .slice none 0 0] w fun r w' => r = .returned (evN m row [] m e).out ∧ Below w.heap.size w w' :=
  eval_any m m (Nat.le_refl _) row pr cr [] none 0 w e p c (cv_no m hr ht hl hg) hE he hc
end Go.Proofs.YtblkhlhhlalbkaaGreatDoor
