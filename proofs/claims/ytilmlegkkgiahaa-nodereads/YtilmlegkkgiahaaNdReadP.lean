/- What read of package node does over Open's own work, and Open: the piece that a load is, or the error. Condition: the bytes lie within the reach. -/
import Derived.Test.YtilmlegkkgiahaaNdDec
namespace Go.Proofs.Ytilmlegkkgiahaa
open Go.RowKit Go.Lib Go.Sort
set_option linter.unusedVariables false
set_option maxRecDepth 20000

/-- The piece that a load is. -/
def opN (l : List UInt8) : Option (List UInt8 × Int) := if l.length = 508 then (pOpn l).bind fun x => if x.2.all (· == 0) = true then some x.1 else none else none
def prEnd (l : List UInt8) (w : World) (e : Ending) (w' : World) : Prop :=
  Below w.heap.size w w' ∧ ∃ (d : List UInt8) (x er : Int) (p : Option Addr) (c : Nat), e = .returned (.tuple #[.agg #[.slice p d.length c, .int .i64 x], .int .i64 er]) ∧ BV w' (w.heap.size ≤ ·) (.slice p d.length c) d ∧ ((opN l = some (d, x) ∧ er = 0) ∨ (opN l = none ∧ d = [] ∧ x = 0 ∧ er = 10))
/-- What Open answers. -/
def opEnd (l : List UInt8) (w : World) (e : Ending) (w' : World) : Prop :=
  Below w.heap.size w w' ∧ ∃ (d : List UInt8) (x er : Int) (p : Option Addr) (c : Nat), e = .returned (.tuple #[.slice p d.length c, .int .i64 x, .int .i64 er]) ∧ BV w' (w.heap.size ≤ ·) (.slice p d.length c) d ∧ ((opN l = some (d, x) ∧ er = 0) ∨ (opN l = none ∧ d = [] ∧ x = 0 ∧ er = 10))
theorem pr_none {l : List UInt8} {w w' : World} (h : opN l = none) (B : Below w.heap.size w w') : prEnd l w (.returned (.tuple #[.agg #[.slice none 0 0, .int .i64 0], .int .i64 10])) w' :=
  ⟨B, [], 0, 10, none, 0, rfl, BV.nil _ _, Or.inr ⟨h, rfl, rfl, rfl⟩⟩
theorem pr_cells (w : World) : (let w' := ((w.alloc (.cells #[.slice none 0 0, .int .i64 0] 77)).alloc (.cells #[.int .i64 0] 32)); w'.cell? ⟨w.heap.size, 0, none⟩ = some (.slice none 0 0) ∧ w'.cell? ⟨w.heap.size, 1, none⟩ = some (.int .i64 0) ∧ w'.frozen? ⟨w.heap.size, 0, none⟩ = false ∧ w'.frozen? ⟨w.heap.size, 1, none⟩ = false ∧ w'.cell? ⟨w.heap.size + 1, 0, none⟩ = some (.int .i64 0) ∧ w'.frozen? ⟨w.heap.size + 1, 0, none⟩ = false) := by
  refine ⟨?_, ?_, ?_, ?_, ?_, ?_⟩ <;> simp [go_sem]
set_option maxHeartbeats 8000000 in
theorem pread_any {F : Nat → Prop} (v : Value) (l : List UInt8) (w : World) (h : BV w F v l) :
    Calls Try.prog 39 #[v, .func (.func 40) #[] #[]] w (prEnd l w) := by
  have hmf : ∀ (fn : Fn) (first cap : Array Value) (w : World), (Instr.makeFunc fn first cap).run Try.prog w = .ok (.func fn first cap) w := fun _ _ _ _ => rfl
  have HB := hid (below2 w (.cells #[.slice none 0 0, .int .i64 0] 77) (.cells #[.int .i64 0] 32))
  have HWs : Hid (((w.alloc (.cells #[.slice none 0 0, .int .i64 0] 77)).alloc (.cells #[.int .i64 0] 32)).heap.size = w.heap.size + 2) := by show _ = _; simp
  have HN : Hid (∀ w', Below (w.heap.size + 2) ((w.alloc (.cells #[.slice none 0 0, .int .i64 0] 77)).alloc (.cells #[.int .i64 0] 32)) w' → w'.cell? ⟨w.heap.size, 0, none⟩ = some (.slice none 0 0) ∧ w'.cell? ⟨w.heap.size, 1, none⟩ = some (.int .i64 0) ∧ w'.frozen? ⟨w.heap.size, 0, none⟩ = false ∧ w'.frozen? ⟨w.heap.size, 1, none⟩ = false ∧ w'.cell? ⟨w.heap.size + 1, 0, none⟩ = some (.int .i64 0) ∧ w'.frozen? ⟨w.heap.size + 1, 0, none⟩ = false) := fun w' B => by
    have q := pr_cells w
    have B' : Below ((w.alloc (.cells #[.slice none 0 0, .int .i64 0] 77)).alloc (.cells #[.int .i64 0] 32)).heap.size ((w.alloc (.cells #[.slice none 0 0, .int .i64 0] 77)).alloc (.cells #[.int .i64 0] 32)) w' := by rw [HWs.out]; exact B
    exact ⟨below_cell B' q.1, below_cell B' q.2.1, (B'.frozen (p := ⟨w.heap.size, 0, none⟩) (by simp; omega)).trans q.2.2.1, (B'.frozen (p := ⟨w.heap.size, 1, none⟩) (by simp; omega)).trans q.2.2.2.1, below_cell B' q.2.2.2.2.1, (B'.frozen (p := ⟨w.heap.size + 1, 0, none⟩) (by simp)).trans q.2.2.2.2.2⟩
  have HBw : Hid (∀ w', Below (w.heap.size + 2) ((w.alloc (.cells #[.slice none 0 0, .int .i64 0] 77)).alloc (.cells #[.int .i64 0] 32)) w' → Below w.heap.size w w') := fun w' B => HB.out.trans (B.mono (Nat.le_add_right _ _))
  have HV := hid (h.below HB.out)
  obtain ⟨p, c, rfl⟩ := h.shape
  have hlen := h.reach
  have A1 := hid (newReader_any _ l _ HV.out)
  unfold nrEnd at A1
  rw [HWs.out, show w.heap.size + 2 + 2 = w.heap.size + 4 from rfl] at A1
  clear h
  by_cases hl : l.length = 508
  · have A2 := hid (fun w' (R : Rk w' (· < w.heap.size + 2) (w.heap.size + 2) (w.heap.size + 4) l) => owork_any (w.heap.size + 2) (w.heap.size + 4) l w' R)
    have HP0 : Hid (opN l = (pOpn l).bind fun x => if x.2.all (· == 0) = true then some x.1 else none) := if_pos hl
    have HRc := hid (fun w' => (rdc_cells w' (w.heap.size + 2) (w.heap.size + 4)).2.2)
    unfold rdEnd at A2
    unfold rdc at *
    generalize hL : l.length = L at *
    subst hl
    clear hL hlen
    cases hx : pOpn l with
    | none =>
      have HP : Hid (opN l = none) := by show _ = _; rw [HP0.out, hx]; rfl
      rw [hx] at A2
      simp only [] at A2
      clear hx HP0
      go_enter_defers Try.func39, Try.ntmps39
      go_upto_region 2 with fail
      generalize hW : (w.alloc _).alloc _ = W at *
      clear hW
      go_wp2_with (first
        | (go_at_call 54; with_reducible refine A1.out.mono ?_; rintro e w2 ⟨rfl, R2, b2⟩; have B3 := alloc_below w2 (.cells #[.func (.func 64) #[] #[.pointer (some ⟨w.heap.size + 4, 0, none⟩)], .func (.func 65) #[] #[.pointer (some ⟨w.heap.size + 4, 0, none⟩)], .func (.func 67) #[] #[.pointer (some ⟨w.heap.size + 4, 0, none⟩), .pointer (some ⟨w.heap.size + 2, 0, none⟩)]] 69); have hr2 := HRc.out w2; have A3 := hid (A2.out _ (R2.below B3)); have hlt2 := R2.lt; have hs3 := le1 (o := (.cells #[.func (.func 64) #[] #[.pointer (some ⟨w.heap.size + 4, 0, none⟩)], .func (.func 65) #[] #[.pointer (some ⟨w.heap.size + 4, 0, none⟩)], .func (.func 67) #[] #[.pointer (some ⟨w.heap.size + 4, 0, none⟩), .pointer (some ⟨w.heap.size + 2, 0, none⟩)]] 69)) (Nat.le_of_lt hlt2); have HBx := hid (b2.trans (B3.mono (Nat.le_of_lt hlt2))); clear R2 b2 B3)
        | (go_at_call 40; with_reducible refine A3.out.mono ?_; rintro e w4 ⟨C4, rfl⟩)
        | fail)
      obtain ⟨z0, z1, y0, y1, e0, e1⟩ := HN.out w4 (HBx.out.trans (C4.below (fun k e => Nat.le_of_eq e.symm) hs3))
      have hb5 := HBw.out w4 (HBx.out.trans (C4.below (fun k e => Nat.le_of_eq e.symm) hs3))
      refine leaves_cons (f := 60) (args := #[.pointer (some ⟨w.heap.size + 1, 0, none⟩)]) (by simp) (by simp [go_sem]) ?_
      refine (pcatch_panicking (w.heap.size + 1) 10 _ _ e0 e1).mono ?_
      rintro e u' w9 ⟨rfl, rfl, rfl⟩
      simp [Leaves, settle, results, Try.results39, go_sem, z0, z1, e0]
      exact pr_none HP.out (hb5.setCell (p := ⟨w.heap.size + 1, 0, none⟩) (Nat.le_succ _) _)
    | some xx =>
      obtain ⟨⟨d, x⟩, r⟩ := xx
      have HP1 : Hid (opN l = if r.all (· == 0) = true then some (d, x) else none) := by show _ = _; rw [HP0.out, hx]; rfl
      rw [hx] at A2
      simp only [] at A2
      have A4 := hid (fun w' (R : Rk w' (· < w.heap.size + 2) (w.heap.size + 2) (w.heap.size + 4) r) => rend_any (w.heap.size + 2) (w.heap.size + 4) r w' R)
      unfold clsEnd at A4
      clear hx HP0
      cases hz : r.all (· == 0) with
      | false =>
        have HP : Hid (opN l = none) := HP1.out.trans (if_neg (by rw [hz]; decide))
        replace A4 : Hid (∀ w', Rk w' (· < w.heap.size + 2) (w.heap.size + 2) (w.heap.size + 4) r → Calls Try.prog 67 #[.pointer (some ⟨w.heap.size + 4, 0, none⟩), .pointer (some ⟨w.heap.size + 2, 0, none⟩)] w' fun e w'' => Chg (· = w.heap.size + 2) w' w'' ∧ e = .panicked (thr 10)) := fun w' R => (A4.out w' R).mono (fun e w'' q => ⟨q.1, q.2.elim (fun u => absurd u.1 (by rw [hz]; decide)) (fun u => u.2)⟩)
        go_enter_defers Try.func39, Try.ntmps39
        go_upto_region 2 with fail
        generalize hW : (w.alloc _).alloc _ = W at *
        clear hW
        go_wp2_with (first
          | (go_at_call 54; with_reducible refine A1.out.mono ?_; rintro e w2 ⟨rfl, R2, b2⟩; have B3 := alloc_below w2 (.cells #[.func (.func 64) #[] #[.pointer (some ⟨w.heap.size + 4, 0, none⟩)], .func (.func 65) #[] #[.pointer (some ⟨w.heap.size + 4, 0, none⟩)], .func (.func 67) #[] #[.pointer (some ⟨w.heap.size + 4, 0, none⟩), .pointer (some ⟨w.heap.size + 2, 0, none⟩)]] 69); have hr2 := HRc.out w2; have A3 := hid (A2.out _ (R2.below B3)); have hlt2 := R2.lt; have hs3 := le1 (o := (.cells #[.func (.func 64) #[] #[.pointer (some ⟨w.heap.size + 4, 0, none⟩)], .func (.func 65) #[] #[.pointer (some ⟨w.heap.size + 4, 0, none⟩)], .func (.func 67) #[] #[.pointer (some ⟨w.heap.size + 4, 0, none⟩), .pointer (some ⟨w.heap.size + 2, 0, none⟩)]] 69)) (Nat.le_of_lt hlt2); have HBx := hid (b2.trans (B3.mono (Nat.le_of_lt hlt2))); clear R2 b2 B3)
          | (go_at_call 40; with_reducible refine A3.out.mono ?_; rintro e w4 ⟨C4, va, rfl, hnp, R4⟩; obtain ⟨p', c', hva, N4⟩ := hnp.parts; subst hva; have B5 := alloc_below w4 (.cells #[.slice p' d.length c', .int .i64 x] 77); have hr4 := below_cell B5 (C4.cell hr2 (Nat.ne_of_gt hlt2)); have A5 := hid (A4.out _ (R4.below B5)); have HN5 := hid (N4.below B5); have B4 := HBx.out.trans (C4.below (fun k e => Nat.le_of_eq e.symm) hs3); have hs4 := Nat.le_trans hs3 C4.size; have hlt4 := R4.lt; have HBy := hid (B4.trans (B5.mono hs4)); have hs5 := le1 (o := (.cells #[.slice p' d.length c', .int .i64 x] 77)) hs4; clear R4 C4 N4 B5 hnp B4)
          | (go_at_call 67; with_reducible refine A5.out.mono ?_; rintro e w6 ⟨C6, rfl⟩)
          | fail)
        obtain ⟨z0, z1, y0, y1, e0, e1⟩ := HN.out w6 (HBy.out.trans (C6.below (fun k e => Nat.le_of_eq e.symm) hs5))
        have hb5 := HBw.out w6 (HBy.out.trans (C6.below (fun k e => Nat.le_of_eq e.symm) hs5))
        refine leaves_cons (f := 60) (args := #[.pointer (some ⟨w.heap.size + 1, 0, none⟩)]) (by simp) (by simp [go_sem]) ?_
        refine (pcatch_panicking (w.heap.size + 1) 10 _ _ e0 e1).mono ?_
        rintro e u' w9 ⟨rfl, rfl, rfl⟩
        simp [Leaves, settle, results, Try.results39, go_sem, z0, z1, e0]
        exact pr_none HP.out (hb5.setCell (p := ⟨w.heap.size + 1, 0, none⟩) (Nat.le_succ _) _)
      | true =>
        have HP : Hid (opN l = some (d, x)) := HP1.out.trans (if_pos hz)
        replace A4 : Hid (∀ w', Rk w' (· < w.heap.size + 2) (w.heap.size + 2) (w.heap.size + 4) r → Calls Try.prog 67 #[.pointer (some ⟨w.heap.size + 4, 0, none⟩), .pointer (some ⟨w.heap.size + 2, 0, none⟩)] w' fun e w'' => Chg (· = w.heap.size + 2) w' w'' ∧ e = .returned (.tuple #[])) := fun w' R => (A4.out w' R).mono (fun e w'' q => ⟨q.1, q.2.elim (fun u => u.2) (fun u => absurd u.1 (by rw [hz]; decide))⟩)
        go_enter_defers Try.func39, Try.ntmps39
        go_upto_region 2 with fail
        generalize hW : (w.alloc _).alloc _ = W at *
        clear hW
        go_wp2_with (first
          | (go_at_call 54; with_reducible refine A1.out.mono ?_; rintro e w2 ⟨rfl, R2, b2⟩; have B3 := alloc_below w2 (.cells #[.func (.func 64) #[] #[.pointer (some ⟨w.heap.size + 4, 0, none⟩)], .func (.func 65) #[] #[.pointer (some ⟨w.heap.size + 4, 0, none⟩)], .func (.func 67) #[] #[.pointer (some ⟨w.heap.size + 4, 0, none⟩), .pointer (some ⟨w.heap.size + 2, 0, none⟩)]] 69); have hr2 := HRc.out w2; have A3 := hid (A2.out _ (R2.below B3)); have hlt2 := R2.lt; have hs3 := le1 (o := (.cells #[.func (.func 64) #[] #[.pointer (some ⟨w.heap.size + 4, 0, none⟩)], .func (.func 65) #[] #[.pointer (some ⟨w.heap.size + 4, 0, none⟩)], .func (.func 67) #[] #[.pointer (some ⟨w.heap.size + 4, 0, none⟩), .pointer (some ⟨w.heap.size + 2, 0, none⟩)]] 69)) (Nat.le_of_lt hlt2); have HBx := hid (b2.trans (B3.mono (Nat.le_of_lt hlt2))); clear R2 b2 B3)
          | (go_at_call 40; with_reducible refine A3.out.mono ?_; rintro e w4 ⟨C4, va, rfl, hnp, R4⟩; obtain ⟨p', c', hva, N4⟩ := hnp.parts; subst hva; have B5 := alloc_below w4 (.cells #[.slice p' d.length c', .int .i64 x] 77); have hr4 := below_cell B5 (C4.cell hr2 (Nat.ne_of_gt hlt2)); have A5 := hid (A4.out _ (R4.below B5)); have HN5 := hid (N4.below B5); have B4 := HBx.out.trans (C4.below (fun k e => Nat.le_of_eq e.symm) hs3); have hs4 := Nat.le_trans hs3 C4.size; have hlt4 := R4.lt; have HBy := hid (B4.trans (B5.mono hs4)); have hs5 := le1 (o := (.cells #[.slice p' d.length c', .int .i64 x] 77)) hs4; clear R4 C4 N4 B5 hnp B4)
          | (go_at_call 67; with_reducible refine A5.out.mono ?_; rintro e w6 ⟨C6, rfl⟩; have B6 := HBy.out.trans (C6.below (fun k e => Nat.le_of_eq e.symm) hs5); obtain ⟨z0, z1, y0, y1, e0, e1⟩ := HN.out w6 B6; have nt := new_two w4 (.slice p' d.length c') (.int .i64 x) 77; have t0 := C6.cell nt.1 (Nat.ne_of_gt hlt4); have t1 := C6.cell nt.2 (Nat.ne_of_gt hlt4); have HC6 := hid C6; have HB6 := hid (HBw.out w6 B6); clear C6 B6 nt)
          | fail)
        refine leaves_cons (f := 60) (args := #[.pointer (some ⟨w.heap.size + 1, 0, none⟩)]) (by simp) (by simp [go_sem]) ?_
        refine (pcatch_idle _ _).mono ?_
        rintro e u' w9 ⟨rfl, rfl, rfl⟩
        have NV6 : BV w6 (fun j => (w2.alloc (.cells #[.func (.func 64) #[] #[.pointer (some ⟨w.heap.size + 4, 0, none⟩)], .func (.func 65) #[] #[.pointer (some ⟨w.heap.size + 4, 0, none⟩)], .func (.func 67) #[] #[.pointer (some ⟨w.heap.size + 4, 0, none⟩), .pointer (some ⟨w.heap.size + 2, 0, none⟩)]] 69)).heap.size ≤ j) (.slice p' d.length c') d := HN5.out.kp (Kp.of_chg HC6.out (fun j hj e => by have h1 : (w2.alloc (.cells #[.func (.func 64) #[] #[.pointer (some ⟨w.heap.size + 4, 0, none⟩)], .func (.func 65) #[] #[.pointer (some ⟨w.heap.size + 4, 0, none⟩)], .func (.func 67) #[] #[.pointer (some ⟨w.heap.size + 4, 0, none⟩), .pointer (some ⟨w.heap.size + 2, 0, none⟩)]] 69)).heap.size ≤ j := hj; have h2 : j = w.heap.size + 2 := e; rw [size1] at h1; omega))
        rw [size1] at NV6
        simp [Leaves, settle, results, Try.results39, go_sem, z0, z1, e0]
        exact ⟨((HB6.out.setCell (p := ⟨w.heap.size, 0, none⟩) (Nat.le_refl _) _).setCell (p := ⟨w.heap.size, 1, none⟩) (Nat.le_refl _) _).setCell (p := ⟨w.heap.size + 1, 0, none⟩) (Nat.le_succ _) _, d, x, 0, p', c', rfl, (fin_bv2 (base := w2.heap.size + 1) NV6 (by omega) (Nat.le_refl _)).kp (Kp.of_set (fun h => by have h1 : w2.heap.size + 1 ≤ w.heap.size + 1 := h; omega)) |>.mono (fun j _ hj => by have h1 : w2.heap.size + 1 ≤ j := hj; omega), Or.inl ⟨HP.out, rfl⟩⟩
  · have HP : Hid (opN l = none) := if_neg hl
    have hl' : ¬ ((l.length : Int) = 508) := by omega
    go_enter_defers Try.func39, Try.ntmps39
    go_upto_region 2 with fail
    generalize hW : (w.alloc _).alloc _ = W at *
    clear hW
    go_wp2
    obtain ⟨z0, z1, y0, y1, e0, e1⟩ := HN.out _ (Below.refl _ _)
    have hb5 := HBw.out _ (Below.refl _ _)
    refine leaves_cons (f := 60) (args := #[.pointer (some ⟨w.heap.size + 1, 0, none⟩)]) (by simp) (by simp [go_sem]) ?_
    refine (pcatch_panicking (w.heap.size + 1) 10 _ _ e0 e1).mono ?_
    rintro e u' w9 ⟨rfl, rfl, rfl⟩
    simp [Leaves, settle, results, Try.results39, go_sem, z0, z1, e0]
    exact pr_none HP.out (hb5.setCell (p := ⟨w.heap.size + 1, 0, none⟩) (Nat.le_succ _) _)
set_option maxHeartbeats 4000000 in
theorem nopen_any {F : Nat → Prop} (v : Value) (l : List UInt8) (w : World) (h : BV w F v l) : Calls Try.prog 21 #[v] w (opEnd l w) := by
  have A1 := hid (pread_any v l w h)
  unfold prEnd at A1
  obtain ⟨p0, c0, rfl⟩ := h.shape
  clear h
  go_enter Try.func21, Try.ntmps21
  go_wp2_with (first
    | (go_at_call 39; with_reducible refine A1.out.mono ?_; rintro e w2 ⟨b2, d, x, er, p, c, rfl, N2, hd⟩; have B3 := alloc_below w2 (.cells #[.slice p d.length c, .int .i64 x] 77); have HN2 := hid (N2.below B3); have HD := hid hd; have HB2 := hid (b2.trans (B3.mono b2.size)); clear N2 hd b2 B3)
    | fail)
  all_goals go_region
  all_goals
    go_wp2
    go_returns
    exact ⟨HB2.out.drew, d, x, er, p, c, rfl, HN2.out.below (drew_below _), HD.out⟩
end Go.Proofs.Ytilmlegkkgiahaa
