/- What read of package node does over Decode's own work, and Decode: the node that a load is, or the error. Condition: the bytes lie within the reach. -/
import Derived.Test.YtilmlegkkgiahaaNdCatch
namespace Go.Proofs.Ytilmlegkkgiahaa
open Go.RowKit Go.Lib Go.Sort
set_option linter.unusedVariables false
set_option maxRecDepth 20000

/-- The node that a load is. -/
def decN (l : List UInt8) : Option Nd := if l.length = 508 then (pDec l).bind fun x => if x.2.all (· == 0) = true then some x.1 else none else none
/-- What Decode answers. -/
def dnEnd (l : List UInt8) (w : World) (e : Ending) (w' : World) : Prop :=
  Below w.heap.size w w' ∧ ∃ (n : Nd) (er : Int) (cv kv dv : Value), e = .returned (.tuple #[.agg #[.bool n.leaf, cv, kv, dv], .int .i64 er]) ∧ NV w' (w.heap.size ≤ ·) cv kv dv n ∧ ((decN l = some n ∧ er = 0) ∨ (decN l = none ∧ n = Nd.none ∧ er = 10))
theorem dn_none {l : List UInt8} {w w' : World} (h : decN l = none) (B : Below w.heap.size w w') : dnEnd l w (.returned (.tuple #[.agg #[.bool false, .slice none 0 0, .slice none 0 0, .slice none 0 0], .int .i64 10])) w' :=
  ⟨B, Nd.none, 10, _, _, _, rfl, NV.none _ _ false, Or.inr ⟨h, rfl, rfl⟩⟩
theorem NV.shapes {w : World} {F : Nat → Prop} {cv kv dv : Value} {n : Nd} (h : NV w F cv kv dv n) : ∃ pc cc pk ck pd cd, cv = .slice pc n.cells.length cc ∧ kv = .slice pk n.keys.length ck ∧ dv = .slice pd n.kids.length cd := by
  obtain ⟨⟨pc, cc, h1, _⟩, ⟨pk, ck, h2, _⟩, ⟨pd, cd, h3, _⟩⟩ := h
  exact ⟨pc, cc, pk, ck, pd, cd, h1, h2, h3⟩
theorem res_two (w : World) (o : Obj) (x : Value) (t : TypeId) : ((w.alloc o).alloc (.cells #[x] t)).cell? ⟨w.heap.size + 1, 0, none⟩ = some x ∧ ((w.alloc o).alloc (.cells #[x] t)).frozen? ⟨w.heap.size + 1, 0, none⟩ = false := by
  refine ⟨?_, ?_⟩ <;> simp [go_sem]
set_option maxHeartbeats 8000000 in
theorem nread_any {F : Nat → Prop} (v : Value) (l : List UInt8) (w : World) (h : BV w F v l) :
    Calls Try.prog 35 #[v, .func (.func 36) #[] #[]] w (dnEnd l w) := by
  have hmf : ∀ (fn : Fn) (first cap : Array Value) (w : World), (Instr.makeFunc fn first cap).run Try.prog w = .ok (.func fn first cap) w := fun _ _ _ _ => rfl
  have HB := hid (below2 w (.cells #[.bool false, .slice none 0 0, .slice none 0 0, .slice none 0 0] 29) (.cells #[.int .i64 0] 32))
  have HWs : Hid (((w.alloc (.cells #[.bool false, .slice none 0 0, .slice none 0 0, .slice none 0 0] 29)).alloc (.cells #[.int .i64 0] 32)).heap.size = w.heap.size + 2) := by show _ = _; simp
  have HN : Hid (∀ w', Below (w.heap.size + 2) ((w.alloc (.cells #[.bool false, .slice none 0 0, .slice none 0 0, .slice none 0 0] 29)).alloc (.cells #[.int .i64 0] 32)) w' → Bw w' w.heap.size (.bool false) (.slice none 0 0) (.slice none 0 0) (.slice none 0 0) ∧ w'.cell? ⟨w.heap.size + 1, 0, none⟩ = some (.int .i64 0) ∧ w'.frozen? ⟨w.heap.size + 1, 0, none⟩ = false) := fun w' B => by
    have q := res_two w (.cells #[.bool false, .slice none 0 0, .slice none 0 0, .slice none 0 0] 29) (.int .i64 0) 32
    have B' : Below ((w.alloc (.cells #[.bool false, .slice none 0 0, .slice none 0 0, .slice none 0 0] 29)).alloc (.cells #[.int .i64 0] 32)).heap.size ((w.alloc (.cells #[.bool false, .slice none 0 0, .slice none 0 0, .slice none 0 0] 29)).alloc (.cells #[.int .i64 0] 32)) w' := by rw [HWs.out]; exact B
    exact ⟨((Bw.new w (.bool false) (.slice none 0 0) (.slice none 0 0) (.slice none 0 0) 29).alc (.cells #[.int .i64 0] 32)).bel B', below_cell B' q.1, (B'.frozen (p := ⟨w.heap.size + 1, 0, none⟩) (by simp)).trans q.2⟩
  have HBw : Hid (∀ w', Below (w.heap.size + 2) ((w.alloc (.cells #[.bool false, .slice none 0 0, .slice none 0 0, .slice none 0 0] 29)).alloc (.cells #[.int .i64 0] 32)) w' → Below w.heap.size w w') := fun w' B => HB.out.trans (B.mono (Nat.le_add_right _ _))
  have HV := hid (h.below HB.out)
  obtain ⟨p, c, rfl⟩ := h.shape
  have hlen := h.reach
  have A1 := hid (newReader_any _ l _ HV.out)
  unfold nrEnd at A1
  rw [HWs.out, show w.heap.size + 2 + 2 = w.heap.size + 4 from rfl] at A1
  clear h
  by_cases hl : l.length = 508
  · have A2 := hid (fun w' (R : Rk w' (· < w.heap.size + 2) (w.heap.size + 2) (w.heap.size + 4) l) => dwork_any (w.heap.size + 2) (w.heap.size + 4) l w' R)
    have HP0 : Hid (decN l = (pDec l).bind fun x => if x.2.all (· == 0) = true then some x.1 else none) := if_pos hl
    have HRc := hid (fun w' => (rdc_cells w' (w.heap.size + 2) (w.heap.size + 4)).2.2)
    unfold rdEnd at A2
    unfold rdc at *
    generalize hL : l.length = L at *
    subst hl
    clear hL hlen
    cases hx : pDec l with
    | none =>
      have HP : Hid (decN l = none) := by show _ = _; rw [HP0.out, hx]; rfl
      rw [hx] at A2
      simp only [] at A2
      clear hx HP0
      go_enter_defers Try.func35, Try.ntmps35
      go_upto_region 2 with fail
      generalize hW : (w.alloc _).alloc _ = W at *
      clear hW
      go_wp2_with (first
        | (go_at_call 54; with_reducible refine A1.out.mono ?_; rintro e w2 ⟨rfl, R2, b2⟩; have B3 := alloc_below w2 (.cells #[.func (.func 64) #[] #[.pointer (some ⟨w.heap.size + 4, 0, none⟩)], .func (.func 65) #[] #[.pointer (some ⟨w.heap.size + 4, 0, none⟩)], .func (.func 67) #[] #[.pointer (some ⟨w.heap.size + 4, 0, none⟩), .pointer (some ⟨w.heap.size + 2, 0, none⟩)]] 69); have hr2 := HRc.out w2; have A3 := hid (A2.out _ (R2.below B3)); have hlt2 := R2.lt; have hs3 := le1 (o := (.cells #[.func (.func 64) #[] #[.pointer (some ⟨w.heap.size + 4, 0, none⟩)], .func (.func 65) #[] #[.pointer (some ⟨w.heap.size + 4, 0, none⟩)], .func (.func 67) #[] #[.pointer (some ⟨w.heap.size + 4, 0, none⟩), .pointer (some ⟨w.heap.size + 2, 0, none⟩)]] 69)) (Nat.le_of_lt hlt2); have HBx := hid (b2.trans (B3.mono (Nat.le_of_lt hlt2))); clear R2 b2 B3)
        | (go_at_call 36; with_reducible refine A3.out.mono ?_; rintro e w4 ⟨C4, rfl⟩)
        | fail)
      have NB := HN.out w4 (HBx.out.trans (C4.below (fun k e => Nat.le_of_eq e.symm) hs3))
      have hb5 := HBw.out w4 (HBx.out.trans (C4.below (fun k e => Nat.le_of_eq e.symm) hs3))
      refine leaves_cons (f := 53) (args := #[.pointer (some ⟨w.heap.size + 1, 0, none⟩)]) (by simp) (by simp [go_sem]) ?_
      refine (ncatch_panicking (w.heap.size + 1) 10 _ _ NB.2.1 NB.2.2).mono ?_
      rintro e u' w9 ⟨rfl, rfl, rfl⟩
      obtain ⟨⟨z0, z1, z2, z3⟩, zf⟩ := NB.1.chg (chg_set1 w4 (w.heap.size + 1) 0 (.int .i64 10)) (show ¬ w.heap.size = w.heap.size + 1 by omega)
      have e0 := NB.2.1
      simp [Leaves, settle, results, Try.results35, go_sem, z0, z1, z2, z3, e0]
      exact dn_none HP.out (hb5.setCell (p := ⟨w.heap.size + 1, 0, none⟩) (Nat.le_succ _) _)
    | some x =>
      obtain ⟨n, r⟩ := x
      have HP1 : Hid (decN l = if r.all (· == 0) = true then some n else none) := by show _ = _; rw [HP0.out, hx]; rfl
      rw [hx] at A2
      simp only [] at A2
      have A4 := hid (fun w' (R : Rk w' (· < w.heap.size + 2) (w.heap.size + 2) (w.heap.size + 4) r) => rend_any (w.heap.size + 2) (w.heap.size + 4) r w' R)
      unfold clsEnd at A4
      clear hx HP0
      cases hz : r.all (· == 0) with
      | false =>
        have HP : Hid (decN l = none) := HP1.out.trans (if_neg (by rw [hz]; decide))
        go_enter_defers Try.func35, Try.ntmps35
        go_upto_region 2 with fail
        generalize hW : (w.alloc _).alloc _ = W at *
        clear hW
        go_wp2_with (first
          | (go_at_call 54; with_reducible refine A1.out.mono ?_; rintro e w2 ⟨rfl, R2, b2⟩; have B3 := alloc_below w2 (.cells #[.func (.func 64) #[] #[.pointer (some ⟨w.heap.size + 4, 0, none⟩)], .func (.func 65) #[] #[.pointer (some ⟨w.heap.size + 4, 0, none⟩)], .func (.func 67) #[] #[.pointer (some ⟨w.heap.size + 4, 0, none⟩), .pointer (some ⟨w.heap.size + 2, 0, none⟩)]] 69); have hr2 := HRc.out w2; have A3 := hid (A2.out _ (R2.below B3)); have hlt2 := R2.lt; have hs3 := le1 (o := (.cells #[.func (.func 64) #[] #[.pointer (some ⟨w.heap.size + 4, 0, none⟩)], .func (.func 65) #[] #[.pointer (some ⟨w.heap.size + 4, 0, none⟩)], .func (.func 67) #[] #[.pointer (some ⟨w.heap.size + 4, 0, none⟩), .pointer (some ⟨w.heap.size + 2, 0, none⟩)]] 69)) (Nat.le_of_lt hlt2); have HBx := hid (b2.trans (B3.mono (Nat.le_of_lt hlt2))); clear R2 b2 B3)
          | (go_at_call 36; with_reducible refine A3.out.mono ?_; rintro e w4 ⟨C4, va, rfl, hnp, R4⟩; obtain ⟨pc, cc, pk, ck, pd, cd, hva, N4⟩ := hnp.parts; subst hva; have B5 := alloc_below w4 (.cells #[.bool n.leaf, .slice pc n.cells.length cc, .slice pk n.keys.length ck, .slice pd n.kids.length cd] 29); have hr4 := below_cell B5 (C4.cell hr2 (Nat.ne_of_gt hlt2)); have A5 := hid (A4.out _ (R4.below B5)); have HN5 := hid (N4.below B5); have B4 := HBx.out.trans (C4.below (fun k e => Nat.le_of_eq e.symm) hs3); have hs4 := Nat.le_trans hs3 C4.size; have hlt4 := R4.lt; have HBy := hid (B4.trans (B5.mono hs4)); have hs5 := le1 (o := (.cells #[.bool n.leaf, .slice pc n.cells.length cc, .slice pk n.keys.length ck, .slice pd n.kids.length cd] 29)) hs4; clear R4 C4 N4 B5 hnp B4)
          | (go_at_call 67; with_reducible refine A5.out.mono ?_; rintro e w6 ⟨C6, he⟩; obtain ⟨h1, _⟩ | ⟨_, rfl⟩ := he; · exact absurd h1 (by rw [hz]; decide))
          | fail)
        have NB := HN.out w6 (HBy.out.trans (C6.below (fun k e => Nat.le_of_eq e.symm) hs5))
        have hb5 := HBw.out w6 (HBy.out.trans (C6.below (fun k e => Nat.le_of_eq e.symm) hs5))
        refine leaves_cons (f := 53) (args := #[.pointer (some ⟨w.heap.size + 1, 0, none⟩)]) (by simp) (by simp [go_sem]) ?_
        refine (ncatch_panicking (w.heap.size + 1) 10 _ _ NB.2.1 NB.2.2).mono ?_
        rintro e u' w9 ⟨rfl, rfl, rfl⟩
        obtain ⟨⟨z0, z1, z2, z3⟩, zf⟩ := NB.1.chg (chg_set1 w6 (w.heap.size + 1) 0 (.int .i64 10)) (show ¬ w.heap.size = w.heap.size + 1 by omega)
        have e0 := NB.2.1
        simp [Leaves, settle, results, Try.results35, go_sem, z0, z1, z2, z3, e0]
        exact dn_none HP.out (hb5.setCell (p := ⟨w.heap.size + 1, 0, none⟩) (Nat.le_succ _) _)
      | true =>
        have HP : Hid (decN l = some n) := HP1.out.trans (if_pos hz)
        replace A4 : Hid (∀ w', Rk w' (· < w.heap.size + 2) (w.heap.size + 2) (w.heap.size + 4) r → Calls Try.prog 67 #[.pointer (some ⟨w.heap.size + 4, 0, none⟩), .pointer (some ⟨w.heap.size + 2, 0, none⟩)] w' fun e w'' => Chg (· = w.heap.size + 2) w' w'' ∧ e = .returned (.tuple #[])) := fun w' R => (A4.out w' R).mono (fun e w'' q => ⟨q.1, q.2.elim (fun u => u.2) (fun u => absurd u.1 (by rw [hz]; decide))⟩)
        go_enter_defers Try.func35, Try.ntmps35
        go_upto_region 2 with fail
        generalize hW : (w.alloc _).alloc _ = W at *
        clear hW
        go_wp2_with (first
          | (go_at_call 54; with_reducible refine A1.out.mono ?_; rintro e w2 ⟨rfl, R2, b2⟩; have B3 := alloc_below w2 (.cells #[.func (.func 64) #[] #[.pointer (some ⟨w.heap.size + 4, 0, none⟩)], .func (.func 65) #[] #[.pointer (some ⟨w.heap.size + 4, 0, none⟩)], .func (.func 67) #[] #[.pointer (some ⟨w.heap.size + 4, 0, none⟩), .pointer (some ⟨w.heap.size + 2, 0, none⟩)]] 69); have hr2 := HRc.out w2; have A3 := hid (A2.out _ (R2.below B3)); have hlt2 := R2.lt; have hs3 := le1 (o := (.cells #[.func (.func 64) #[] #[.pointer (some ⟨w.heap.size + 4, 0, none⟩)], .func (.func 65) #[] #[.pointer (some ⟨w.heap.size + 4, 0, none⟩)], .func (.func 67) #[] #[.pointer (some ⟨w.heap.size + 4, 0, none⟩), .pointer (some ⟨w.heap.size + 2, 0, none⟩)]] 69)) (Nat.le_of_lt hlt2); have HBx := hid (b2.trans (B3.mono (Nat.le_of_lt hlt2))); clear R2 b2 B3)
          | (go_at_call 36; with_reducible refine A3.out.mono ?_; rintro e w4 ⟨C4, va, rfl, hnp, R4⟩; obtain ⟨pc, cc, pk, ck, pd, cd, hva, N4⟩ := hnp.parts; subst hva; have B5 := alloc_below w4 (.cells #[.bool n.leaf, .slice pc n.cells.length cc, .slice pk n.keys.length ck, .slice pd n.kids.length cd] 29); have hr4 := below_cell B5 (C4.cell hr2 (Nat.ne_of_gt hlt2)); have A5 := hid (A4.out _ (R4.below B5)); have HN5 := hid (N4.below B5); have B4 := HBx.out.trans (C4.below (fun k e => Nat.le_of_eq e.symm) hs3); have hs4 := Nat.le_trans hs3 C4.size; have hlt4 := R4.lt; have HBy := hid (B4.trans (B5.mono hs4)); have hs5 := le1 (o := (.cells #[.bool n.leaf, .slice pc n.cells.length cc, .slice pk n.keys.length ck, .slice pd n.kids.length cd] 29)) hs4; clear R4 C4 N4 B5 hnp B4)
          | (go_at_call 67; with_reducible refine A5.out.mono ?_; rintro e w6 ⟨C6, rfl⟩; have B6 := HBy.out.trans (C6.below (fun k e => Nat.le_of_eq e.symm) hs5); have NB := HN.out w6 B6; obtain ⟨⟨z0, z1, z2, z3⟩, zf⟩ := NB.1; have y0 := zf 0; have y1 := zf 1; have y2 := zf 2; have y3 := zf 3; have e0 := NB.2.1; have e1 := NB.2.2; have T6 := (Bw.new w4 (.bool n.leaf) (.slice pc n.cells.length cc) (.slice pk n.keys.length ck) (.slice pd n.kids.length cd) 29).chg C6 (Nat.ne_of_gt hlt4); obtain ⟨⟨t0, t1, t2, t3⟩, _⟩ := T6; have HC6 := hid C6; have HB6 := hid (HBw.out w6 B6); clear C6 B6 NB zf)
          | fail)
        refine leaves_cons (f := 53) (args := #[.pointer (some ⟨w.heap.size + 1, 0, none⟩)]) (by simp) (by simp [go_sem]) ?_
        refine (ncatch_idle _ _).mono ?_
        rintro e u' w9 ⟨rfl, rfl, rfl⟩
        have hb9 := HC6.out.size
        have NV6 : NV w6 (fun j => (w2.alloc (.cells #[.func (.func 64) #[] #[.pointer (some ⟨w.heap.size + 4, 0, none⟩)], .func (.func 65) #[] #[.pointer (some ⟨w.heap.size + 4, 0, none⟩)], .func (.func 67) #[] #[.pointer (some ⟨w.heap.size + 4, 0, none⟩), .pointer (some ⟨w.heap.size + 2, 0, none⟩)]] 69)).heap.size ≤ j) (.slice pc n.cells.length cc) (.slice pk n.keys.length ck) (.slice pd n.kids.length cd) n := HN5.out.kp (Kp.of_chg HC6.out (fun j hj e => by have h1 : (w2.alloc (.cells #[.func (.func 64) #[] #[.pointer (some ⟨w.heap.size + 4, 0, none⟩)], .func (.func 65) #[] #[.pointer (some ⟨w.heap.size + 4, 0, none⟩)], .func (.func 67) #[] #[.pointer (some ⟨w.heap.size + 4, 0, none⟩), .pointer (some ⟨w.heap.size + 2, 0, none⟩)]] 69)).heap.size ≤ j := hj; have h2 : j = w.heap.size + 2 := e; rw [size1] at h1; omega))
        rw [size1] at NV6
        simp [Leaves, settle, results, Try.results35, go_sem, z0, z1, z2, z3, e0]
        exact ⟨(bel_put4 HB6.out (Nat.le_refl _) _ _ _ _).setCell (p := ⟨w.heap.size + 1, 0, none⟩) (Nat.le_succ _) _, n, 0, _, _, _, rfl, ((NV6.kp (Kp.of_chg (chg4 _ _ _ _ _ _) (fun j hj e => by have h1 : w2.heap.size + 1 ≤ j := hj; have h2 : j = w.heap.size := e; omega))).kp (Kp.of_set (fun h => by have h1 : w2.heap.size + 1 ≤ w.heap.size + 1 := h; omega))).mono (fun j _ hj => by have h1 : w2.heap.size + 1 ≤ j := hj; omega), Or.inl ⟨HP.out, rfl⟩⟩
  · have HP : Hid (decN l = none) := if_neg hl
    have hl' : ¬ ((l.length : Int) = 508) := by omega
    go_enter_defers Try.func35, Try.ntmps35
    go_upto_region 2 with fail
    generalize hW : (w.alloc _).alloc _ = W at *
    clear hW
    go_wp2
    have NB := HN.out _ (Below.refl _ _)
    have hb5 := HBw.out _ (Below.refl _ _)
    refine leaves_cons (f := 53) (args := #[.pointer (some ⟨w.heap.size + 1, 0, none⟩)]) (by simp) (by simp [go_sem]) ?_
    refine (ncatch_panicking (w.heap.size + 1) 10 _ _ NB.2.1 NB.2.2).mono ?_
    rintro e u' w9 ⟨rfl, rfl, rfl⟩
    obtain ⟨⟨z0, z1, z2, z3⟩, zf⟩ := NB.1.chg (chg_set1 _ (w.heap.size + 1) 0 (.int .i64 10)) (show ¬ w.heap.size = w.heap.size + 1 by omega)
    have e0 := NB.2.1
    simp [Leaves, settle, results, Try.results35, go_sem, z0, z1, z2, z3, e0]
    exact dn_none HP.out (hb5.setCell (p := ⟨w.heap.size + 1, 0, none⟩) (Nat.le_succ _) _)
set_option maxHeartbeats 4000000 in
theorem ndecode_any {F : Nat → Prop} (v : Value) (l : List UInt8) (w : World) (h : BV w F v l) : Calls Try.prog 19 #[v] w (dnEnd l w) := by
  have B0 := alloc_below w (.cells #[.bool false, .slice none 0 0, .slice none 0 0, .slice none 0 0] 29)
  have A1 := hid (nread_any v l _ (h.below B0))
  have HX := hid (Bw.new w (.bool false) (.slice none 0 0) (.slice none 0 0) (.slice none 0 0) 29)
  unfold dnEnd at A1
  obtain ⟨p, c, rfl⟩ := h.shape
  have HB := hid B0
  clear h B0
  go_enter Try.func19, Try.ntmps19
  go_wp2_with (first
    | (go_at_call 35; with_reducible refine A1.out.mono ?_; rintro e w2 ⟨b2, n, er, cv, kv, dv, rfl, N2, hd⟩; obtain ⟨p1, m1, p2', m2, p3, m3, hv1, hv2, hv3⟩ := N2.shapes; subst hv1 hv2 hv3; have X2 := HX.out.bel b2; obtain ⟨⟨z0, z1, z2, z3⟩, zf⟩ := X2; have y0 := zf 0; have y1 := zf 1; have y2 := zf 2; have y3 := zf 3; have HN2 := hid N2; have HD := hid hd; have HB2 := hid b2; clear N2 hd b2)
    | fail)
  refine bodyPost_ret (by simp [results, Try.results19, go_sem, z0, z1, z2, z3]; try rfl) rfl ?_
  have hB := below_new HB2.out
  exact ⟨bel_put4 hB (Nat.le_refl _) _ _ _ _, n, er, _, _, _, rfl, fin_nv HN2.out (by simp) (by simp), HD.out⟩
end Go.Proofs.Ytilmlegkkgiahaa
