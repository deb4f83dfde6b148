/- What Open's own work and newReader of package node do. Condition: the bytes lie within the reach. -/
import Derived.Test.YtilmlegkkgiahaaNdRPie
import Derived.Laws.EntriesVeiled
namespace Go.Proofs.Ytilmlegkkgiahaa
open Go.RowKit Go.Lib
set_option linter.unusedVariables false
set_option maxRecDepth 20000

theorem nr_cells (w : World) (o o' : Obj) {x a b c : Value} {t t' : TypeId} (ho : o = .cells #[x] t) (ho' : o' = .cells #[a, b, c] t') : ((w.alloc o).alloc o').cell? ⟨w.heap.size, 0, none⟩ = some x ∧ ((w.alloc o).alloc o').cell? ⟨w.heap.size + 1, 0, none⟩ = some a ∧ ((w.alloc o).alloc o').cell? ⟨w.heap.size + 1, 1, none⟩ = some b ∧ ((w.alloc o).alloc o').cell? ⟨w.heap.size + 1, 2, none⟩ = some c ∧ ∀ i, ((w.alloc o).alloc o').frozen? ⟨w.heap.size + 1, i, none⟩ = false := by
  subst ho ho'
  refine ⟨?_, ?_, ?_, ?_, fun i => ?_⟩ <;> simp [go_sem]
theorem new_one (w : World) (a : Value) (t : TypeId) : (w.alloc (.cells #[a] t)).cell? ⟨w.heap.size, 0, none⟩ = some a := by simp [go_sem]
theorem Rk.kept' {w w' : World} {rb tb : Nat} {l : List UInt8} {G : Nat → Prop} (h : Rk w (· < rb) rb tb l) (C : Chg G w w') (hG : ∀ k, G k → rb < k ∧ k ≠ tb) : Rk w' (· < rb) rb tb l := by
  have hl := h.lt
  obtain ⟨⟨v, c0, hb⟩, f0, t0, ne, nF⟩ := h
  have n1 : ¬ G rb := fun g => by have := hG _ g; omega
  have n2 : ¬ G tb := fun g => (hG _ g).2 rfl
  exact ⟨⟨v, C.cell c0 n1, hb.kp (Kp.of_chg C (fun k hk g => by have : k < rb := hk; have := hG _ g; omega))⟩, (C.frozen (p := ⟨rb, 0, none⟩) hl n1).trans f0, C.cell t0 n2, ne, nF⟩
theorem BV.reach {w : World} {F : Nat → Prop} {v : Value} {l : List UInt8} (h : BV w F v l) : l.length ≤ 140737488351232 := by
  obtain ⟨_, _, _, _, _, _, h⟩ := h
  exact h
theorem new_two (w : World) (a b : Value) (t : TypeId) : (w.alloc (.cells #[a, b] t)).cell? ⟨w.heap.size, 0, none⟩ = some a ∧ (w.alloc (.cells #[a, b] t)).cell? ⟨w.heap.size, 1, none⟩ = some b := by
  refine ⟨?_, ?_⟩ <;> simp [go_sem]
set_option maxHeartbeats 8000000 in
theorem owork_any (rb tb : Nat) (l : List UInt8) (w : World) (hR : Rk w (· < rb) rb tb l) :
    Calls Try.prog 40 #[.agg (rdc rb tb)] w (rdEnd (PieP w.heap.size) (· < rb) rb tb (pOpn l) w) := by
  have HB := hid (below2 w (.cells (rdc rb tb) 69) (.cells #[.slice none 0 0, .int .i64 0] 77))
  have HCW : Hid (Chg (· = rb) w ((w.alloc (.cells (rdc rb tb) 69)).alloc (.cells #[.slice none 0 0, .int .i64 0] 77))) := Chg.of_below HB.out
  have HR := hid (hR.below HB.out)
  have hrb := hR.lt
  have htb := hR.tlt
  have HWs : Hid (((w.alloc (.cells (rdc rb tb) 69)).alloc (.cells #[.slice none 0 0, .int .i64 0] 77)).heap.size = w.heap.size + 2) := by show _ = _; simp
  have HSr : Hid (∀ w', Chg (· = rb) ((w.alloc (.cells (rdc rb tb) 69)).alloc (.cells #[.slice none 0 0, .int .i64 0] 77)) w' → w'.cell? ⟨w.heap.size, 0, none⟩ = some (.func (.func 64) #[] #[.pointer (some ⟨tb, 0, none⟩)]) ∧ w'.cell? ⟨w.heap.size, 1, none⟩ = some (.func (.func 65) #[] #[.pointer (some ⟨tb, 0, none⟩)]) ∧ w'.cell? ⟨w.heap.size, 2, none⟩ = some (.func (.func 67) #[] #[.pointer (some ⟨tb, 0, none⟩), .pointer (some ⟨rb, 0, none⟩)])) := fun w' C =>
    have q := piece_boxes w rb tb
    ⟨C.cell q.1 (show ¬ w.heap.size = rb by omega), C.cell q.2.1 (show ¬ w.heap.size = rb by omega), C.cell q.2.2 (show ¬ w.heap.size = rb by omega)⟩
  have HZ : Hid (∀ w', Chg (· = rb) ((w.alloc (.cells (rdc rb tb) 69)).alloc (.cells #[.slice none 0 0, .int .i64 0] 77)) w' → w'.cell? ⟨w.heap.size + 1, 0, none⟩ = some (.slice none 0 0) ∧ w'.cell? ⟨w.heap.size + 1, 1, none⟩ = some (.int .i64 0) ∧ w'.frozen? ⟨w.heap.size + 1, 0, none⟩ = false ∧ w'.frozen? ⟨w.heap.size + 1, 1, none⟩ = false) := fun w' C =>
    have q := piece_res w (.cells (rdc rb tb) 69)
    ⟨C.cell q.1 (show ¬ w.heap.size + 1 = rb by omega), C.cell q.2.1 (show ¬ w.heap.size + 1 = rb by omega), (C.frozen (p := ⟨w.heap.size + 1, 0, none⟩) (by simp) (show ¬ w.heap.size + 1 = rb by omega)).trans q.2.2.1, (C.frozen (p := ⟨w.heap.size + 1, 1, none⟩) (by simp) (show ¬ w.heap.size + 1 = rb by omega)).trans q.2.2.2⟩
  clear hR
  generalize hres : pOpn l = res
  have HRes := hid hres.symm
  clear hres
  have A1 := hid (npiece_any rb tb l _ HR.out)
  unfold rdc at *
  go_enter Try.func40, Try.ntmps40
  go_upto_region 1 with fail
  generalize hW : (w.alloc _).alloc _ = W at *
  clear hW
  obtain ⟨x0, x1, x2⟩ := HSr.out W (Chg.refl _ _)
  unfold rdEnd at A1
  cases hx : pPie l with
  | none =>
    have HP : Hid (res = none) := by show _ = _; rw [HRes.out]; unfold pOpn; rw [hx]; rfl
    rw [hx] at A1
    simp only [] at A1
    clear hx
    go_wp2_with (first
      | (go_at_call 41; with_reducible refine A1.out.mono ?_; rintro e w2 ⟨C2, rfl⟩)
      | fail)
    exact ⟨rfl, rd_none HP.out (HCW.out.trans C2 (fun _ _ h => h))⟩
  | some nx =>
    obtain ⟨⟨d, x⟩, q⟩ := nx
    have HP1 : Hid (res = if pieceOk d x = true then some ((d, x), q) else none) := by show _ = _; rw [HRes.out]; unfold pOpn; rw [hx]; rfl
    rw [hx] at A1
    simp only [] at A1
    clear hx HRes
    have A2 := hid (fun w' p c (h : d.length ≤ 140737488351232) => isRight_any p d c x w' h)
    cases he : pieceOk d x with
    | true =>
      have HP : Hid (res = some ((d, x), q)) := HP1.out.trans (if_pos he)
      rw [he] at A2
      clear HP1
      go_wp2_with (first
        | (go_at_call 41; with_reducible refine A1.out.mono ?_; rintro e w2 ⟨C2, va, rfl, hnp, R2⟩; obtain ⟨p, c, hva, N2⟩ := hnp.parts; subst hva; have B3 := alloc_below w2 (.cells #[.slice p d.length c, .int .i64 x] 77); have HN3 := hid (N2.below B3); have HR3 := hid (R2.below B3); have C3 := C2.trans (Chg.of_below (F := (· = rb)) B3) (fun _ _ h => h); have HC3 := hid C3; have HC2 := hid C2; have A3 := hid (A2.out (w2.alloc (.cells #[.slice p d.length c, .int .i64 x] 77)) p c N2.reach); clear C2 C3 N2 R2 hnp B3)
        | (go_at_call 42; with_reducible refine A3.out.mono ?_; rintro e w4 ⟨rfl, hb4⟩; obtain ⟨z0, z1, y0, y1⟩ := HZ.out _ (HC3.out.trans (Chg.of_below (F := (· = rb)) hb4) (fun _ _ h => h)); have nt := new_two w2 (.slice p d.length c) (.int .i64 x) 77; have u0 := below_cell hb4 nt.1; have u1 := below_cell hb4 nt.2; have HB4 := hid hb4; clear hb4 nt)
        | fail)
      have hw2 : w.heap.size + 2 ≤ w2.heap.size := by rw [← HWs.out]; exact HC2.out.size
      refine bodyPost_ret (by simp [results, Try.results40, go_sem, z0, z1]; try rfl) rfl ?_
      exact rd_some HP.out ((HCW.out.trans (HC3.out.trans (Chg.of_below (F := (· = rb)) HB4.out) (fun _ _ h => h)) (fun _ _ h => h)).setCell (p := ⟨w.heap.size + 1, 0, none⟩) (Or.inr (show w.heap.size ≤ w.heap.size + 1 by omega)) _ |>.setCell (p := ⟨w.heap.size + 1, 1, none⟩) (Or.inr (show w.heap.size ≤ w.heap.size + 1 by omega)) _) ⟨_, rfl, fin_bv2 (HN3.out.below HB4.out) (by rw [HWs.out]; omega) (by rw [HWs.out]; omega)⟩ (((HR3.out.below HB4.out).put (chg_set1 _ _ _ _) (by omega) (by omega)).put (chg_set1 _ _ _ _) (by omega) (by omega))
    | false =>
      have HP : Hid (res = none) := HP1.out.trans (if_neg (by rw [he]; decide))
      rw [he] at A2
      clear HP1
      go_wp2_with (first
        | (go_at_call 41; with_reducible refine A1.out.mono ?_; rintro e w2 ⟨C2, va, rfl, hnp, R2⟩; obtain ⟨p, c, hva, N2⟩ := hnp.parts; subst hva; have B3 := alloc_below w2 (.cells #[.slice p d.length c, .int .i64 x] 77); have C3 := C2.trans (Chg.of_below (F := (· = rb)) B3) (fun _ _ h => h); have HC3 := hid C3; have A3 := hid (A2.out (w2.alloc (.cells #[.slice p d.length c, .int .i64 x] 77)) p c N2.reach); clear C2 C3 N2 R2 hnp B3)
        | (go_at_call 42; with_reducible refine A3.out.mono ?_; rintro e w4 ⟨rfl, hb4⟩; have HB4 := hid hb4; clear hb4)
        | fail)
      exact ⟨rfl, rd_none HP.out (HCW.out.trans (HC3.out.trans (Chg.of_below (F := (· = rb)) HB4.out) (fun _ _ h => h)) (fun _ _ h => h))⟩
/-- What newReader answers. -/
def nrEnd (l : List UInt8) (w : World) (e : Ending) (w' : World) : Prop := e = .returned (.agg (rdc w.heap.size (w.heap.size + 2))) ∧ Rk w' (· < w.heap.size) w.heap.size (w.heap.size + 2) l ∧ Below w.heap.size w w'
set_option maxHeartbeats 2000000 in
theorem newReader_any {F : Nat → Prop} (v : Value) (l : List UInt8) (w : World) (h : BV w F v l) : Calls Try.prog 54 #[v] w (nrEnd l w) := by
  have hmf : ∀ (fn : Fn) (first cap : Array Value) (w : World), (Instr.makeFunc fn first cap).run Try.prog w = .ok (.func fn first cap) w := fun _ _ _ _ => rfl
  have HV := hid h
  obtain ⟨p, c, rfl⟩ := h.shape
  clear h
  have HB := hid (below2 w (.cells #[.slice p l.length c] 31) (.cells #[.nilFunc, .nilFunc, .nilFunc] 69))
  have q := nr_cells w (.cells #[.slice p l.length c] 31) (.cells #[.nilFunc, .nilFunc, .nilFunc] 69) rfl rfl
  have HWs : Hid (((w.alloc (.cells #[.slice p l.length c] 31)).alloc (.cells #[.nilFunc, .nilFunc, .nilFunc] 69)).heap.size = w.heap.size + 2) := by show _ = _; simp
  have HF : Hid (∀ o, ((w.alloc (.cells #[.slice p l.length c] 31)).alloc (.cells #[.nilFunc, .nilFunc, .nilFunc] 69)).frozen? ⟨w.heap.size, o, none⟩ = false) := fun o => by simp [go_sem]
  go_enter Try.func54, Try.ntmps54
  go_upto_region 1 with fail
  generalize hW : (w.alloc _).alloc _ = W at *
  clear hW
  obtain ⟨q0, q1, q2, q3, qf⟩ := q
  have B3 := alloc_below W (.cells #[.func (.func 63) #[] #[.pointer (some ⟨w.heap.size, 0, none⟩)]] 62)
  have hlt : w.heap.size + 1 < W.heap.size := by rw [HWs.out]; omega
  have r1 := below_cell B3 q1
  have r2 := below_cell B3 q2
  have r3 := below_cell B3 q3
  have g0 := (B3.frozen (p := ⟨w.heap.size + 1, 0, none⟩) hlt).trans (qf 0)
  have g1 := (B3.frozen (p := ⟨w.heap.size + 1, 1, none⟩) hlt).trans (qf 1)
  have g2 := (B3.frozen (p := ⟨w.heap.size + 1, 2, none⟩) hlt).trans (qf 2)
  have hl0 : w.heap.size < W.heap.size := by omega
  have HR3 : Hid (Rk (W.alloc (.cells #[.func (.func 63) #[] #[.pointer (some ⟨w.heap.size, 0, none⟩)]] 62)) (· < w.heap.size) w.heap.size W.heap.size l) := ⟨⟨_, below_cell B3 q0, ((HV.out.mono (G := (· < w.heap.size)) (fun k hk _ => hk)).below HB.out).below B3⟩, (B3.frozen (p := ⟨w.heap.size, 0, none⟩) hl0).trans (HF.out 0), new_one W _ _, Nat.ne_of_gt hl0, Nat.lt_irrefl _⟩
  have HB3 := hid (HB.out.trans (B3.mono (Nat.le_of_lt hl0)))
  clear B3 q0 q1 q2 q3 qf
  go_upto_region 2 with fail
  generalize hW3 : W.alloc _ = W3 at *
  clear hW3
  go_wp2
  refine bodyPost_ret (by simp [results, Try.results54, go_sem, r1, r2, r3]; try rfl) rfl ?_
  unfold nrEnd rdc
  rw [← HWs.out]
  exact ⟨rfl, ((HR3.out.kept' (chg_set1 _ _ _ _) (fun k e => by have h2 : k = w.heap.size + 1 := e; have := HWs.out; omega)).kept' (chg_set1 _ _ _ _) (fun k e => by have h2 : k = w.heap.size + 1 := e; have := HWs.out; omega)).kept' (chg_set1 _ _ _ _) (fun k e => by have h2 : k = w.heap.size + 1 := e; have := HWs.out; omega), ((HB3.out.setCell (p := ⟨w.heap.size + 1, 0, none⟩) (Nat.le_succ _) _).setCell (p := ⟨w.heap.size + 1, 1, none⟩) (Nat.le_succ _) _).setCell (p := ⟨w.heap.size + 1, 2, none⟩) (Nat.le_succ _) _⟩
end Go.Proofs.Ytilmlegkkgiahaa
