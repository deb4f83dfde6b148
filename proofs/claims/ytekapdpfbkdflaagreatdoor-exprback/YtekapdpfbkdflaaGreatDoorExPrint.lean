/- What Print of package expr answers. Conditions: the tables lie in memory as their text lays them; the values and the bytes lie within the reach. -/
import Derived.Test.YtekapdpfbkdflaaGreatDoorXQ
import Derived.Deep.DeepHandedRow
namespace Go.Proofs.YtekapdpfbkdflaaGreatDoor
open Go.RowKit Go.Lib Go.Sort
set_option linter.unusedVariables false
set_option maxRecDepth 20000

theorem byteCells_b (l : List UInt8) : byteCells l = bcells l := rfl
theorem cellsByte1 : Tryz.prog.cellsOf 5 = 1 := by kernel_rfl
set_option maxHeartbeats 2000000 in
theorem wstr_row {F : Nat → Prop} {b g cap : Nat} {l : List UInt8} {w : World} {p : Value} {cur : Array Value} (h0 : l ≠ []) (hb : w.heap[b]? = some (.cells #[p, .slice (some ⟨g, 0, none⟩) l.length cap] 72 (0, 0))) (hg : w.heap[g]? = some (.cells cur 5 (0, 0))) (hL : LB w 0 (.slice (some ⟨g, 0, none⟩) l.length cap) l) (hc : l.length ≤ cap) (hcm : cap ≤ maxLen) (hcs : cur.size = cap * 1) (hF : F g) :
    Calls Tryz.prog 22 #[.pointer (some ⟨b, 0, none⟩)] w fun e w' => e = .returned (.string ⟨l.toArray⟩) ∧ Chg F w w' := by
  have hl0 : l.length ≠ 0 := by simpa using h0
  have c1 : w.drew.cell? ⟨b, 1, none⟩ = some (.slice (some ⟨g, 0, none⟩) l.length cap) := by
    rw [Lib.cell_of_heap (show w.drew.heap[b]? = _ from hb)]; rfl
  have hSD : (Builtin.unsafeSliceData_ #[68] 93 #[.slice (some ⟨g, 0, none⟩) l.length cap]).run Tryz.prog w.drew = .ok (.pointer (some ⟨g, 0, none⟩)) w.drew :=
    Lib.run_unsafeSliceData_row _ _ _ _ _ _ (by omega)
  have hUS : (Builtin.unsafeString_ #[93, 3] 9 #[.pointer (some ⟨g, 0, none⟩), .int .i64 l.length]).run Tryz.prog w.drew = .ok (.string ⟨l.toArray⟩) (w.drew.freeze ⟨g, 0, none⟩ l.length) := by
    refine Lib.run_unsafeString_row w.drew 93 3 9 5 Tryz.underlying93 cellsByte1 g cur.size (by have hg' : w.drew.heap[g]? = some (.cells cur 5 (0, 0)) := hg; simp [World.shape?, hg']) l h0 (by omega) (by unfold maxLen at hcm; omega) ?_
    intro j x hx
    exact World.ownsRow.cells (g := g) hL rfl j (.int .u8 x.toNat) (by simp [bcells, hx])
  have C : Chg F w (w.drew.freeze ⟨g, 0, none⟩ l.length) := by
    have B := Lib.below_freeze (B := g) (a := w) (w := w.drew) ((Below.refl g w).drew) (p := ⟨g, 0, none⟩) (Nat.le_refl _) l.length
    refine ⟨B.os, B.tape, B.output, B.size, fun k hk hn => ?_⟩
    have hkg : k ≠ g := fun e => hn (by rw [e]; exact hF)
    show (w.drew.freeze ⟨g, 0, none⟩ l.length).heap[k]? = w.drew.heap[k]?
    generalize w.drew = X
    unfold World.freeze
    split
    · rfl
    · simp only [Array.getElem?_modify]
      rw [if_neg (Ne.symm hkg)]
  clear hcs hL hg hb
  go_enter Tryz.func22, Tryz.ntmps22
  go_wp2
  go_region
  all_goals (go_wp2; go_ret; exact ⟨rfl, C⟩)
theorem unsafeStr_none (W : World) (q : Option Addr) : (Builtin.unsafeString_ #[93, 3] 9 #[.pointer q, .int .i64 0]).run Tryz.prog W = .ok (.string .empty) W :=
  Lib.run_unsafeString_none W _ _ _ q
set_option maxHeartbeats 2000000 in
theorem wstr_nil {F : Nat → Prop} {b : Nat} {w : World} {p : Value} (hb : w.heap[b]? = some (.cells #[p, .slice none 0 0] 72 (0, 0))) :
    Calls Tryz.prog 22 #[.pointer (some ⟨b, 0, none⟩)] w fun e w' => e = .returned (.string ⟨#[]⟩) ∧ Chg F w w' := by
  have hUS := unsafeStr_none
  have c1 : w.drew.cell? ⟨b, 1, none⟩ = some (.slice none 0 0) := by
    rw [Lib.cell_of_heap (show w.drew.heap[b]? = _ from hb)]; rfl
  have hSD : (Builtin.unsafeSliceData_ #[68] 93 #[.slice none 0 0]).run Tryz.prog w.drew = .ok (.pointer none) w.drew := rfl
  clear hb
  go_enter Tryz.func22, Tryz.ntmps22
  go_wp2
  go_region
  all_goals (go_wp2; go_ret; exact ⟨rfl, (Chg.refl F w).drew⟩)
set_option maxHeartbeats 2000000 in
theorem wstr_room {F : Nat → Prop} {b g cap : Nat} {w : World} {p : Value} (hc : cap ≠ 0) (hb : w.heap[b]? = some (.cells #[p, .slice (some ⟨g, 0, none⟩) 0 cap] 72 (0, 0))) :
    Calls Tryz.prog 22 #[.pointer (some ⟨b, 0, none⟩)] w fun e w' => e = .returned (.string ⟨#[]⟩) ∧ Chg F w w' := by
  have hUS := unsafeStr_none
  have c1 : w.drew.cell? ⟨b, 1, none⟩ = some (.slice (some ⟨g, 0, none⟩) 0 cap) := by
    rw [Lib.cell_of_heap (show w.drew.heap[b]? = _ from hb)]; rfl
  have hSD : (Builtin.unsafeSliceData_ #[68] 93 #[.slice (some ⟨g, 0, none⟩) 0 cap]).run Tryz.prog w.drew = .ok (.pointer (some ⟨g, 0, none⟩)) w.drew :=
    Lib.run_unsafeSliceData_row _ _ _ _ _ _ hc
  clear hb hc
  go_enter Tryz.func22, Tryz.ntmps22
  go_wp2
  go_region
  all_goals (go_wp2; go_ret; exact ⟨rfl, (Chg.refl F w).drew⟩)
set_option maxHeartbeats 2000000 in
theorem wstr_noroom {F : Nat → Prop} {b g : Nat} {w : World} {p : Value} {cur : Array Value} (hb : w.heap[b]? = some (.cells #[p, .slice (some ⟨g, 0, none⟩) 0 0] 72 (0, 0))) (hg : w.heap[g]? = some (.cells cur 5 (0, 0))) :
    Calls Tryz.prog 22 #[.pointer (some ⟨b, 0, none⟩)] w fun e w' => e = .returned (.string ⟨#[]⟩) ∧ Chg F w w' := by
  have hUS := unsafeStr_none
  have hlt : b < w.heap.size := (Array.getElem?_eq_some_iff.1 hb).1
  have c1 : w.drew.cell? ⟨b, 1, none⟩ = some (.slice (some ⟨g, 0, none⟩) 0 0) := by
    rw [Lib.cell_of_heap (show w.drew.heap[b]? = _ from hb)]; rfl
  have hSD : (Builtin.unsafeSliceData_ #[68] 93 #[.slice (some ⟨g, 0, none⟩) 0 0]).run Tryz.prog w.drew = .ok (.pointer (some ⟨w.drew.heap.size, 0, none⟩)) (w.drew.alloc (.view ⟨g, 0, none⟩ 5)) :=
    Lib.run_unsafeSliceData_zero w.drew _ _ 5 Tryz.underlying93 ⟨g, 0, none⟩ 0 (5, cur.size) (by have hg' : w.drew.heap[g]? = some (.cells cur 5 (0, 0)) := hg; simp [World.shape?, hg'])
  have c2 : (w.drew.alloc (.view ⟨g, 0, none⟩ 5)).cell? ⟨b, 1, none⟩ = some (.slice (some ⟨g, 0, none⟩) 0 0) := by
    rw [Lib.cell_of_heap (show (w.drew.alloc (.view ⟨g, 0, none⟩ 5)).heap[b]? = _ from (Lib.alloc_old w.drew _ b hlt).trans hb)]; rfl
  have c3 : (w.alloc (.view ⟨g, 0, none⟩ 5)).drew.cell? ⟨b, 1, none⟩ = some (.slice (some ⟨g, 0, none⟩) 0 0) := c2
  have c0 : w.cell? ⟨b, 1, none⟩ = some (.slice (some ⟨g, 0, none⟩) 0 0) := c1
  clear hb hg
  go_enter Tryz.func22, Tryz.ntmps22
  go_wp2
  go_region
  all_goals (go_wp2; go_ret; exact ⟨rfl, ((Chg.refl F w).drew).alloc _⟩)
theorem wstr_any {F : Nat → Prop} {b : Nat} {l : List UInt8} {w : World} (h : WF F b l w) :
    Calls Tryz.prog 22 #[.pointer (some ⟨b, 0, none⟩)] w fun e w' => e = .returned (.string ⟨l.toArray⟩) ∧ Chg F w w' := by
  obtain ⟨h0, p, v, hb, hp, hL, hne, hF⟩ := h
  have hL' := hL
  obtain ⟨h1, h2⟩ := hL
  rcases h2 with ⟨rfl, hz⟩ | ⟨g, cap, cur, rfl, hg0, hg, hc, hcm, hcs, ht⟩
  · obtain rfl : l = [] := List.length_eq_zero_iff.1 hz
    exact wstr_nil hb
  · by_cases hl : l = []
    · subst hl
      by_cases hc0 : cap = 0
      · subst hc0
        exact wstr_noroom hb hg
      · exact wstr_room hc0 hb
    · exact wstr_row hl hb hg hL' hc hcm hcs (hF g rfl)
set_option maxHeartbeats 4000000 in
/-- Print. -/
theorem print_any {w : World} (m : Nat) (e : Ex) (p : Option Addr) (c : Nat) (ok : OkE m e) (eat : EAt w (fun _ => True) m e p) (gl : Gl w) (rd : Ready w) (hlen : (prE e).length ≤ 140737488351232) :
    Calls Tryz.prog 10 #[.agg #[.int .i64 e.k, .int .i64 e.op, .int .i64 e.v.k, .int .i64 e.v.n, .string e.v.s, .string ⟨e.t.toArray⟩, .string ⟨e.n.toArray⟩, .int .i64 0, .int .i64 0, .slice p e.xs.length c]] w fun r w' => r = .returned (.string ⟨(prE e).toArray⟩) ∧ Below w.heap.size w w' := by
  have B1 := albl w (.cells #[.int .i64 e.k, .int .i64 e.op, .int .i64 e.v.k, .int .i64 e.v.n, .string e.v.s, .string ⟨e.t.toArray⟩, .string ⟨e.n.toArray⟩, .int .i64 0, .int .i64 0, .slice p e.xs.length c] 32)
  have HX := hid (BG.new w e.k e.op e.v.k e.v.n 0 0 e.v.s ⟨e.t.toArray⟩ ⟨e.n.toArray⟩ p e.xs.length c)
  have HE1 := hid (eat.chg (G := fun _ => False) (Chg.of_below B1) (fun _ _ q => q))
  have HG1 := hid (gl.below B1)
  have HR1 := hid (rd.below B1)
  have HB1 := hid B1
  have HK := hid ok
  have HL := hid hlen
  clear B1 eat gl rd ok hlen
  go_enter Tryz.func10, Tryz.ntmps10
  go_upto_region 1 with fail
  generalize hW : w.alloc _ = W at *
  clear hW
  go_upto_region 2 with fail
  have HW := hid (wf_new W)
  have HB2 := hid (albl W (.cells #[.pointer none, .slice none 0 0] 72))
  have hs2 : (W.alloc (.cells #[.pointer none, .slice none 0 0] 72)).heap.size = W.heap.size + 1 := by simp
  generalize hW2 : World.alloc W _ = W2 at *
  clear hW2
  have HC := hid (show Cx W W2 (· = W.heap.size) from ⟨HB2.out, fun k q => by omega, fun k q => by omega, HG1.out, HR1.out⟩)
  have T1 := hid (expr_ok W m W2 (· = W.heap.size) W.heap.size [] e p c HC.out HW.out HK.out HE1.out (by simpa using HL.out))
  have hXl := (HX.out.below HB2.out).lt
  obtain ⟨x0, x1, x2, x3, x4, x5, x6, x7, x8, x9⟩ := (HX.out.below HB2.out).cells
  clear hs2
  go_wp2_with (first
    | (go_at_call 21; go_loud (with_reducible refine T1.out.mono ?_); rintro r w3 ⟨rfl, h3, c3⟩; have HC3 := hid c3; go_loud (have T2 := hid (wstr_any h3)); clear h3 c3)
    | (go_at_call 22; with_reducible refine T2.out.mono ?_; rintro r w4 ⟨rfl, c4⟩; have HC4 := hid c4; clear c4)
    | fail)
  go_ret
  refine ⟨rfl, ?_⟩
  have hs1 := HB1.out.size
  have hs2 := HB2.out.size
  have h3 : Below W.heap.size W2 w3 := HC3.out.below (fun k q => Nat.le_of_eq q.symm) hs2
  have h4 : Below W.heap.size w3 w4 := HC4.out.below (fun k q => by rcases q with q | q <;> omega) (by have := HC3.out.size; omega)
  exact (HB1.out.trans (HB2.out.mono hs1)).trans ((h3.trans h4).mono hs1)
end Go.Proofs.YtekapdpfbkdflaaGreatDoor
