/- What operator of the reader of package expr does. Conditions: none. -/
import Derived.Test.YtekapdpfbkdflaaGreatDoorXG
import Derived.Laws.Rows
import Derived.BigQuiet
import Derived.Deep.RegionHeldLaw
namespace Go.Proofs.YtekapdpfbkdflaaGreatDoor
open Go.RowKit Go.Lib Go.Sort
set_option linter.unusedVariables false
set_option maxRecDepth 20000

/-- An operator as a value; none: zeroes. -/
def oprO : Option Opr → Value
  | some o => .agg #[.int .i64 o.kind, .int .i64 o.op, .int .i64 o.tok, .string ⟨o.txt.toArray⟩, .int .i64 o.line]
  | none => .agg #[.int .i64 0, .int .i64 0, .int .i64 0, .string ⟨#[]⟩, .int .i64 0]
def oprT : Array Value := (oprs.flatMap oprV).toArray
theorem oprT_size : (Tryz.prog.info? 132).map (·.size) = some oprT.size := by kernel_rfl
theorem oprT_at (w : World) : ∀ (k : Nat) (h : k < 16), (Instr.index 132 (.agg oprT) (.int .i64 ((k : Nat) : Int))).run Tryz.prog w = .ok (oprO oprs[k]?) w
  | 0, _ => by kernel_rfl
  | 1, _ => by kernel_rfl
  | 2, _ => by kernel_rfl
  | 3, _ => by kernel_rfl
  | 4, _ => by kernel_rfl
  | 5, _ => by kernel_rfl
  | 6, _ => by kernel_rfl
  | 7, _ => by kernel_rfl
  | 8, _ => by kernel_rfl
  | 9, _ => by kernel_rfl
  | 10, _ => by kernel_rfl
  | 11, _ => by kernel_rfl
  | 12, _ => by kernel_rfl
  | 13, _ => by kernel_rfl
  | 14, _ => by kernel_rfl
  | 15, _ => by kernel_rfl
  | k + 16, h => by omega
theorem oprs_tok : ∀ o ∈ oprs, o.tok ≠ 0 := by decide
/-- The result's block. -/
def ResO (w : World) (b : Nat) : Prop := w.heap[b]? = some (.cells #[.int .i64 0, .int .i64 0, .int .i64 0, .string ⟨#[]⟩, .int .i64 0] 87 (0, 0))
theorem ResO.below {w w' : World} {b B : Nat} (h : ResO w b) (hB : Below B w w') (hb : b < B) : ResO w' b := (hB.block b hb).trans h
theorem ResO.cells {w : World} {b : Nat} (h : ResO w b) : w.cell? ⟨b, 0, none⟩ = some (.int .i64 0) ∧ w.cell? ⟨b, 1, none⟩ = some (.int .i64 0) ∧ w.cell? ⟨b, 2, none⟩ = some (.int .i64 0) ∧ w.cell? ⟨b, 3, none⟩ = some (.string ⟨#[]⟩) ∧ w.cell? ⟨b, 4, none⟩ = some (.int .i64 0) := by
  refine ⟨?_, ?_, ?_, ?_, ?_⟩ <;> (rw [Lib.cell_of_heap h]; rfl)
theorem ResO.frozen {w : World} {b : Nat} (h : ResO w b) (i : Nat) : w.frozen? ⟨b, i, none⟩ = false := Lib.frozen_of_heap h i
theorem op_after {W w2 : World} {R : Nat} {a b t n : Int} {s : ByteArray} (hR : ResO W R) (b2 : Below (W.alloc (.cells #[.int .i64 a, .int .i64 b, .int .i64 t, .string s, .int .i64 n] 87)).heap.size (W.alloc (.cells #[.int .i64 a, .int .i64 b, .int .i64 t, .string s, .int .i64 n] 87)) w2) :
    (w2.cell? ⟨W.heap.size, 0, none⟩ = some (.int .i64 a) ∧ w2.cell? ⟨W.heap.size, 1, none⟩ = some (.int .i64 b) ∧ w2.cell? ⟨W.heap.size, 2, none⟩ = some (.int .i64 t) ∧ w2.cell? ⟨W.heap.size, 3, none⟩ = some (.string s) ∧ w2.cell? ⟨W.heap.size, 4, none⟩ = some (.int .i64 n)) ∧ ResO w2 R ∧ Below W.heap.size W w2 := by
  have hs : R < W.heap.size := (Array.getElem?_eq_some_iff.1 hR).1
  have e := heap_alloc_new W (.cells #[.int .i64 a, .int .i64 b, .int .i64 t, .string s, .int .i64 n] 87)
  have e2 := (b2.block W.heap.size (by simp)).trans e
  have B := lxbelow_new b2
  refine ⟨⟨?_, ?_, ?_, ?_, ?_⟩, hR.below B hs, B⟩ <;> (rw [Lib.cell_of_heap e2]; rfl)
theorem undrew {a w : World} (h : Below a.drew.heap.size a.drew w) : Below a.heap.size a w := ⟨h.os, h.tape, h.output, h.size, h.block⟩
theorem below_put5 {w w2 : World} {a b c d e : Value} (h : Below w.heap.size w w2) : Below w.heap.size w (((((w2.setCell ⟨w.heap.size, 0, none⟩ a).setCell ⟨w.heap.size, 1, none⟩ b).setCell ⟨w.heap.size, 2, none⟩ c).setCell ⟨w.heap.size, 3, none⟩ d).setCell ⟨w.heap.size, 4, none⟩ e) :=
  ((((h.setCell (p := ⟨w.heap.size, 0, none⟩) (Nat.le_refl _) _).setCell (p := ⟨w.heap.size, 1, none⟩) (Nat.le_refl _) _).setCell (p := ⟨w.heap.size, 2, none⟩) (Nat.le_refl _) _).setCell (p := ⟨w.heap.size, 3, none⟩) (Nat.le_refl _) _).setCell (p := ⟨w.heap.size, 4, none⟩) (Nat.le_refl _) _
theorem find_take {p : Opr → Bool} : ∀ (l : List Opr) (k : Nat) (h : k < l.length), (∀ j (hj : j < l.length), j < k → p l[j] = false) → p l[k] = true → l.find? p = some l[k]
  | a :: l, 0, h, _, hp => by simp at hp; simp [hp]
  | a :: l, k + 1, h, hn, hp => by
    have h0 : p a = false := hn 0 (by simp) (by omega)
    rw [List.find?_cons_of_neg (by simp [h0])]
    exact find_take l k (by simpa using h) (fun j hj hjk => hn (j + 1) (by simpa using hj) (by omega)) (by simpa using hp)
theorem find_none {p : Opr → Bool} (l : List Opr) (h : ∀ j (hj : j < l.length), p l[j] = false) : l.find? p = none := by
  rw [List.find?_eq_none]
  intro x hx
  obtain ⟨j, hj, rfl⟩ := List.getElem_of_mem hx
  simp [h j hj]
set_option maxHeartbeats 8000000 in
theorem operator_any {w : World} {rb : Nat} {p : Option Addr} {c : Nat} {xs l : Ts} {d : Nat} (n : Int) (h : RS w rb p c xs l d) :
    Calls Tryz.prog 60 #[.pointer (some ⟨rb, 0, none⟩), .int .i64 n] w fun e w' => e = .returned (.tuple #[oprO (opAt n l), .bool (opAt n l).isSome]) ∧ Below w.heap.size w w' := by
  have hg : w.heap[1]? = some (.cells oprT 132 (0, 0)) := h.gl.1
  have H := hid h
  have hb := h.lt
  have hgb := h.gb.1
  have B0 : Below w.heap.size w (w.alloc (.cells #[.int .i64 0, .int .i64 0, .int .i64 0, .string ⟨#[]⟩, .int .i64 0] 87)) := (Below.refl _ _).alloc (Nat.le_refl _) _
  have hR := hid (show ResO (w.alloc (.cells #[.int .i64 0, .int .i64 0, .int .i64 0, .string ⟨#[]⟩, .int .i64 0] 87)) w.heap.size from heap_alloc_new w _)
  have hg1 := hid ((B0.block 1 (by omega)).trans hg)
  have HB0 := hid B0
  have hs0 : (w.alloc (.cells #[.int .i64 0, .int .i64 0, .int .i64 0, .string ⟨#[]⟩, .int .i64 0] 87)).heap.size = w.heap.size + 1 := by simp
  have hT := hid oprT_at
  clear h B0 hg
  go_enter Tryz.func60, Tryz.ntmps60
  go_wp2_with fail
  refine wp_load_row 132 (.global 1) rfl 1 rfl 132 oprT (0, 0) _ hg1.out Tryz.underlying132 rfl oprT_size ?_
  generalize oprT = V at *
  generalize hW : w.alloc _ = W at *
  clear hW
  go_wp2_with fail
  go_loopw [9] (fun i wr => ∃ k : Nat, k ≤ 16 ∧ i = .int .i64 (k : Int) ∧ Below (w.heap.size + 1) W wr ∧ ∀ j (hj : j < oprs.length), j < k → (oprs[j].line == n && stn oprs[j].tok oprs[j].txt l) = false) (fun i _ => 16 - (RowKit.intOf i).toNat)
  case atStart => exact ⟨0, by omega, rfl, Below.refl _ _, fun j hj h => absurd h (Nat.not_lt_zero _)⟩
  case round =>
    obtain ⟨k, hk, rfl, hbw, hno⟩ := hrel
    have HB := hid hbw
    have HN := hid hno
    have hsz := hbw.size
    clear hbw hno
    by_cases hk16 : k < 16
    · have hi := fun w => hT.out w k hk16
      have hlt : (k : Int) < 16 := by omega
      have e0 : oprs[k]? = some oprs[k] := List.getElem?_eq_getElem (by exact hk16)
      rw [e0] at hi
      have HO := hid (oprs_tok oprs[k] (List.getElem_mem _))
      have HF := hid (fun hp => find_take (p := fun o => o.line == n && stn o.tok o.txt l) oprs k (by exact hk16) HN.out hp)
      have HN2 := hid (fun (hp : (oprs[k].line == n && stn oprs[k].tok oprs[k].txt l) = false) => (show ∀ j (hj : j < oprs.length), j < k + 1 → (oprs[j].line == n && stn oprs[j].tok oprs[j].txt l) = false from fun j hj h => by
        by_cases e : j = k
        · subst e; exact hp
        · exact HN.out j hj (by omega)))
      clear e0 HN
      have eop : opAt n l = oprs.find? (fun o => o.line == n && stn o.tok o.txt l) := rfl
      rw [← eop] at HF
      generalize oprs[k] = o at *
      have HST := hid (fun w' (hB : Below w.heap.size w w') => stands_any (s := o.txt) o.tok (H.out.below hB) HO.out)
      have HBw := hid (HB0.out.trans (HB.out.mono (Nat.le_succ _)))
      have HRw := hid (hR.out.below HB.out (Nat.lt_succ_self _))
      unfold oprO at hi
      simp only [] at hi
      by_cases hln : o.line = n
      · have HE : Hid ((o.line == n && stn o.tok o.txt l) = stn o.tok o.txt l) := by show _ = _; simp [hln]
        cases hst : stn o.tok o.txt l with
        | true =>
          have HF2 := hid (HF.out (by rw [HE.out, hst]))
          rw [hst] at HST
          go_upto_region 4 with fail
          go_region_held_law (fun w' => w'.cell? ⟨wr.heap.size, 2, none⟩ = some (.int .i64 o.tok) ∧ w'.cell? ⟨wr.heap.size, 3, none⟩ = some (.string ⟨o.txt.toArray⟩) ∧ w'.cell? ⟨wr.heap.size, 4, none⟩ = some (.int .i64 o.line)) (first | exact K2.out | go_simp | go_keep) (first | (go_at_call 62; with_reducible refine (HST.out _ (HBw.out.alloc HBw.out.size _).drew).mono ?_; rintro e w2 ⟨rfl, b2⟩; obtain ⟨⟨y0, y1, y2, y3, y4⟩, r2, bb⟩ := op_after HRw.out (undrew b2); obtain ⟨z0, z1, z2, z3, z4⟩ := r2.cells; have zf := r2.frozen; have BB := hid bb; have K2 := hid (And.intro y2 (And.intro y3 y4)); clear b2 r2 bb))
          go_wp2_with fail
          rw [HF2.out]
          refine bodyPost_ret (by simp [results, Tryz.results60, go_sem, z0, z1, z2, z3, z4]; try rfl) rfl ?_
          refine ⟨?_, below_put5 (HBw.out.trans (BB.out.mono (by omega)))⟩
          subst hln
          rfl
        | false =>
          have HN3 := hid (HN2.out (by rw [HE.out, hst]))
          rw [hst] at HST
          go_upto_region 4 with fail
          go_region_held_law (fun w' => w'.cell? ⟨wr.heap.size, 2, none⟩ = some (.int .i64 o.tok) ∧ w'.cell? ⟨wr.heap.size, 3, none⟩ = some (.string ⟨o.txt.toArray⟩) ∧ w'.cell? ⟨wr.heap.size, 4, none⟩ = some (.int .i64 o.line)) (first | exact K2.out | go_simp | go_keep) (first | (go_at_call 62; with_reducible refine (HST.out _ (HBw.out.alloc HBw.out.size _).drew).mono ?_; rintro e w2 ⟨rfl, b2⟩; obtain ⟨⟨y0, y1, y2, y3, y4⟩, r2, bb⟩ := op_after HRw.out (undrew b2); obtain ⟨z0, z1, z2, z3, z4⟩ := r2.cells; have zf := r2.frozen; have BB := hid bb; have K2 := hid (And.intro y2 (And.intro y3 y4)); clear b2 r2 bb))
          go_wp2_with fail
          go_roundw
          case rel => exact ⟨k + 1, by omega, by go_num, HB.out.trans (BB.out.mono (by omega)), HN3.out⟩
          case measure => simp [RowKit.intOf]; omega
      · have HN3 := hid (HN2.out (by simp [hln]))
        have hlb : (o.line == n) = false := beq_eq_false_iff_ne.2 hln
        go_upto_region 4 with fail
        go_big_quiet (fail)
        go_wp2_with fail
        go_roundw
        case rel => exact ⟨k + 1, by omega, by go_num, below_drewN (HB.out.alloc (by omega) _) _, HN3.out⟩
        case measure => simp [RowKit.intOf]; omega
    · have hlt : ¬ (k : Int) < 16 := by omega
      have HF := hid (show opAt n l = none from find_none _ (fun j hj => HN.out j hj (by have : oprs.length = 16 := rfl; omega)))
      obtain ⟨z0, z1, z2, z3, z4⟩ := (hR.out.below HB.out (Nat.lt_succ_self _)).cells
      have zf := (hR.out.below HB.out (Nat.lt_succ_self _)).frozen
      go_wp2_with fail
      rw [HF.out]
      refine bodyPost_ret (by simp [results, Tryz.results60, go_sem, z0, z1, z2, z3, z4]; try rfl) rfl ?_
      exact ⟨rfl, below_put5 (HB0.out.trans (HB.out.mono (Nat.le_succ _)))⟩
end Go.Proofs.YtekapdpfbkdflaaGreatDoor
