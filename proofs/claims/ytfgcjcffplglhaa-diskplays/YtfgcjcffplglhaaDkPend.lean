/- What (*Disk).Pending answers. Condition: fewer than a million writes are pending. -/
import Derived.Test.YtfgcjcffplglhaaDkLaw
namespace Go.Proofs.Ytfgcjcffplglhaa
open Go.RowKit
set_option linter.unusedVariables false
set_option maxRecDepth 20000

def icells (l : List Int) : List Value := l.map fun n => Value.int .i64 n
theorem icells_len (l : List Int) : (icells l).length = l.length := List.length_map ..
theorem infoInt : (Try.prog.info? 3).map (fun i => (i.zero, i.size, i.bytes)) = some (some (.int .i64 0), 1, 8) := by kernel_rfl
def izeros (L : Nat) : List Int := List.replicate L 0
theorem made_izero (L : Nat) : madeCells (Value.int .i64 0).cells L = (icells (izeros L)).toArray := by
  unfold izeros
  apply Array.ext_getElem?
  intro i
  simp only [madeCells, icells, List.getElem?_toArray, List.map_replicate]
  by_cases h : i < L
  · simp [h, Value.cells, Nat.mod_one]
  · simp [h]
theorem mk_ints (L : Nat) (hL : L ≤ 17592186044000) (w : World) : (Instr.makeSlice 45 (.int .i64 (L : Int)) (.int .i64 (L : Int))).run Try.prog w = .ok (.slice (some ⟨w.heap.size, 0, none⟩) L L) (w.alloc (.cells (icells (izeros L)).toArray 3)) := by
  obtain ⟨i0, hi, hz0, hz1, hz2⟩ := info_parts infoInt
  have h := run_make (P := Try.prog) w 45 3 i0 (.int .i64 0) Try.underlying45 hi hz0 .i64 .i64 (L : Int) (L : Int) (by omega) (Int.le_refl _) (by rw [hz2]; omega) (by omega)
  rw [hz1, Nat.mul_one, Int.toNat_natCast, made_izero] at h
  exact h
/-- The first k pages of the pending writes, then noughts. -/
def pendTo (l : List (Int × List UInt8)) (k : Nat) : List Int := (l.take k).map (·.1) ++ izeros (l.length - k)
theorem pendTo_len {l : List (Int × List UInt8)} {k : Nat} (h : k ≤ l.length) : (pendTo l k).length = l.length := by simp [pendTo, izeros]; omega
theorem pendTo_zero (l : List (Int × List UInt8)) : pendTo l 0 = izeros l.length := by simp [pendTo]
theorem pendTo_all (l : List (Int × List UInt8)) : pendTo l l.length = l.map (·.1) := by simp [pendTo, izeros]
theorem pendTo_next {l : List (Int × List UInt8)} {k : Nat} (h : k < l.length) : (pendTo l k).set k l[k].1 = pendTo l (k + 1) := by
  apply List.ext_getElem?
  intro i
  rw [List.getElem?_set]
  unfold pendTo izeros
  by_cases h1 : k = i
  · subst h1
    rw [if_pos rfl, if_pos (by simp; omega), List.getElem?_append_left (by simp; omega)]
    simp [h]
  · rw [if_neg h1]
    by_cases h2 : i < k
    · rw [List.getElem?_append_left (by simp; omega), List.getElem?_append_left (by simp; omega)]
      simp [h2, show i < k + 1 by omega]
    · rw [List.getElem?_append_right (by simp; omega), List.getElem?_append_right (by simp; omega), List.getElem?_replicate, List.getElem?_replicate]
      simp only [List.length_map, List.length_take]
      by_cases h3 : i < l.length
      · rw [if_pos (by omega), if_pos (by omega)]
      · rw [if_neg (by omega), if_neg (by omega)]
theorem icells_set (l : List Int) (i : Nat) (c : Int) : (icells l).set i (.int .i64 c) = icells (l.set i c) := by simp [icells, List.map_set]
theorem icells_at {l : List Int} {i : Nat} (h : i < l.length) : (icells l)[i]? = some (.int .i64 l[i]) := by simp [icells, h]
/-- The address of a write's first field is the write's own. -/
theorem wl_field0 {ops : Array Oper} {rest : List Oper} {o : Oper} {a : Act} {w : World} {Q : Exit → Act → World → Prop} (hgd : o.guard = none) (x : Operand) (ho : o.op = .fieldAddr 71 x 0) (p : Addr) (hx : a.eval x = .pointer (some p))
    (h : wpList Try.prog ops Q rest (a.put o.dst (.pointer (some p))) w) : wpList Try.prog ops Q (o :: rest) a w := by
  refine wpList_plain hgd fun K hK => ?_
  have hr : (Instr.fieldAt 71 (.pointer (some p)) 0).run Try.prog w = .ok (.pointer (some p)) w := by
    simp only [Instr.fieldAt, Instr.sureAddr, Sem.run_bind, run_underlying Try.underlying71, Result.andThen_ok]
    rfl
  unfold Oper.wp execOp
  simp only [ho, hx, Sem.run_bind, hr, Result.andThen_ok, Sem.run_pure]
  exact hK _ _ h
set_option maxHeartbeats 1000000 in
theorem pend_any (db lb nb : Nat) (pv : Value) (d : Dk) (w : World) (h : PDisk w db lb nb pv d) (hm : d.pend.length < 1000000) :
    Calls Try.prog 20 #[.pointer (some ⟨db, 0, none⟩)] w fun e w' => e = .returned (.slice (some ⟨w.heap.size, 0, none⟩) d.pend.length d.pend.length) ∧ Blk w' w.heap.size (icells (d.pend.map (·.1))) 3 ∧ Below w.heap.size w w' ∧ w'.heap.size = w.heap.size + 1 := by
  obtain ⟨pp, pc, rfl, hpc⟩ := own_form h.pd
  obtain ⟨c0, c1, c2, c3, c4, c5, fz⟩ := h.cells
  have HP := hid h
  have HM := hid hm
  have hmk := mk_ints d.pend.length (by omega)
  have HG : Hid (Blk (w.alloc (.cells (icells (izeros d.pend.length)).toArray 3)) w.heap.size (icells (pendTo d.pend 0)) 3) := by
    show Blk _ _ _ _
    rw [pendTo_zero]
    exact Blk.new w _ _
  clear h hm
  go_enter Try.func20, Try.ntmps20
  go_wp2
  clear hmk
  go_loopw [13] (fun i wr => ∃ k : Nat, i = .int .i64 (k : Int) ∧ k ≤ d.pend.length ∧ Blk wr w.heap.size (icells (pendTo d.pend k)) 3 ∧ Below w.heap.size w wr ∧ wr.heap.size = w.heap.size + 1) (fun i _ => d.pend.length - (RowKit.intOf i).toNat)
  case atStart => exact ⟨0, rfl, Nat.zero_le _, HG.out, (Below.refl _ _).alloc (Nat.le_refl _) _, by simp⟩
  case round =>
    clear HG
    obtain ⟨k, rfl, hk, hG, hBl, hS⟩ := hrel
    have HG := hid hG
    have HBl := hid hBl
    have HS := hid hS
    have hR := HP.out.below hBl
    obtain ⟨a0, a1, a2, a3, a4, a5, af⟩ := hR.cells
    have gf := hG.frozen k
    clear hG hBl hS c0 c1 c2 c3 c4 c5 fz
    by_cases hx : k < d.pend.length
    · obtain ⟨g, cap, hpv, h1, h2, h3, h4, h5⟩ := hR.wroteAt hx
      simp only [Value.slice.injEq] at hpv
      obtain ⟨rfl, hq0, rfl⟩ := hpv
      have gc : wr.cell? ⟨w.heap.size, k, none⟩ = some (.int .i64 ((pendTo d.pend k)[k]'(by rw [pendTo_len hk]; exact hx))) := (HG.out.cell k).trans (icells_at _)
      generalize (pendTo d.pend k)[k]'(by rw [pendTo_len hk]; exact hx) = old at gc
      have HN : Hid ((pendTo d.pend k).set k d.pend[k].1 = pendTo d.pend (k + 1)) := pendTo_next hx
      clear hq0 h1 h2 h4 h5 hR
      generalize d.pend[k].1 = pn at *
      have hkb : (k : Int) < 4611686018427387904 := by have := HM.out; omega
      go_wp2_with (first | (refine wl_field0 rfl _ rfl _ rfl ?_; try go_frame) | fail)
      go_roundw
      case rel =>
        refine ⟨k + 1, by go_num, by omega, ?_, HBl.out.setCell (Nat.le_refl _) _, by rw [set_size]; exact HS.out⟩
        have q := HG.out.set (i := k) (.int .i64 pn)
        rw [icells_set, HN.out] at q
        exact q
      case measure => simp [RowKit.intOf]; omega
    · obtain rfl : k = d.pend.length := by omega
      have HG' : Hid (Blk wr w.heap.size (icells (d.pend.map (·.1))) 3) := by have := HG.out; rwa [pendTo_all] at this
      clear HG hR
      go_wp2
      go_ret
      exact ⟨rfl, HG'.out, HBl.out, HS.out⟩
theorem DW.pends {s : Nat} {w0 w : World} {db : Nat} {d : Dk} {Z : Nat → Prop} (h : DW s w0 w db d Z) (hm : d.pend.length < 1000000) :
    Calls Try.prog 20 #[.pointer (some ⟨db, 0, none⟩)] w fun e w' => e = .returned (.slice (some ⟨w.heap.size, 0, none⟩) d.pend.length d.pend.length) ∧ Blk w' w.heap.size (icells (d.pend.map (·.1))) 3 ∧ Below w.heap.size w w' ∧ w'.heap.size = w.heap.size + 1 := by
  obtain ⟨lb, nb, pv, P, _⟩ := h.pd
  exact pend_any db lb nb pv d w P hm
end Go.Proofs.Ytfgcjcffplglhaa
