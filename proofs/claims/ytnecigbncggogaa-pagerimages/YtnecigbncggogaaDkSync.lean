/- What (*Disk).Sync and Mend do; the disk's contracts over a set of blocks that is its own. Condition: fewer than a million writes are pending. -/
import Derived.Test.YtnecigbncggogaaDkSettle
namespace Go.Proofs.Ytnecigbncggogaa
open Go.RowKit
set_option linter.unusedVariables false
set_option maxRecDepth 20000

set_option maxHeartbeats 400000 in
theorem sync_down (db lb nb : Nat) (pv : Value) (d : Dk) (w : World) (h : PDisk w db lb nb pv d) (hd : d.down = true) :
    Calls Try.prog 44 #[.pointer (some ⟨db, 0, none⟩)] w fun e w' => e = .returned (.int .i64 9) ∧ w' = w := by
  obtain ⟨c0, c1, c2, c3, c4, c5, fz⟩ := h.cells
  rw [hd] at c5
  clear h hd
  go_enter Try.func44, Try.ntmps44
  go_wp2
  go_ret
  exact ⟨rfl, rfl⟩
set_option maxHeartbeats 400000 in
theorem sync_fails (db lb nb : Nat) (pv : Value) (d : Dk) (w : World) (h : PDisk w db lb nb pv d) (hd : d.down = false) (ha : d.arm = 0) :
    Calls Try.prog 44 #[.pointer (some ⟨db, 0, none⟩)] w fun e w' => e = .returned (.int .i64 9) ∧ PDisk w' db lb nb pv d.stepped ∧ (∀ F : Nat → Prop, F db → Chg F w w') := by
  obtain ⟨c0, c1, c2, c3, c4, c5, fz⟩ := h.cells
  have S := step_any db lb nb pv d w h
  rw [hd] at c5
  rw [if_pos ha] at S
  clear h hd ha c4
  generalize d.stepped = d' at *
  go_enter Try.func44, Try.ntmps44
  go_wp2_with (first
    | (go_at_call 71; with_reducible refine S.mono ?_; rintro e w4 ⟨rfl, P4, C4, S4⟩; have HP4 := hid P4; have HC4 := hid C4; clear P4 C4 S4)
    | fail)
  go_ret
  exact ⟨rfl, HP4.out, HC4.out⟩
set_option maxHeartbeats 400000 in
theorem sync_ok (db lb nb : Nat) (pv : Value) (d : Dk) (w : World) (h : PDisk w db lb nb pv d) (hd : d.down = false) (ha : d.arm ≠ 0) (hm : d.pend.length < 1000000) :
    Calls Try.prog 44 #[.pointer (some ⟨db, 0, none⟩)] w fun e w' => e = .returned (.int .i64 0) ∧ ∃ nb', PDisk w' db lb nb' (.slice none 0 0) (d.stepped.settled (fun _ => 512)) ∧ (∀ F : Nat → Prop, F db → F lb → Chg F w w') ∧ w.heap.size ≤ nb' ∧ nb' < w'.heap.size := by
  obtain ⟨c0, c1, c2, c3, c4, c5, fz⟩ := h.cells
  have S := step_any db lb nb pv d w h
  have hp5 : d.stepped.pend = d.pend := by unfold Dk.stepped; split <;> (try split) <;> rfl
  have T : Hid (∀ w', PDisk w' db lb nb pv d.stepped → Calls Try.prog 61 #[.pointer (some ⟨db, 0, none⟩), .func (.func 74) #[] #[]] w' fun e w'' => e = .returned (.tuple #[]) ∧ ∃ nb', PDisk w'' db lb nb' (.slice none 0 0) (d.stepped.settled (fun _ => 512)) ∧ (∀ F : Nat → Prop, F db → F lb → Chg F w' w'') ∧ w'.heap.size ≤ nb' ∧ nb' < w''.heap.size) :=
    fun w' P' => settle_sync db lb nb pv d.stepped (fun _ => 512) (fun _ => Nat.le_refl _) w' P' (by rw [hp5]; exact hm) (fun i w'' _ => sync1_any i w'')
  rw [hd] at c5
  rw [if_neg ha] at S
  clear h hd ha hm hp5 c4
  generalize d.stepped = d' at *
  go_enter Try.func44, Try.ntmps44
  go_wp2_with (first
    | (go_at_call 71; with_reducible refine S.mono ?_; rintro e w4 ⟨rfl, P4, C4, S4⟩; have HT4 := hid (T.out w4 P4); have HC4 := hid C4; have HS4 := hid S4; clear P4 C4 S4)
    | (go_at_call 61; with_reducible refine HT4.out.mono ?_; rintro e w5 ⟨rfl, nb', P5, C5, N5, M5⟩; have HP5 := hid P5; have HC5 := hid C5; have HN5 := hid N5; have HM5 := hid M5; clear P5 C5 N5 M5)
    | fail)
  go_ret
  exact ⟨rfl, nb', HP5.out, fun F f1 f2 => (HC4.out F f1).trans (HC5.out F f1 f2) (fun _ _ f => f), by have := HS4.out; have := HN5.out; omega, HM5.out⟩
theorem box3 (w : World) (v0 v1 v2 : Value) (t0 t1 t2 : TypeId) :
    (((w.alloc (.cells #[v0] t0)).alloc (.cells #[v1] t1)).alloc (.cells #[v2] t2)).cell? ⟨w.heap.size, 0, none⟩ = some v0 ∧ (((w.alloc (.cells #[v0] t0)).alloc (.cells #[v1] t1)).alloc (.cells #[v2] t2)).cell? ⟨w.heap.size + 1, 0, none⟩ = some v1 ∧ (((w.alloc (.cells #[v0] t0)).alloc (.cells #[v1] t1)).alloc (.cells #[v2] t2)).cell? ⟨w.heap.size + 2, 0, none⟩ = some v2 := by
  have b0 := ((Blk.new w [v0] t0).alloc (.cells #[v1] t1)).alloc (.cells #[v2] t2)
  have b1 := (Blk.new (w.alloc (.cells #[v0] t0)) [v1] t1).alloc (.cells #[v2] t2)
  have b2 := Blk.new ((w.alloc (.cells #[v0] t0)).alloc (.cells #[v1] t1)) [v2] t2
  have s1 : (w.alloc (.cells #[v0] t0)).heap.size = w.heap.size + 1 := by simp
  have s2 : ((w.alloc (.cells #[v0] t0)).alloc (.cells #[v1] t1)).heap.size = w.heap.size + 2 := by simp
  rw [s1] at b1
  rw [s2] at b2
  exact ⟨b0.cell 0, b1.cell 0, b2.cell 0⟩
set_option maxHeartbeats 1000000 in
theorem mend_ok (db lb nb : Nat) (pv : Value) (d : Dk) (kp : Option Addr) (keep : List Bool) (kc : Nat) (torn cut : Int) (w : World) (h : PDisk w db lb nb pv d) (hm : d.pend.length < 1000000) (hk : Bits w kp keep) (hkl : keep ≠ [] → ∀ b off, kp = some ⟨b, off, none⟩ → b ≠ lb) :
    Calls Try.prog 28 #[.pointer (some ⟨db, 0, none⟩), .slice kp keep.length kc, .int .i64 torn, .int .i64 cut] w fun e w' => e = .returned (.tuple #[]) ∧ ∃ nb', PDisk w' db lb nb' (.slice none 0 0) (d.mended keep torn cut) ∧ (∀ F : Nat → Prop, F db → F lb → Chg F w w') ∧ w.heap.size ≤ nb' ∧ nb' < w'.heap.size := by
  have hmf : ∀ (fn : Fn) (first cap : Array Value) (w : World), (Instr.makeFunc fn first cap).run Try.prog w = .ok (.func fn first cap) w := fun _ _ _ _ => rfl
  have HB := box3 w (.slice kp keep.length kc) (.int .i64 torn) (.int .i64 cut) 44 3 3
  have HP0 : PDisk (((w.alloc (.cells #[.slice kp keep.length kc] 44)).alloc (.cells #[.int .i64 torn] 3)).alloc (.cells #[.int .i64 cut] 3)) db lb nb pv d := ((h.alloc _).alloc _).alloc _
  have HBl : Below w.heap.size w (((w.alloc (.cells #[.slice kp keep.length kc] 44)).alloc (.cells #[.int .i64 torn] 3)).alloc (.cells #[.int .i64 cut] 3)) := (((Below.refl _ _).alloc (Nat.le_refl _) _).alloc (by simp) _).alloc (by simp; omega) _
  have hlb := h.lm.lt
  have T := settle_mend db lb nb pv d (w.heap.size + 1) (w.heap.size + 2) w.heap.size (keeps keep torn cut) (keeps_le keep torn cut) _ HP0 hm (fun i w' C => by
    refine mend1_any keep torn cut i _ _ _ kc kp w' (C.cell HB.2.1 (fun e => ?_)) (C.cell HB.2.2 (fun e => ?_)) (C.cell HB.1 (fun e => ?_)) ?_
    · have e' : w.heap.size + 1 = lb := e; omega
    · have e' : w.heap.size + 2 = lb := e; omega
    · have e' : w.heap.size = lb := e; omega
    · rcases hk with hk | ⟨b, off, hp, hc⟩
      · exact Or.inl hk
      by_cases hem : keep = []
      · exact Or.inl hem
      · exact Or.inr ⟨b, off, hp, fun i hi => C.cell ((World.cell?_of_block (w := w) (a := ⟨b, off + i, none⟩) (HBl.block b (cell_lt (hc i hi)))).trans (hc i hi)) (hkl hem b off hp)⟩)
  have HT := hid T
  have HBL : Hid (Chg (fun _ => False) w (((w.alloc (.cells #[.slice kp keep.length kc] 44)).alloc (.cells #[.int .i64 torn] 3)).alloc (.cells #[.int .i64 cut] 3))) := Chg.of_below HBl
  have HD : Hid ({ d.settled (keeps keep torn cut) with arm := -1, down := false } = d.mended keep torn cut) := rfl
  have HSZ : Hid ((((w.alloc (.cells #[.slice kp keep.length kc] 44)).alloc (.cells #[.int .i64 torn] 3)).alloc (.cells #[.int .i64 cut] 3)).heap.size = w.heap.size + 3) := by show _ = _; simp
  clear HB HP0 HBl T hk hkl h hm
  go_enter Try.func28, Try.ntmps28
  go_wp2_with (first
    | (go_at_call 61; with_reducible refine HT.out.mono ?_; rintro e w5 ⟨rfl, nb', P5, C5, N5, M5⟩; obtain ⟨c0, c1, c2, c3, c4, c5, fz⟩ := P5.cells; have HP5 := hid P5; have HC5 := hid C5; have HN5 := hid N5; have HM5 := hid M5; clear P5 C5 N5 M5)
    | fail)
  refine end0 Try.results28 rfl ?_
  refine ⟨rfl, nb', ?_, fun F f1 f2 => ?_, by have := HSZ.out; have := HN5.out; omega, by rw [set_size, set_size]; exact HM5.out⟩
  · rw [← HD.out]
    have q1 : PDisk (w5.setCell ⟨db, 5, none⟩ (.bool false)) db lb nb' (.slice none 0 0) { d.settled (keeps keep torn cut) with down := false } := HP5.out.set rfl rfl rfl (by have := HP5.out.ok; exact ⟨this.last, this.pend, this.page, this.arm1, this.arm2, this.pages⟩)
    exact q1.set rfl rfl rfl (by have := HP5.out.ok; exact ⟨this.last, this.pend, this.page, by show (-1 : Int) ≤ -1; omega, by show (-1 : Int) ≤ _; omega, this.pages⟩)
  · exact (((HBL.out.mono (fun j hj e => e.elim)).trans (HC5.out F f1 f2) (fun _ _ f => f)).setCell (Or.inl f1) _).setCell (Or.inl f1) _
end Go.Proofs.Ytnecigbncggogaa
