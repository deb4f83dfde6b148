/- What keys.Decode answers: the row that the bytes are, or the error. Condition: the bytes lie within the reach, thirty-two times. -/
import Derived.Test.YtpdfgifkommpdabKeysRow
import Derived.Defers
import Derived.Recover
import Derived.Laws.Pointers
import Derived.Laws.NewBlocks
namespace Go.Proofs.Ytpdfgifkommpdab
open Go.RowKit Go.Lib Go.Sort
set_option linter.unusedVariables false

theorem catch_idle (p : Addr) (w : World) :
    CallsD Try.prog 22 #[.pointer (some p)] .returning w fun e u' w' => e = .returned (.tuple #[]) ∧ u' = .returning ∧ w' = w := by
  refine callsD_of_wpS Try.func22 rfl fun c₀ cs hu => ?_
  apply wpS_seq
  apply wpS_region
  simp [wpOpsS, go_sem, recoverD, hu, Try.ntmps22, Exit.thenS]
  refine wpS_of_wp ?_
  change Code.wp _ _ _ { tmps := #[.pointer (some p), .nilIface, .nilIface, undef, undef, undef, undef], defers := [] } w
  go_wp2
  cases c₀
  simp_all [bodyPostS, results, Try.results22]

theorem assert_errno (v : Value) (w : World) : (Instr.typeAssert (.iface 28 v) 20 28 false).run Try.prog w = .ok v w := by kernel_rfl

theorem catch_panicking (b : Nat) (n : Int) (v : Value) (w : World) (c0 : w.cell? ⟨b, 0, none⟩ = some v) (f0 : w.frozen? ⟨b, 0, none⟩ = false) :
    CallsD Try.prog 22 #[.pointer (some ⟨b, 0, none⟩)] (.panicking (thr n)) w fun e u' w' =>
      e = .returned (.tuple #[]) ∧ u' = .panicking [{ v := .iface 28 (.int .i64 n), recovered := true }] ∧ w' = w.setCell ⟨b, 0, none⟩ (.int .i64 n) := by
  refine callsD_of_wpS Try.func22 rfl fun c₀ cs hu => ?_
  apply wpS_seq
  apply wpS_region
  unfold thr at hu
  simp [wpOpsS, go_sem, recoverD, hu, Try.ntmps22, Exit.thenS]
  refine wpS_of_wp ?_
  change Code.wp _ _ _ { tmps := #[.pointer (some ⟨b, 0, none⟩), .iface 28 (.int .i64 n), .iface 28 (.int .i64 n), undef, undef, undef, undef], defers := [] } w
  have hta := assert_errno
  go_wp2
  all_goals
    show bodyPostS _ _ _ _ _ Exit.normal _ _ _
    simp [bodyPostS, results, Try.results22]

theorem below_new2 {w w1 : World} {o o' : Obj} (h : Below ((w.alloc o).alloc o').heap.size ((w.alloc o).alloc o') w1) : Below w.heap.size w w1 :=
  (((Below.refl w.heap.size w).alloc (Nat.le_refl _) o).alloc (by simp) o').trans (h.mono (by simp; omega))
/-- What the work of a reading ends with. -/
def workEnd (x : Except Int (List Val)) (w : World) (e : Ending) (w' : World) : Prop :=
  Below w.heap.size w w' ∧ match x with
    | .ok vs => ∃ v, e = .returned v ∧ OwnV w' w.heap.size v vs
    | .error n => e = .panicked (thr n)
/-- What Decode answers. -/
def decEnd (x : Except Int (List Val)) (w : World) (e : Ending) (w' : World) : Prop :=
  Below w.heap.size w w' ∧ match x with
    | .ok vs => ∃ v, e = .returned (.tuple #[v, .int .i64 0]) ∧ OwnV w' w.heap.size v vs
    | .error n => e = .returned (.tuple #[.slice none 0 0, .int .i64 n])

set_option maxHeartbeats 1000000 in
theorem caught_any (g : FuncId) (caps : Array Value) (x : Except Int (List Val)) (w : World) (hg : ∀ w, (callFunc g caps).run Try.prog w = .ok (.enter g caps) w)
    (h : ∀ w0, Below w.heap.size w w0 → Calls Try.prog g caps w0 (workEnd x w0)) :
    Calls Try.prog 14 #[.func (.func g) #[] caps] w (decEnd x w) := by
  have hmf : ∀ (fn : Fn) (first cap : Array Value) (w : World), (Instr.makeFunc fn first cap).run Try.prog w = .ok (.func fn first cap) w := fun _ _ _ _ => rfl
  have H : Hid (∀ w0, Below w.heap.size w w0 → Calls Try.prog g caps w0 (workEnd x w0)) := h
  clear h
  go_enter_defers Try.func14, Try.ntmps14
  go_wp2
  refine (H.out _ (by go_grown)).mono ?_
  rintro e w1 ⟨b1, he⟩
  have c0 : w1.cell? ⟨w.heap.size, 0, none⟩ = some (.int .i64 0) := below_cell b1 (by go_simp)
  have f0 : w1.frozen? ⟨w.heap.size, 0, none⟩ = false := by
    rw [b1.frozen (by simp)]
    go_simp
  have B : Below w.heap.size w w1 := ((Below.refl w.heap.size w).alloc (Nat.le_refl _) _).trans (b1.mono (by simp))
  cases x with
  | ok vs =>
    obtain ⟨v, rfl, O⟩ := he
    obtain ⟨pv, cv, rfl, _, _, _⟩ := ownV_slice O
    have HO : Hid (OwnV w1 (w.heap.size + 1) (.slice pv vs.length cv) vs) := by
      have : (w.alloc (.cells #[.int .i64 0] 28)).heap.size = w.heap.size + 1 := by simp
      rw [← this]
      exact O
    clear O
    go_wp2
    refine leaves_cons (f := 22) (args := #[.pointer (some ⟨w.heap.size, 0, none⟩)]) (by simp) (by simp [go_sem]) ?_
    refine (catch_idle _ _).mono ?_
    rintro e u' w'' ⟨rfl, rfl, rfl⟩
    simp [Leaves, settle, results, Try.results14, go_sem, c0]
    refine ⟨by go_grown, _, rfl, ?_⟩
    refine ownV_mono (b := w.heap.size + 1) ?_ (by omega)
    exact ownsRow_setCell_below HO.out (show w.heap.size < w.heap.size + 1 by omega) _
  | error n =>
    obtain rfl : e = .panicked (thr n) := he
    go_wp2
    refine leaves_cons (f := 22) (args := #[.pointer (some ⟨w.heap.size, 0, none⟩)]) (by simp) (by simp [go_sem]) ?_
    refine (catch_panicking w.heap.size n _ _ c0 f0).mono ?_
    rintro e u' w2 ⟨rfl, rfl, rfl⟩
    simp [Leaves, settle, results, Try.results14, go_sem, c0]
    exact ⟨B.setCell (p := ⟨w.heap.size, 0, none⟩) (Nat.le_refl _) _, rfl⟩

theorem bits_lt {w : World} {q : Option Addr} {ds : List Bool} (h : Bits w q ds) (hd : ds ≠ []) : ∀ a, q = some a → a.block < w.heap.size := by
  intro a ha
  obtain ⟨b, off, hp, hc⟩ := h.at (i := 0) (List.length_pos_iff.2 hd)
  rw [hp] at ha
  cases ha
  exact cell_lt hc
theorem enters_dec1 (args : Array Value) (w : World) : (callFunc 15 args).run Try.prog w = .ok (.enter 15 args) w := by
  first | (simp [go_sem]; done) | kernel_rfl

set_option maxHeartbeats 1000000 in
theorem dec1_any (b : Nat) (p q : Option Addr) (l : List UInt8) (ds : List Bool) (c d : Nat) (w : World) (c0 : w.cell? ⟨b, 0, none⟩ = some (.slice p l.length c)) (c1 : w.cell? ⟨b + 1, 0, none⟩ = some (.slice q ds.length d)) (hc : l.length ≤ c)
    (rB : Byts w p l) (rD : Bits w q ds) (hD : ds.length ≤ maxLen) (hl : l.length * 32 ≤ 140737488351232) :
    Calls Try.prog 15 #[.pointer (some ⟨b, 0, none⟩), .pointer (some ⟨b + 1, 0, none⟩)] w (workEnd (decL l ds) w) := by
  have B0 : Below w.heap.size w (w.alloc (.cells #[.slice p l.length c, .int .u8 0] 45)) := (Below.refl _ _).alloc (Nat.le_refl _) _
  have R : Rd (w.alloc (.cells #[.slice p l.length c, .int .u8 0] 45)) w.heap.size false l := by
    refine ⟨p, c, by go_simp, by go_simp; rfl, by go_simp, by go_simp, hc, ?_⟩
    rcases rB with h | ⟨b1, off, hp, hcells⟩
    · exact Or.inl h
    · by_cases hn : l = []
      · exact Or.inl hn
      · have h0 := hcells 0 (List.length_pos_iff.2 hn)
        exact Or.inr ⟨b1, off, hp, cell_lt h0, fun i hi => by rw [show tb false l[i] = l[i] from rfl]; exact below_cell B0 (hcells i hi)⟩
  have W := row_any w.heap.size l q ds d _ R hD (rD.below B0) (fun hds a ha => by have := bits_lt rD hds a ha; omega) hl
  have c0' := below_cell B0 c0
  have c1' := below_cell B0 c1
  unfold rowEnd at W
  have HB : Hid (Below w.heap.size w (w.alloc (.cells #[.slice p l.length c, .int .u8 0] 45))) := B0
  clear R rB rD B0
  cases hx : decL l ds with
  | ok vs =>
    rw [hx] at W
    simp only [] at W
    go_enter Try.func15, Try.ntmps15
    go_wp2_with (go_at_call 16; with_reducible refine W.mono ?_; rintro e w2 ⟨O2, v, rfl, V2⟩)
    go_ret
    exact ⟨HB.out.trans (O2.below (by simp)), v, rfl, ownV_mono V2 (by simp)⟩
  | error n =>
    rw [hx] at W
    simp only [] at W
    go_enter Try.func15, Try.ntmps15
    go_wp2_with (go_at_call 16; with_reducible refine W.mono ?_; rintro e w2 ⟨O2, rfl⟩)
    exact ⟨rfl, HB.out.trans (O2.below (by simp)), rfl⟩

set_option maxHeartbeats 1000000 in
theorem decode_any (p q : Option Addr) (l : List UInt8) (ds : List Bool) (c d : Nat) (w : World) (hc : l.length ≤ c) (rB : Byts w p l) (rD : Bits w q ds) (hD : ds.length ≤ maxLen) (hl : l.length * 32 ≤ 140737488351232) :
    Calls Try.prog 8 #[.slice p l.length c, .slice q ds.length d] w (decEnd (decL l ds) w) := by
  have hmf : ∀ (fn : Fn) (first cap : Array Value) (w : World), (Instr.makeFunc fn first cap).run Try.prog w = .ok (.func fn first cap) w := fun _ _ _ _ => rfl
  have B0 : Below w.heap.size w ((w.alloc (.cells #[.slice p l.length c] 27)).alloc (.cells #[.slice q ds.length d] 31)) := ((Below.refl _ _).alloc (Nat.le_refl _) _).alloc (by simp) _
  have C := caught_any 15 #[.pointer (some ⟨w.heap.size, 0, none⟩), .pointer (some ⟨w.heap.size + 1, 0, none⟩)] (decL l ds) ((w.alloc (.cells #[.slice p l.length c] 27)).alloc (.cells #[.slice q ds.length d] 31)) (enters_dec1 _) (fun w0 b0 =>
    dec1_any w.heap.size p q l ds c d w0 (below_cell b0 (by go_simp)) (below_cell b0 (by go_simp)) hc ((rB.below B0).below b0) ((rD.below B0).below b0) hD hl)
  have HB : Hid (Below w.heap.size w ((w.alloc (.cells #[.slice p l.length c] 27)).alloc (.cells #[.slice q ds.length d] 31))) := B0
  have hsz := B0.size
  clear B0
  unfold decEnd at C
  cases hx : decL l ds with
  | ok vs =>
    rw [hx] at C
    simp only [] at C
    go_enter Try.func8, Try.ntmps8
    go_wp2_with (go_at_call 14; with_reducible refine C.mono ?_; rintro e w2 ⟨B2, v, rfl, V2⟩)
    go_returns
    exact ⟨HB.out.trans (B2.mono hsz), v, rfl, ownV_mono V2 hsz⟩
  | error n =>
    rw [hx] at C
    simp only [] at C
    go_enter Try.func8, Try.ntmps8
    go_wp2_with (go_at_call 14; with_reducible refine C.mono ?_; rintro e w2 ⟨B2, rfl⟩)
    go_returns
    exact ⟨HB.out.trans (B2.mono hsz), rfl⟩
end Go.Proofs.Ytpdfgifkommpdab
