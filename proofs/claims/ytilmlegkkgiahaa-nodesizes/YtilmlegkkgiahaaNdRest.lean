/- What the closures bytes and end of a reader of package node do. Condition: the bytes lie within the reach. -/
import Derived.Test.YtilmlegkkgiahaaNdTake
namespace Go.Proofs.Ytilmlegkkgiahaa
open Go.RowKit Go.Lib
set_option linter.unusedVariables false
set_option maxRecDepth 20000

set_option maxHeartbeats 2000000 in
theorem rbytes_any {F : Nat → Prop} (rb tb n : Nat) (l : List UInt8) (w : World) (hR : Rk w F rb tb l) (hn : n ≤ 140737488351232) :
    Calls Try.prog 65 #[.int .i64 (n : Int), .pointer (some ⟨tb, 0, none⟩)] w (rdEnd (fun w' v a => OwnB w' w.heap.size v a) F rb tb (tk n l) w) := by
  have T := hid (take_any rb tb n l w hR hn)
  have t0 := hR.t0
  clear hR
  cases hx : tk n l with
  | none =>
    rw [hx] at T
    unfold rdEnd at T
    simp only [] at T
    go_enter Try.func65, Try.ntmps65
    go_wp2_with (first
      | (go_at_call 63; with_reducible refine T.out.mono ?_; rintro e w2 ⟨C2, rfl⟩)
      | fail)
    exact ⟨rfl, C2, rfl⟩
  | some x =>
    obtain ⟨a, r⟩ := x
    rw [hx] at T
    unfold rdEnd at T
    simp only [] at T
    clear hx
    have HCl := hid (fun w' v (h : BV w' F v a) => bclone_any v a w' h)
    unfold clEnd at HCl
    go_enter Try.func65, Try.ntmps65
    go_wp2_with (first
      | (go_at_call 63; with_reducible refine T.out.mono ?_; rintro e w2 ⟨C2, va, rfl, bv2, R2⟩; have HC2 := hid C2; have HR2 := hid R2; have HB2 := hid (HCl.out w2 va bv2); obtain ⟨pa, ca, hv2⟩ := bv2.shape; subst hv2; clear C2 R2 bv2)
      | (go_at_call 66; with_reducible refine HB2.out.mono ?_; rintro e w3 ⟨vb, rfl, ob, b3⟩; have HO3 := hid (own_mono ob HC2.out.size); have HC3 := hid (HC2.out.trans (Chg.of_below (F := (· = rb)) b3) (fun _ _ h => h)); have HR3 := hid (HR2.out.below b3); clear ob b3)
      | fail)
    go_ret
    exact ⟨HC3.out, vb, rfl, HO3.out, HR3.out⟩
/-- What the closing of a reader ends with. -/
def clsEnd (rb : Nat) (l : List UInt8) (w : World) (e : Ending) (w' : World) : Prop :=
  Chg (· = rb) w w' ∧ ((l.all (· == 0) = true ∧ e = .returned (.tuple #[])) ∨ (l.all (· == 0) = false ∧ e = .panicked (thr 10)))
set_option maxHeartbeats 2000000 in
theorem rend_any {F : Nat → Prop} (rb tb : Nat) (l : List UInt8) (w : World) (hR : Rk w F rb tb l) :
    Calls Try.prog 67 #[.pointer (some ⟨tb, 0, none⟩), .pointer (some ⟨rb, 0, none⟩)] w (clsEnd rb l w) := by
  have t0 := hR.t0
  obtain ⟨v, c0, hv⟩ := hR.bv
  have hl : l.length ≤ 140737488351232 := by obtain ⟨_, _, _, _, _, _, h⟩ := hv; exact h
  obtain ⟨p, c, rfl⟩ := hv.shape
  have T := hid (take_any rb tb l.length l w hR hl)
  have hx : tk l.length l = some (l, []) := by have := tk_append l []; rwa [List.append_nil] at this
  rw [hx] at T
  unfold rdEnd at T
  simp only [] at T
  clear hx hv hR
  go_enter Try.func67, Try.ntmps67
  go_wp2_with (first
    | (go_at_call 63; with_reducible refine T.out.mono ?_; rintro e w2 ⟨C2, va, rfl, bv2, R2⟩; have HC2 := hid C2; have HB2 := hid bv2; obtain ⟨pa, ca, hv2⟩ := bv2.shape; subst hv2; clear C2 R2 bv2)
    | fail)
  clear T t0 c0
  go_loopw [9] (fun i wr => ∃ k : Nat, i = .int .i64 (k : Int) ∧ k ≤ l.length ∧ (l.take k).all (· == 0) = true ∧ wr = w2) (fun i _ => l.length - (RowKit.intOf i).toNat)
  case atStart => exact ⟨0, rfl, Nat.zero_le _, rfl, rfl⟩
  case round =>
    obtain ⟨k, rfl, hk, ha, rfl⟩ := hrel
    have HA := hid ha
    clear ha
    by_cases hx : k < l.length
    · obtain ⟨b, off, rfl, _, c0⟩ := HB2.out.at (i := k) hx
      have hy := UInt8.toNat_lt l[k]
      have HStep : Hid ((l[k].toNat = 0 → (l.take (k + 1)).all (· == 0) = true) ∧ (l[k].toNat ≠ 0 → l.all (· == 0) = false)) := by
        refine ⟨fun h0 => ?_, fun h0 => ?_⟩
        · rw [List.take_succ_eq_append_getElem hx, List.all_append, HA.out]
          have : l[k] = 0 := UInt8.toNat_inj.1 h0
          simp [this]
        · rw [List.all_eq_false]
          refine ⟨l[k], List.getElem_mem hx, fun h1 => h0 ?_⟩
          have : l[k] = 0 := by simpa using h1
          rw [this]
          rfl
      generalize l[k].toNat = y at *
      by_cases hy0 : y = 0
      · subst hy0
        have HS := hid (HStep.out.1 rfl)
        clear HStep
        go_wp2
        go_roundw
        case rel => exact ⟨k + 1, by go_num, by omega, HS.out, by first | rfl | trivial⟩
        case measure => simp [RowKit.intOf]; omega
      · have HS := hid (HStep.out.2 hy0)
        clear HStep
        go_wp2
        exact ⟨rfl, HC2.out, Or.inr ⟨HS.out, rfl⟩⟩
    · obtain rfl : k = l.length := by omega
      rw [List.take_length] at HA
      go_wp2
      refine end0 Try.results67 rfl ?_
      exact ⟨HC2.out, Or.inl ⟨HA.out, rfl⟩⟩
end Go.Proofs.Ytilmlegkkgiahaa
