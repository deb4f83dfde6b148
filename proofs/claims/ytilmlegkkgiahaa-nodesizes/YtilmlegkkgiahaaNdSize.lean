/- What leafSize, innerSize and Size of package node do. Conditions: the node lies within the reach. -/
import Derived.Test.YtilmlegkkgiahaaNdCell
namespace Go.Proofs.Ytilmlegkkgiahaa
open Go.RowKit Go.Lib Go.Sort
set_option linter.unusedVariables false
set_option maxRecDepth 20000

theorem wrap_cell (L K V : Nat) : wrap64 (wrap64 (wrap64 (3 + (L : Int)) + (3 + (K : Int))) + (V : Int)) = wrap64 (3 + ((L + (3 + K + V) : Nat) : Int)) := by
  rw [wrap_more, Int.add_assoc, wrap_more]
  congr 1
  omega
theorem wrap_key (L K : Nat) : wrap64 (wrap64 (5 + (L : Int)) + (3 + (K : Int))) = wrap64 (5 + ((L + (3 + K) : Nat) : Int)) := by
  rw [wrap_more]
  congr 1
  omega
set_option maxHeartbeats 400000 in
theorem leafSize_any {F : Nat → Prop} (p : Option Addr) (l : List Cl) (c : Nat) (w : World) (h : Cls w F p l) (hl : l.length * 64 ≤ 140737488351232) :
    Calls Try.prog 30 #[.slice p l.length c] w fun e w' => e = .returned (.int .i64 (wrap64 (3 + (lenCells l : Int)))) ∧ Below w.heap.size w w' := by
  have H := hid h
  clear h
  go_enter Try.func30, Try.ntmps30
  go_wp2
  go_loopw [3, 8] (fun s i wr => ∃ (k : Nat) (S : Int), i = .int .i64 (k : Int) ∧ k ≤ l.length ∧ s = .int .i64 S ∧ S = wrap64 (3 + (lenCells (l.take k) : Int)) ∧ Below w.heap.size w wr) (fun _ i _ => l.length - (RowKit.intOf i).toNat)
  case atStart => exact ⟨0, 3, rfl, Nat.zero_le _, rfl, by simp [lenCells, wrap64], Below.refl _ _⟩
  case round =>
    obtain ⟨k, S, rfl, hk, rfl, hS, hB⟩ := hrel
    have HS := hid hS
    have HB := hid hB
    clear hS
    by_cases hx : k < l.length
    · obtain ⟨g, off, pk, ck, pv, cv, rfl, c0, c1, c2, c3, b1, b2, _⟩ := (H.out.kp (Kp.of_below hB)).get hx
      have hL := hid (lenCells_succ hx)
      have HE := hid (show l[k].len = 3 + l[k].key.length + (if l[k].over = 0 then l[k].val.length else 2) from rfl)
      obtain ⟨hb1, _⟩ := b1.len
      obtain ⟨hb2, _⟩ := b2.len
      clear b1 b2 hB
      generalize l[k].key.length = K at *
      generalize l[k].val.length = V at *
      generalize l[k].over = O at *
      generalize l[k].len = E at *
      by_cases h0 : O = 0
      · subst h0
        go_wp2
        go_roundw
        case rel => exact ⟨k + 1, _, by go_num, by omega, rfl, by rw [HS.out, hL.out, HE.out, if_pos rfl]; exact wrap_cell _ _ _, HB.out.trans ((alloc_below _ _).mono HB.out.size)⟩
        case measure => simp [RowKit.intOf]; omega
      · have h0b : (O == 0) = false := beq_eq_false_iff_ne.2 h0
        go_wp2
        go_roundw
        case rel => exact ⟨k + 1, _, by go_num, by omega, rfl, by rw [HS.out, hL.out, HE.out, if_neg h0]; exact wrap_cell _ _ 2, HB.out.trans ((alloc_below _ _).mono HB.out.size)⟩
        case measure => simp [RowKit.intOf]; omega
    · obtain rfl : k = l.length := by omega
      clear hB
      go_wp2
      go_ret
      exact ⟨by rw [HS.out, List.take_length]; rfl, HB.out⟩
set_option maxHeartbeats 2000000 in
theorem innerSize_any {F : Nat → Prop} (p : Option Addr) (l : List (List UInt8)) (c : Nat) (w : World) (h : Kys w F p l) (hl : l.length * 24 ≤ 140737488351232) :
    Calls Try.prog 31 #[.slice p l.length c] w fun e w' => e = .returned (.int .i64 (wrap64 (5 + (lenKeys l : Int)))) ∧ w' = w := by
  have H := hid h
  clear h
  go_enter Try.func31, Try.ntmps31
  go_wp2
  go_loopw [3, 8] (fun s i wr => ∃ (k : Nat) (S : Int), i = .int .i64 (k : Int) ∧ k ≤ l.length ∧ s = .int .i64 S ∧ S = wrap64 (5 + (lenKeys (l.take k) : Int)) ∧ wr = w) (fun _ i _ => l.length - (RowKit.intOf i).toNat)
  case atStart => exact ⟨0, 5, rfl, Nat.zero_le _, rfl, by simp [lenKeys, wrap64], rfl⟩
  case round =>
    obtain ⟨k, S, rfl, hk, rfl, hS, rfl⟩ := hrel
    have HS := hid hS
    clear hS
    by_cases hx : k < l.length
    · obtain ⟨g, off, pk, ck, rfl, c0, b1, _⟩ := H.out.get hx
      have hL := hid (lenKeys_succ hx)
      obtain ⟨hb1, _⟩ := b1.len
      clear b1
      generalize l[k].length = K at *
      go_wp2
      go_roundw
      case rel => exact ⟨k + 1, _, by go_num, by omega, rfl, by rw [HS.out, hL.out]; exact wrap_key _ _, trivial⟩
      case measure => simp [RowKit.intOf]; omega
    · obtain rfl : k = l.length := by omega
      go_wp2
      go_ret
      exact ⟨by rw [HS.out, List.take_length]; rfl, rfl⟩
/-- The size that is told. -/
def Nd.sz (n : Nd) : Int := wrap64 (n.len : Int)
theorem Nd.sz_leaf {n : Nd} (h : n.leaf = true) : n.sz = wrap64 (3 + (lenCells n.cells : Int)) := by unfold Nd.sz Nd.len; rw [h]; simp
theorem Nd.sz_inner {n : Nd} (h : n.leaf = false) : n.sz = wrap64 (5 + (lenKeys n.keys : Int)) := by unfold Nd.sz Nd.len; rw [h]; simp
set_option maxHeartbeats 2000000 in
theorem size_any {F : Nat → Prop} (cv kv dv : Value) (n : Nd) (w : World) (h : NV w F cv kv dv n) :
    Calls Try.prog 12 #[.agg #[.bool n.leaf, cv, kv, dv]] w fun e w' => e = .returned (.int .i64 n.sz) ∧ Below w.heap.size w w' := by
  obtain ⟨⟨pc, cc, rfl, hC, _, _, hlc⟩, ⟨pk, ck, rfl, hK, _, _, hlk⟩, ⟨pd, cd, rfl, hD, _⟩⟩ := h
  have A := hid (leafSize_any pc n.cells cc _ (hC.kp (Kp.of_below (alloc_below w (.cells #[.bool n.leaf, .slice pc n.cells.length cc, .slice pk n.keys.length ck, .slice pd n.kids.length cd] 29)))) hlc)
  have B := hid (innerSize_any pk n.keys ck _ (hK.kp (Kp.of_below (alloc_below w (.cells #[.bool n.leaf, .slice pc n.cells.length cc, .slice pk n.keys.length ck, .slice pd n.kids.length cd] 29)))) hlk)
  clear hC hK hD
  cases hl : n.leaf
  · rw [hl] at A B
    rw [Nd.sz_inner hl]
    generalize wrap64 (5 + (lenKeys n.keys : Int)) = z at *
    go_enter Try.func12, Try.ntmps12
    go_wp2_with (first
      | (go_at_call 31; with_reducible refine B.out.mono ?_; rintro e w3 ⟨rfl, hw⟩; subst hw)
      | fail)
    go_ret
    exact ⟨rfl, alloc_below _ _⟩
  · rw [hl] at A B
    rw [Nd.sz_leaf hl]
    generalize wrap64 (3 + (lenCells n.cells : Int)) = z at *
    go_enter Try.func12, Try.ntmps12
    go_wp2_with (first
      | (go_at_call 30; with_reducible refine A.out.mono ?_; rintro e w3 ⟨rfl, b3⟩)
      | fail)
    go_ret
    exact ⟨rfl, (alloc_below _ _).trans (b3.mono (by simp))⟩
end Go.Proofs.Ytilmlegkkgiahaa
