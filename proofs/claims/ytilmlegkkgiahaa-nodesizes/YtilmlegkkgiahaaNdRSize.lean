/- What the document's Size, fields and Check do. Conditions: the node lies within the reach. -/
import Derived.Test.YtilmlegkkgiahaaNdRight
namespace Go.Proofs.Ytilmlegkkgiahaa
open Go.RowKit Go.Lib Go.Sort
set_option linter.unusedVariables false
set_option maxRecDepth 20000

theorem wrap_rcell (L K V : Nat) : wrap64 (wrap64 (wrap64 (wrap64 (3 + (L : Int)) + 3) + (K : Int)) + (V : Int)) = wrap64 (3 + ((L + (3 + K + V) : Nat) : Int)) := by
  rw [wrap_more, Int.add_assoc, wrap_more, Int.add_assoc, wrap_more]
  congr 1
  omega
theorem wrap_rkey (L K : Nat) : wrap64 (wrap64 (wrap64 (5 + (L : Int)) + 3) + (K : Int)) = wrap64 (5 + ((L + (3 + K) : Nat) : Int)) := by
  rw [wrap_more, Int.add_assoc, wrap_more]
  congr 1
  omega
set_option maxHeartbeats 2000000 in
theorem rsize_any {F : Nat → Prop} (cv kv dv : Value) (n : Nd) (w : World) (h : NV w F cv kv dv n) :
    Calls Try.prog 13 #[.agg #[.bool n.leaf, cv, kv, dv]] w fun e w' => e = .returned (.int .i64 n.sz) ∧ Below w.heap.size w w' := by
  obtain ⟨⟨pc, cc, rfl, hC, _, _, hlc⟩, ⟨pk, ck, rfl, hK, _, _, hlk⟩, ⟨pd, cd, rfl, hD, _⟩⟩ := h
  have HB0 := hid (alloc_below w (.cells #[.bool n.leaf, .slice pc n.cells.length cc, .slice pk n.keys.length ck, .slice pd n.kids.length cd] 26))
  have HC := hid (hC.kp (Kp.of_below HB0.out))
  have HK := hid (hK.kp (Kp.of_below HB0.out))
  have HX := hid (box4 (Below.refl (w.alloc (.cells #[.bool n.leaf, .slice pc n.cells.length cc, .slice pk n.keys.length ck, .slice pd n.kids.length cd] 26)).heap.size (w.alloc (.cells #[.bool n.leaf, .slice pc n.cells.length cc, .slice pk n.keys.length ck, .slice pd n.kids.length cd] 26))))
  clear hC hK hD
  cases hl : n.leaf
  · rw [hl] at HB0 HC HK HX
    rw [Nd.sz_inner hl]
    generalize n.keys = l at *
    generalize n.kids.length = Ld at *
    generalize n.cells.length = Lc at *
    go_enter Try.func13, Try.ntmps13
    go_wp2
    obtain ⟨x0, x1, x2, x3⟩ := HX.out
    generalize w.alloc _ = W at *
    go_loopw [3, 4] (fun s i wr => ∃ (k : Nat) (S : Int), i = .int .i64 (k : Int) ∧ k ≤ l.length ∧ s = .int .i64 S ∧ S = wrap64 (5 + (lenKeys (l.take k) : Int)) ∧ wr = W) (fun _ i _ => l.length - (RowKit.intOf i).toNat)
    case atStart => exact ⟨0, 5, rfl, Nat.zero_le _, rfl, by simp [lenKeys, wrap64], rfl⟩
    case round =>
      obtain ⟨k, S, rfl, hk, rfl, hS, rfl⟩ := hrel
      have HS := hid hS
      clear hS
      by_cases hx : k < l.length
      · obtain ⟨g, off, p1, c1, rfl, c0, b1, _⟩ := HK.out.get hx
        have hL := hid (lenKeys_succ hx)
        obtain ⟨hb1, _⟩ := b1.len
        clear b1
        generalize l[k].length = K at *
        go_wp2
        go_roundw
        case rel => exact ⟨k + 1, _, by go_num, by omega, rfl, by rw [HS.out, hL.out]; exact wrap_rkey _ _, trivial⟩
        case measure => simp [RowKit.intOf]; omega
      · obtain rfl : k = l.length := by omega
        go_wp2
        go_ret
        exact ⟨by rw [HS.out, List.take_length]; rfl, HB0.out⟩
  · rw [hl] at HB0 HC HK HX
    rw [Nd.sz_leaf hl]
    generalize n.cells = l at *
    generalize n.kids.length = Ld at *
    generalize n.keys.length = Lk at *
    go_enter Try.func13, Try.ntmps13
    go_wp2
    obtain ⟨x0, x1, x2, x3⟩ := HX.out
    generalize w.alloc _ = W at *
    go_loopw [5, 6] (fun s i wr => ∃ (k : Nat) (S : Int), i = .int .i64 (k : Int) ∧ k ≤ l.length ∧ s = .int .i64 S ∧ S = wrap64 (3 + (lenCells (l.take k) : Int)) ∧ wr = W) (fun _ i _ => l.length - (RowKit.intOf i).toNat)
    case atStart => exact ⟨0, 3, rfl, Nat.zero_le _, rfl, by simp [lenCells, wrap64], rfl⟩
    case round =>
      obtain ⟨k, S, rfl, hk, rfl, hS, rfl⟩ := hrel
      have HS := hid hS
      clear hS
      by_cases hx : k < l.length
      · obtain ⟨g, off, p1, c1, p2, c2, rfl, c10, c11, c12, c13, b1, b2, _⟩ := HC.out.get hx
        have hL := hid (lenCells_succ hx)
        have HE := hid (show l[k].len = 3 + l[k].key.length + (if l[k].over = 0 then l[k].val.length else 2) from rfl)
        obtain ⟨hb1, _⟩ := b1.len
        obtain ⟨hb2, _⟩ := b2.len
        clear b1 b2
        generalize l[k].key.length = K at *
        generalize l[k].val.length = V at *
        generalize l[k].over = O at *
        generalize l[k].len = E at *
        by_cases h0 : O = 0
        · subst h0
          go_wp2
          go_roundw
          case rel => exact ⟨k + 1, _, by go_num, by omega, rfl, by rw [HS.out, hL.out, HE.out, if_pos rfl]; exact wrap_rcell _ _ _, trivial⟩
          case measure => simp [RowKit.intOf]; omega
        · have h0b : (O == 0) = false := beq_eq_false_iff_ne.2 h0
          go_wp2
          go_roundw
          case rel => exact ⟨k + 1, _, by go_num, by omega, rfl, by rw [HS.out, hL.out, HE.out, if_neg h0]; exact wrap_rcell _ _ 2, trivial⟩
          case measure => simp [RowKit.intOf]; omega
      · obtain rfl : k = l.length := by omega
        go_wp2
        go_ret
        exact ⟨by rw [HS.out, List.take_length]; rfl, HB0.out⟩
end Go.Proofs.Ytilmlegkkgiahaa
