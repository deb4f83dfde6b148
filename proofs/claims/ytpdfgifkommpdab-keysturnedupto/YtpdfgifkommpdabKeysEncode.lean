/- What keys.Encode answers: the bytes of a row of right values, else nothing and ErrField. Condition: nine times what the row holds lies within the reach. -/
import Derived.Test.YtpdfgifkommpdabKeysValue
namespace Go.Proofs.Ytpdfgifkommpdab
open Go.RowKit Go.Lib Go.Sort
set_option linter.unusedVariables false

theorem own_mono {w : World} {b b' : Nat} {v : Value} {l : List UInt8} (h : OwnB w b v l) (hb : b' ≤ b) : OwnB w b' v l := by
  obtain ⟨h1, h2⟩ := h
  refine ⟨h1, ?_⟩
  rcases h2 with h2 | ⟨g, cap, cur, hv, hg, r⟩
  · exact Or.inl h2
  · exact Or.inr ⟨g, cap, cur, hv, Nat.le_trans hb hg, r⟩

theorem Wr.mask {w : World} {wb : Nat} {m m' : Int} {l : List UInt8} {v : Value} (h : Wr w wb m l v) : Wr (w.setCell ⟨wb, 1, none⟩ (.int .u8 m')) wb m' l v := by
  obtain ⟨o, c0, c1, f0, f1⟩ := h
  refine ⟨ownsRow_setCell_below o (Nat.lt_succ_self wb) _, ?_, ?_, ?_, ?_⟩ <;> simp [go_sem, c0, c1, f0, f1]
theorem Wr.new (w : World) (ty : TypeId) : Wr (w.alloc (.cells #[.slice none 0 0, .int .u8 0] ty)) w.heap.size (msk false) [] (.slice none 0 0) := by
  refine ⟨own_nil _ _, ?_, ?_, ?_, ?_⟩ <;> go_simp <;> rfl
theorem Wr.below {w w' : World} {wb : Nat} {m : Int} {l : List UInt8} {v : Value} (h : Wr w wb m l v) (B : Below w.heap.size w w') : Wr w' wb m l v := by
  have hl := h.lt
  obtain ⟨o, c0, c1, f0, f1⟩ := h
  refine ⟨?_, below_cell B c0, below_cell B c1, (B.frozen hl).trans f0, (B.frozen hl).trans f1⟩
  obtain ⟨h1, h2⟩ := o
  refine ⟨h1, ?_⟩
  rcases h2 with h2 | ⟨g, cap, cur, hv, hg, hh, r⟩
  · exact Or.inl h2
  · exact Or.inr ⟨g, cap, cur, hv, hg, by rw [B.block g (Array.getElem?_eq_some_iff.1 hh).1]; exact hh, r⟩

/-- What Encode answers. -/
def encEnd (xs : List Val) (ds : List Bool) (w : World) (e : Ending) (w' : World) : Prop :=
  Below w.heap.size w w' ∧ ((xs.all Val.right = true ∧ ∃ v, e = .returned (.tuple #[v, .int .i64 0]) ∧ OwnB w' w.heap.size v (encR xs ds)) ∨ (xs.all Val.right = false ∧ e = .returned (.tuple #[.slice none 0 0, .int .i64 3])))

theorem checkV_right {a : Val} (h : a.right = true) : checkV a = 0 := by
  have : ¬ (a.k < 0 ∨ 4 < a.k) := by rcases right_cases h with h | h | h | h | h <;> omega
  rw [checkV_in this true h]; rfl
theorem checkV_wrong {a : Val} (h : a.right = false) : (checkV a != 0) = true := by
  by_cases hk : a.k < 0 ∨ 4 < a.k
  · rw [checkV_out hk]; rfl
  · rw [checkV_in hk false h]; rfl

set_option maxHeartbeats 4000000 in
theorem encode_any (p q : Option Addr) (xs : List Val) (ds : List Bool) (cx cd : Nat) (w : World) (rX : Row w p xs) (rD : Bits w q ds) (hn : ∀ v ∈ xs, -9223372036854775808 ≤ v.n ∧ v.n ≤ 9223372036854775807) (hb : 9 * bulkR xs ≤ 140737488351232) (hD : ds.length ≤ maxLen) :
    Calls Try.prog 6 #[.slice p xs.length cx, .slice q ds.length cd] w (encEnd xs ds w) := by
  have hlen := bulkR_len xs
  have HX : Hid (Row w p xs) := rX
  have HD : Hid (Bits w q ds) := rD
  clear rX rD
  go_enter Try.func6, Try.ntmps6
  go_wp2
  go_loopw [13] (fun i wr => ∃ k : Nat, k ≤ xs.length ∧ i = .int .i64 k ∧ (∀ v ∈ xs.take k, v.right = true) ∧ Below w.heap.size w wr) (fun i _ => xs.length - (RowKit.intOf i).toNat)
  case atStart => exact ⟨0, Nat.zero_le _, rfl, by simp, Below.refl _ _⟩
  case round =>
    obtain ⟨k, hks, rfl, hr, B⟩ := hrel
    have HB : Hid (Below w.heap.size w wr) := B
    clear B
    by_cases hx : k < xs.length
    · obtain ⟨b1, o1, rfl, c10, c11, c12⟩ := (HX.out.below HB.out).at hx
      have hmem : xs[k] ∈ xs := List.getElem_mem hx
      have HT : Hid (∀ v ∈ xs.take (k + 1), v ∈ xs.take k ∨ v = xs[k]) := by
        intro v hv
        rw [List.take_succ_eq_append_getElem hx] at hv
        rcases List.mem_append.1 hv with h | h
        · exact Or.inl h
        · exact Or.inr (List.mem_singleton.1 h)
      have HA : Hid (xs[k].right = false → xs.all Val.right = false) := fun h => by
        rw [List.all_eq_false]
        exact ⟨xs[k], hmem, by rw [h]; decide⟩
      generalize xs[k] = x at *
      have C := fun W => check_any x W
      cases hrx : x.right
      · have e1 := checkV_wrong hrx
        generalize checkV x = ch at *
        obtain ⟨xk, xn, xt⟩ := x
        simp only [Val.v] at C
        simp only [] at c10 c11 c12
        have hr' := HA.out hrx
        go_wp2_with (first
          | (go_at_call 11; with_reducible refine (C _).mono ?_; rintro e w2 ⟨rfl, B2⟩; have HB2 : Hid (Below _ _ w2) := hid B2; clear B2)
          | fail)
        go_returns
        exact ⟨HB.out.trans ((below_new HB2.out).mono HB.out.size), Or.inr ⟨hr', rfl⟩⟩
      · have e1 := checkV_right hrx
        rw [e1] at C
        clear e1
        have HR : Hid (x.right = true) := hrx
        clear hrx
        obtain ⟨xk, xn, xt⟩ := x
        simp only [Val.v] at C
        simp only [] at c10 c11 c12
        go_wp2_with (first
          | (go_at_call 11; with_reducible refine (C _).mono ?_; rintro e w2 ⟨rfl, B2⟩; have HB2 : Hid (Below _ _ w2) := hid B2; clear B2)
          | fail)
        go_roundw
        case rel => exact ⟨k + 1, by omega, by go_num, fun v hv => (HT.out v hv).elim (hr v) (fun e => by rw [e]; exact HR.out), HB.out.trans ((below_new HB2.out).mono HB.out.size)⟩
        case measure => simp [RowKit.intOf]; omega
    · obtain rfl : k = xs.length := by omega
      rw [List.take_length] at hr
      have HR : Hid (∀ v ∈ xs, v.right = true) := hr
      clear hr hx hks
      have W0 := Wr.new wr 40
      have B0 : Below w.heap.size w (wr.alloc (.cells #[.slice none 0 0, .int .u8 0] 40)) := HB.out.alloc HB.out.size _
      have hwb := HB.out.size
      go_wp2
      have hws : (wr.alloc (.cells #[.slice none 0 0, .int .u8 0] 40)).heap.size = wr.heap.size + 1 := by simp
      generalize wr.alloc (.cells #[.slice none 0 0, .int .u8 0] 40) = W at *
      generalize wr.heap.size = wb at *
      clear HB
      go_loopw [24] (fun i wr => ∃ k : Nat, k ≤ xs.length ∧ i = .int .i64 k ∧ ∃ t v1, Wr wr wb (msk t) (encR (xs.take k) ds) v1 ∧ Below w.heap.size w wr) (fun i _ => xs.length - (RowKit.intOf i).toNat)
      case atStart => exact ⟨0, Nat.zero_le _, rfl, false, _, W0, B0⟩
      case round =>
        clear W0 B0 hws
        obtain ⟨k, hks, rfl, t, v1, W1, B1⟩ := hrel
        by_cases hx : k < xs.length
        · obtain ⟨b1, o1, rfl, c10, c11, c12⟩ := (HX.out.below B1).at hx
          have hmem : xs[k] ∈ xs := List.getElem_mem hx
          have HT : Hid (encR (xs.take (k + 1)) ds = encR (xs.take k) ds ++ (bytesV xs[k]).map (tb (ds.getD k false))) := by
            show _ = _
            rw [List.take_succ_eq_append_getElem hx, encR_snoc]
            rw [List.length_take, Nat.min_eq_left (by omega)]
          have hle : (encR (xs.take k) ds).length + 2 * xs[k].s.size + 9 ≤ 140737488351232 := by
            have h1 := encR_length (xs.take k) ds
            have h2 := bulkR_take xs (k + 1)
            rw [List.take_succ_eq_append_getElem hx, bulkR_append] at h2
            simp only [bulkR] at h2
            omega
          have MK := fun W (r : Bits W q ds) => mask_any q ds cd k W hD (by unfold maxLen; omega) r
          have VA := fun v W (hW : Wr W wb (msk (ds.getD k false)) (encR (xs.take k) ds) v) => wvalue_any (ds.getD k false) wb xs[k] (encR (xs.take k) ds) v W (HR.out _ hmem) (hn _ hmem).1 (hn _ hmem).2 hW hle
          generalize xs[k] = x at *
          generalize ds.getD k false = t' at *
          generalize encR (xs.take k) ds = pre at *
          obtain ⟨xk, xn, xt⟩ := x
          simp only [] at c10 c11 c12 VA
          have W2 := (W1.mask (m' := msk t')).alloc (.cells #[.int .i64 xk, .int .i64 xn, .string xt] 23)
          have B2 : Below w.heap.size w (wr.alloc (.cells #[.int .i64 xk, .int .i64 xn, .string xt] 23)) := B1.alloc B1.size _
          have M2 := MK _ (HD.out.below B2)
          have V2 := VA _ _ W2
          unfold WP at V2
          have hlt := W1.lt
          obtain ⟨_, d0, d1, f0, f1⟩ := W1.alloc (.cells #[.int .i64 xk, .int .i64 xn, .string xt] 23)
          have HB1 : Hid (Below w.heap.size w wr) := B1
          have HB2 : Hid (Below w.heap.size w (wr.alloc (.cells #[.int .i64 xk, .int .i64 xn, .string xt] 23))) := B2
          have HW2 : Hid (Wr ((wr.setCell ⟨wb, 1, none⟩ (.int .u8 (msk t'))).alloc (.cells #[.int .i64 xk, .int .i64 xn, .string xt] 23)) wb (msk t') pre v1) := W2
          have HB3 : Hid (Below w.heap.size w ((wr.setCell ⟨wb, 1, none⟩ (.int .u8 (msk t'))).alloc (.cells #[.int .i64 xk, .int .i64 xn, .string xt] 23))) := (HB1.out.setCell (p := ⟨wb, 1, none⟩) hwb _).alloc (by simpa [World.setCell] using HB1.out.size) _
          clear B1 B2 W1 W2 MK VA
          go_wp2_with (first
            | (go_at_call 12; with_reducible refine M2.mono ?_; rintro e w2 ⟨rfl, hw2⟩; subst hw2)
            | (go_at_call 13; with_reducible refine V2.mono ?_; rintro e w3 ⟨rfl, v3, W3, P3⟩)
            | fail)
          have B3 : Below w.heap.size w w3 := HB3.out.trans ((P3.below (Nat.le_of_lt HW2.out.lt) HW2.out.ge).mono hwb)
          have HW3 : Hid (Wr w3 wb (msk t') (pre ++ (bytesV ⟨xk, xn, xt⟩).map (tb t')) v3) := W3
          clear W3 P3 HW2
          go_roundw
          case rel => exact ⟨k + 1, by omega, by go_num, t', v3, by rw [HT.out]; exact HW3.out, B3⟩
          case measure => simp [RowKit.intOf]; omega
        · obtain rfl : k = xs.length := by omega
          rw [List.take_length] at W1
          have d0 := W1.c0
          have HO := own_mono W1.own (b' := w.heap.size) (by omega)
          go_wp2
          go_returns
          exact ⟨B1, Or.inl ⟨List.all_eq_true.2 HR.out, _, rfl, HO⟩⟩
end Go.Proofs.Ytpdfgifkommpdab
