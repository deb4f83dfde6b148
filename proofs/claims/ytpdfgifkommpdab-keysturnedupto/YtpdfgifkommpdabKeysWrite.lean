/- What (*writer).text, mask and (*writer).value do. Condition: the bytes lie within the reach. -/
import Derived.Test.YtpdfgifkommpdabKeysNum
namespace Go.Proofs.Ytpdfgifkommpdab
open Go.RowKit Go.Lib Go.Sort
set_option linter.unusedVariables false

theorem b0 : (((0 : UInt8).toNat : Nat) : Int) = 0 := rfl
theorem b1 : (((1 : UInt8).toNat : Nat) : Int) = 1 := rfl
theorem b255 : (((255 : UInt8).toNat : Nat) : Int) = 255 := rfl

set_option maxHeartbeats 2000000 in
theorem wtext_any (t : Bool) (wb : Nat) (s : ByteArray) (l : List UInt8) (v : Value) (w : World) (hW : Wr w wb (msk t) l v) (hl : l.length + 2 * s.size + 2 ≤ 140737488351232) :
    Calls Try.prog 21 #[.pointer (some ⟨wb, 0, none⟩), .string s] w fun e w' => e = .returned (.tuple #[]) ∧ ∃ v', Wr w' wb (msk t) (l ++ (esc s.data.toList ++ [0, 1]).map (tb t)) v' ∧ Past wb v v' w w' := by
  have HW : Hid (Wr w wb (msk t) l v) := hW
  clear hW
  go_enter Try.func21, Try.ntmps21
  go_wp2
  go_loopw [7] (fun i wr => ∃ k : Nat, k ≤ s.size ∧ i = .int .i64 k ∧ ∃ v1, Wr wr wb (msk t) (l ++ (esc (s.data.toList.take k)).map (tb t)) v1 ∧ Past wb v v1 w wr) (fun i _ => s.size - (RowKit.intOf i).toNat)
  case atStart => exact ⟨0, Nat.zero_le _, rfl, v, by simpa [esc] using HW.out, Past.refl _ _ _⟩
  case round =>
    obtain ⟨k, hks, rfl, v1, W1, P1⟩ := hrel
    clear HW
    have hll : ((esc (s.data.toList.take k)).map (tb t)).length ≤ 2 * k := by
      have := esc_length (s.data.toList.take k)
      simp only [List.length_map]
      simp only [List.length_take] at this
      omega
    have HW1 : Hid (Wr wr wb (msk t) (l ++ (esc (s.data.toList.take k)).map (tb t)) v1) := W1
    have HP1 : Hid (Past wb v v1 w wr) := P1
    clear W1 P1
    by_cases hx : k < s.size
    · have HT : Hid ((esc (s.data.toList.take (k + 1))).map (tb t) = (esc (s.data.toList.take k)).map (tb t) ++ (if (s[k]'hx) = 0 then [tb t 0, tb t 255] else [tb t (s[k]'hx)])) := by
        show _ = _
        rw [take_snoc' s k hx, esc_append, List.map_append]
        congr 1
        unfold esc
        split <;> simp_all [esc]
      generalize (esc (s.data.toList.take k)).map (tb t) = pre at *
      by_cases h0 : (s[k]'hx) = 0
      · have HT2 : Hid ((esc (s.data.toList.take (k + 1))).map (tb t) = pre ++ [tb t 0] ++ [tb t 255]) := by
          show _ = _
          rw [HT.out, if_pos h0]; simp
        have hz : ((s[k]'hx).toNat : Int) = 0 := by rw [h0]; rfl
        have hz' : (s[k]'hx).toNat = 0 := by rw [h0]; rfl
        clear HT h0
        go_wp2_with (first
          | (go_at_call 19; (first
            | (with_reducible refine (put_any t wb 0 _ _ _ _ b0 HW1.out (by simp; omega)).mono ?_; rintro e w2 ⟨rfl, v2, W2, P2⟩; have HW2 : Hid (Wr w2 wb (msk t) (l ++ pre ++ [tb t 0]) v2) := hid W2; have HP2 : Hid (Past wb v1 v2 wr w2) := hid P2; clear W2 P2 HW1)
            | (with_reducible refine (put_any t wb 255 _ _ _ _ b255 HW2.out (by simp; omega)).mono ?_; rintro e w3 ⟨rfl, v3, W3, P3⟩; have HW3 : Hid (Wr w3 wb (msk t) (l ++ pre ++ [tb t 0] ++ [tb t 255]) v3) := hid W3; have HP3 : Hid (Past wb v2 v3 w2 w3) := hid P3; clear W3 P3)))
          | fail)
        go_roundw
        case rel => exact ⟨k + 1, by omega, by go_num, v3, by rw [HT2.out, ← List.append_assoc, ← List.append_assoc]; exact HW3.out, (HP1.out.trans HP2.out).trans HP3.out⟩
        case measure => simp [RowKit.intOf]; omega
      · have HT2 : Hid ((esc (s.data.toList.take (k + 1))).map (tb t) = pre ++ [tb t (s[k]'hx)]) := by
          show _ = _
          rw [HT.out, if_neg h0]
        have hz : ((s[k]'hx).toNat : Int) ≠ 0 := fun e => h0 (UInt8.toNat_inj.1 (by simpa using e))
        have hb : (((s[k]'hx).toNat : Int) == 0) = false := beq_eq_false_iff_ne.2 hz
        have hz' : (s[k]'hx).toNat ≠ 0 := by omega
        clear HT h0
        go_wp2_with (first
          | (go_at_call 19; refine (put_any t wb (s[k]'hx) _ _ _ _ rfl HW1.out (by simp; omega)).mono ?_; rintro e w2 ⟨rfl, v2, W2, P2⟩; have HW2 : Hid (Wr w2 wb (msk t) (l ++ pre ++ [tb t (s[k]'hx)]) v2) := hid W2; have HP2 : Hid (Past wb v1 v2 wr w2) := hid P2; clear W2 P2 HW1)
          | fail)
        go_roundw
        case rel => exact ⟨k + 1, by omega, by go_num, v2, by rw [HT2.out, ← List.append_assoc]; exact HW2.out, HP1.out.trans HP2.out⟩
        case measure => simp [RowKit.intOf]; omega
    · obtain rfl : k = s.size := by omega
      have HT2 : Hid ((esc s.data.toList ++ [0, 1]).map (tb t) = (esc (s.data.toList.take s.size)).map (tb t) ++ [tb t 0] ++ [tb t 1]) := by
        show _ = _
        rw [List.take_of_length_le (by simp)]; simp
      generalize (esc (s.data.toList.take s.size)).map (tb t) = pre at *
      go_wp2_with (first
        | (go_at_call 19; (first
          | (with_reducible refine (put_any t wb 0 _ _ _ _ b0 HW1.out (by simp; omega)).mono ?_; rintro e w2 ⟨rfl, v2, W2, P2⟩; have HW2 : Hid (Wr w2 wb (msk t) (l ++ pre ++ [tb t 0]) v2) := hid W2; have HP2 : Hid (Past wb v1 v2 wr w2) := hid P2; clear W2 P2 HW1)
          | (with_reducible refine (put_any t wb 1 _ _ _ _ b1 HW2.out (by simp; omega)).mono ?_; rintro e w3 ⟨rfl, v3, W3, P3⟩; have HW3 : Hid (Wr w3 wb (msk t) (l ++ pre ++ [tb t 0] ++ [tb t 1]) v3) := hid W3; have HP3 : Hid (Past wb v2 v3 w2 w3) := hid P3; clear W3 P3)))
        | fail)
      refine end0 Try.results21 rfl ?_
      exact ⟨rfl, v3, by rw [HT2.out, ← List.append_assoc, ← List.append_assoc]; exact HW3.out, (HP1.out.trans HP2.out).trans HP3.out⟩

set_option maxHeartbeats 400000 in
theorem mask_any (p : Option Addr) (ds : List Bool) (c i : Nat) (w : World) (hL : ds.length ≤ maxLen) (hi : i ≤ maxLen) (rD : Bits w p ds) :
    Calls Try.prog 12 #[.slice p ds.length c, .int .i64 i] w fun e w' => e = .returned (.int .u8 (msk (ds.getD i false))) ∧ w' = w := by
  unfold maxLen at hL hi
  by_cases hx : i < ds.length
  · obtain ⟨b, off, rfl, c0⟩ := rD.at hx
    have hd : ds.getD i false = ds[i] := by simp [List.getD_eq_getElem?_getD, hx]
    rw [hd]
    generalize ds[i] = d at *
    cases d
    all_goals
      go_enter Try.func12, Try.ntmps12
      go_wp2
      go_ret
      exact ⟨rfl, rfl⟩
  · have hd : ds.getD i false = false := by simp [List.getD_eq_getElem?_getD, List.getElem?_eq_none (by omega : ds.length ≤ i)]
    rw [hd]
    go_enter Try.func12, Try.ntmps12
    go_wp2
    go_ret
    exact ⟨rfl, rfl⟩
end Go.Proofs.Ytpdfgifkommpdab
