/- What the document's own turned, flip and bytes answer. Condition: the bytes lie within the reach. -/
import Derived.Test.YtpdfgifkommpdaaAppBytes
namespace Go.Proofs.Ytpdfgifkommpdaa
open Go.RowKit Go.Lib Go.Sort
set_option linter.unusedVariables false

set_option maxHeartbeats 400000 in
theorem turned_any (p : Option Addr) (ds : List Bool) (c i : Nat) (w : World) (hL : ds.length ≤ maxLen) (hi : i ≤ maxLen) (rD : Bits w p ds) :
    Calls Try.prog 25 #[.slice p ds.length c, .int .i64 i] w fun e w' => e = .returned (.bool (ds.getD i false)) ∧ w' = w := by
  unfold maxLen at hL hi
  by_cases hx : i < ds.length
  · obtain ⟨b, off, rfl, c0⟩ := rD.at hx
    have hd : ds.getD i false = ds[i] := by simp [List.getD_eq_getElem?_getD, hx]
    rw [hd]
    generalize ds[i] = d at *
    go_enter Try.func25, Try.ntmps25
    go_wp2
    go_ret
    exact ⟨rfl, rfl⟩
  · have hd : ds.getD i false = false := by simp [List.getD_eq_getElem?_getD, List.getElem?_eq_none (by omega : ds.length ≤ i)]
    rw [hd]
    go_enter Try.func25, Try.ntmps25
    go_wp2
    go_ret
    exact ⟨rfl, rfl⟩

/-- What flip answers. -/
def flipEnd (l : List UInt8) (w : World) (e : Ending) (w' : World) : Prop := ∃ v, e = .returned v ∧ OwnB w' w.heap.size v (l.map (tb true)) ∧ Below w.heap.size w w'

set_option maxHeartbeats 1000000 in
theorem flip_any (p : Option Addr) (l : List UInt8) (c : Nat) (w : World) (hl : l.length ≤ 140737488351232) (rB : Byts w p l) :
    Calls Try.prog 26 #[.slice p l.length c] w (flipEnd l w) := by
  have HR : Hid (Byts w p l) := rB
  clear rB
  go_enter Try.func26, Try.ntmps26
  go_wp2
  go_loopw [3, 4] (fun b i wr => ∃ k : Nat, k ≤ l.length ∧ i = .int .i64 k ∧ OwnB wr w.heap.size b ((l.take k).map (tb true)) ∧ Below w.heap.size w wr) (fun _ i _ => l.length - (RowKit.intOf i).toNat)
  case atStart => exact ⟨0, Nat.zero_le _, rfl, by simpa using own_nil _ _, Below.refl _ _⟩
  case round =>
    obtain ⟨k, hks, rfl, hO, hB⟩ := hrel
    by_cases hx : k < l.length
    · obtain ⟨b1, o1, rfl, c0⟩ := (HR.out.below hB).at hx
      have HT : Hid ((l.take (k + 1)).map (tb true) = (l.take k).map (tb true) ++ [tb true l[k]]) := by
        show _ = _
        rw [List.take_succ_eq_append_getElem hx, List.map_append]; rfl
      have hln : ((l.take k).map (tb true)).length = k := by simp; omega
      have hz : ((tb true l[k]).toNat : Int) = 255 - (l[k].toNat : Int) := by
        have := UInt8.toNat_lt l[k]
        rw [tb_true_nat]; omega
      have hlt : l[k].toNat < 256 := UInt8.toNat_lt _
      generalize tb true l[k] = z at *
      generalize l[k].toNat = y at *
      generalize (l.take k).map (tb true) = pre at *
      have HO : Hid (OwnB wr w.heap.size _ pre) := hO
      have HB : Hid (Below w.heap.size w wr) := hB
      clear hO hB
      go_wp2_with (at_builtin; refine appB wr w.heap.size _ _ _ _ pre z _ rfl rfl rfl rfl rfl hz HO.out (by omega) HB.out.size ?_; intro v' w' O' P' B')
      have HO' : Hid (OwnB w' w.heap.size v' (pre ++ [z])) := O'
      have HB' : Hid (Below w.heap.size wr w') := B'
      clear O' B' P'
      go_wp2
      go_roundw
      case rel => exact ⟨k + 1, by omega, by go_num, by rw [HT.out]; exact HO'.out, HB.out.trans HB'.out⟩
      case measure => simp [RowKit.intOf]; omega
    · obtain rfl : k = l.length := by omega
      rw [List.take_length] at hO
      go_wp2
      go_ret
      exact ⟨_, rfl, hO, hB⟩

theorem add_high (n : Int) (h1 : -9223372036854775808 ≤ n) (h2 : n ≤ 9223372036854775807) : IntKind.u64.wrap (IntKind.u64.wrap n + 9223372036854775808) = ((n + 9223372036854775808).toNat : Int) := by
  simp [IntKind.wrap, IntKind.signed, IntKind.bits]
  omega

/-- What bytes answers. -/
def bytEnd (l : List UInt8) (w : World) (e : Ending) (w' : World) : Prop := ∃ v, e = .returned v ∧ OwnB w' w.heap.size v l ∧ Below w.heap.size w w'

/-- Behind the box of a value and the first byte. -/
theorem first_own (w : World) (k n : Int) (s : ByteArray) (c : UInt8) (j : Int) (hj : (c.toNat : Int) = j) :
    OwnB ((w.alloc (.cells #[.int .i64 k, .int .i64 n, .string s] 43)).alloc (.cells #[.int .u8 j] 5)) (w.heap.size + 1) (.slice (some ⟨w.heap.size + 1, 0, none⟩) 1 1) [c] := by
  have := own_lits (w.alloc (.cells #[.int .i64 k, .int .i64 n, .string s] 43)) (w.heap.size + 1) (by simp) [c] #[.int .u8 j] (by simp [bcells, hj]) (by unfold maxLen; simp)
  simpa using this
theorem first_below (w : World) (o o' : Obj) : Below (w.heap.size + 1) (w.alloc o) ((w.alloc o).alloc o') := (Below.refl _ _).alloc (by simp) _
theorem end_below {w w' : World} {o : Obj} (B : Below (w.heap.size + 1) (w.alloc o) w') : Below w.heap.size w w' := ((Below.refl w.heap.size w).alloc (Nat.le_refl _) o).trans (B.mono (by omega))

set_option maxHeartbeats 1000000 in
theorem bytes_0 (n : Int) (s : ByteArray) (w : World) :
    Calls Try.prog 24 #[.agg #[.int .i64 0, .int .i64 n, .string s]] w (bytEnd [1] w) := by
  have O := first_own w 0 n s 1 1 rfl
  have B := first_below w (.cells #[.int .i64 0, .int .i64 n, .string s] 43) (.cells #[.int .u8 1] 5)
  go_enter Try.func24, Try.ntmps24
  go_wp2
  go_ret
  exact ⟨_, rfl, own_mono O (by omega), end_below B⟩

set_option maxHeartbeats 1000000 in
theorem bytes_1 (n : Int) (c : UInt8) (hc : (c = 0 ∧ n = 0) ∨ (c = 1 ∧ n = 1)) (s : ByteArray) (w : World) :
    Calls Try.prog 24 #[.agg #[.int .i64 1, .int .i64 n, .string s]] w (bytEnd ([2] ++ [c]) w) := by
  have O := first_own w 1 n s 2 2 rfl
  have B := first_below w (.cells #[.int .i64 1, .int .i64 n, .string s] 43) (.cells #[.int .u8 2] 5)
  have hb : (c.toNat : Int) = n := by rcases hc with ⟨rfl, rfl⟩ | ⟨rfl, rfl⟩ <;> rfl
  obtain ⟨hn1, hn2⟩ : 0 ≤ n ∧ n < 256 := by rcases hc with ⟨rfl, rfl⟩ | ⟨rfl, rfl⟩ <;> decide
  have HO : Hid (OwnB ((w.alloc (.cells #[.int .i64 1, .int .i64 n, .string s] 43)).alloc (.cells #[.int .u8 2] 5)) (w.heap.size + 1) (.slice (some ⟨w.heap.size + 1, 0, none⟩) 1 1) [2]) := O
  have HB : Hid (Below (w.heap.size + 1) (w.alloc (.cells #[.int .i64 1, .int .i64 n, .string s] 43)) ((w.alloc (.cells #[.int .i64 1, .int .i64 n, .string s] 43)).alloc (.cells #[.int .u8 2] 5))) := B
  clear O B hc
  go_enter Try.func24, Try.ntmps24
  go_wp2_with (at_builtin; refine appB _ (w.heap.size + 1) _ _ _ _ [2] c _ rfl rfl rfl rfl (by simp) hb HO.out (by simp) (by simp) ?_; intro v' w' O' P' B')
  go_wp2
  go_ret
  exact ⟨_, rfl, own_mono O' (by omega), end_below (HB.out.trans B')⟩

set_option maxHeartbeats 4000000 in
theorem bytes_2 (n : Int) (h1 : -9223372036854775808 ≤ n) (h2 : n ≤ 9223372036854775807) (s : ByteArray) (w : World) :
    Calls Try.prog 24 #[.agg #[.int .i64 2, .int .i64 n, .string s]] w (bytEnd ([3] ++ be 8 (n + 9223372036854775808).toNat) w) := by
  have O := first_own w 2 n s 3 3 rfl
  have B := first_below w (.cells #[.int .i64 2, .int .i64 n, .string s] 43) (.cells #[.int .u8 3] 5)
  have hX := add_high n h1 h2
  have hN : (n + 9223372036854775808).toNat < 18446744073709551616 := by omega
  generalize (n + 9223372036854775808).toNat = N at *
  have HO : Hid (OwnB ((w.alloc (.cells #[.int .i64 2, .int .i64 n, .string s] 43)).alloc (.cells #[.int .u8 3] 5)) (w.heap.size + 1) (.slice (some ⟨w.heap.size + 1, 0, none⟩) 1 1) [3]) := O
  have HB : Hid (Below (w.heap.size + 1) (w.alloc (.cells #[.int .i64 2, .int .i64 n, .string s] 43)) ((w.alloc (.cells #[.int .i64 2, .int .i64 n, .string s] 43)).alloc (.cells #[.int .u8 3] 5))) := B
  clear O B
  go_enter Try.func24, Try.ntmps24
  go_wp2
  clear hX
  go_loopw [3, 5] (fun b i wr => ∃ k : Nat, k ≤ 8 ∧ i = .int .i64 (7 - (k : Int)) ∧ OwnB wr (w.heap.size + 1) b ([3] ++ (be 8 N).take k) ∧ Below (w.heap.size + 1) (w.alloc (.cells #[.int .i64 2, .int .i64 n, .string s] 43)) wr) (fun _ i _ => (RowKit.intOf i + 1).toNat)
  case atStart => exact ⟨0, Nat.zero_le _, rfl, by simpa using HO.out, HB.out⟩
  case round =>
    clear HO HB
    obtain ⟨k, hks, rfl, hO, hB⟩ := hrel
    by_cases hx : k < 8
    · have hlen : k < (be 8 N).length := by rw [be_length]; exact hx
      have HZ : Hid (((be 8 N)[k]'hlen).toNat = N / 256 ^ (8 - 1 - k) % 256) := by
        show ((be 8 N)[k]'hlen).toNat = _
        rw [be_get]; simp
      have HT : Hid ((be 8 N).take (k + 1) = (be 8 N).take k ++ [(be 8 N)[k]'hlen]) := by
        show _ = _
        rw [List.take_succ_eq_append_getElem hlen]
      have hll : ((be 8 N).take k).length ≤ 7 := by simp [be_length]; omega
      have hsz := hB.size
      generalize (be 8 N)[k]'hlen = z at *
      have HO : Hid (OwnB wr (w.heap.size + 1) _ ([3] ++ (be 8 N).take k)) := hO
      have HB : Hid (Below (w.heap.size + 1) (w.alloc (.cells #[.int .i64 2, .int .i64 n, .string s] 43)) wr) := hB
      clear hO hB hlen
      generalize (be 8 N).take k = pre at *
      have hk1 : Hid (k + 1 ≤ 8) := hx
      have hk : k = 0 ∨ k = 1 ∨ k = 2 ∨ k = 3 ∨ k = 4 ∨ k = 5 ∨ k = 6 ∨ k = 7 := by omega
      rcases hk with rfl | rfl | rfl | rfl | rfl | rfl | rfl | rfl
      all_goals
        have hz := HZ.out
        simp only [Nat.reduceSub, Nat.reducePow, Nat.div_one] at hz
        go_wp2_with (at_builtin; refine appB wr (w.heap.size + 1) _ _ _ _ ([3] ++ pre) z _ rfl rfl rfl rfl rfl (by omega) HO.out (by simp; omega) (by simpa using hsz) ?_; intro v' w' O' P' B')
        have HO' : Hid (OwnB w' (w.heap.size + 1) v' (([3] ++ pre) ++ [z])) := O'
        have HB' : Hid (Below (w.heap.size + 1) wr w') := B'
        clear O' B' P'
        go_wp2
        go_roundw
        case rel => exact ⟨_, hk1.out, rfl, by rw [HT.out, ← List.append_assoc]; exact HO'.out, HB.out.trans HB'.out⟩
        case measure => simp [RowKit.intOf]
    · obtain rfl : k = 8 := by omega
      rw [List.take_of_length_le (by rw [be_length]; exact Nat.le_refl _)] at hO
      go_wp2
      go_ret
      exact ⟨_, rfl, own_mono hO (by omega), end_below hB⟩

theorem box_keep {w a b : World} {x : Value} (B : Below (w.heap.size + 1) a b) (h : a.cell? ⟨w.heap.size, 2, none⟩ = some x) : b.cell? ⟨w.heap.size, 2, none⟩ = some x := (B.cell (p := ⟨w.heap.size, 2, none⟩) (Nat.lt_succ_self _)).trans h

set_option maxHeartbeats 4000000 in
theorem bytes_34 (k : Int) (f : UInt8) (hk : (k = 3 ∧ f = 4) ∨ (k = 4 ∧ f = 5)) (n : Int) (s : ByteArray) (w : World) (hl : 2 * s.size + 9 ≤ 140737488351232) :
    Calls Try.prog 24 #[.agg #[.int .i64 k, .int .i64 n, .string s]] w (bytEnd ([f] ++ esc s.data.toList ++ [0, 1]) w) := by
  rcases hk with ⟨rfl, rfl⟩ | ⟨rfl, rfl⟩
  · have O := first_own w 3 n s 4 4 rfl
    have B := first_below w (.cells #[.int .i64 3, .int .i64 n, .string s] 43) (.cells #[.int .u8 4] 5)
    have HO : Hid (OwnB ((w.alloc (.cells #[.int .i64 3, .int .i64 n, .string s] 43)).alloc (.cells #[.int .u8 4] 5)) (w.heap.size + 1) (.slice (some ⟨w.heap.size + 1, 0, none⟩) 1 1) [4]) := O
    have HB : Hid (Below (w.heap.size + 1) (w.alloc (.cells #[.int .i64 3, .int .i64 n, .string s] 43)) ((w.alloc (.cells #[.int .i64 3, .int .i64 n, .string s] 43)).alloc (.cells #[.int .u8 4] 5))) := B
    have HC : Hid ((w.alloc (.cells #[.int .i64 3, .int .i64 n, .string s] 43)).cell? ⟨w.heap.size, 2, none⟩ = some (.string s)) := by show _ = _; go_simp
    clear O B
    go_enter Try.func24, Try.ntmps24
    go_wp2
    go_loopw [3, 6] (fun b i wr => ∃ k : Nat, k ≤ s.size ∧ i = .int .i64 k ∧ OwnB wr (w.heap.size + 1) b ([4] ++ esc (s.data.toList.take k)) ∧ Below (w.heap.size + 1) (w.alloc (.cells #[.int .i64 3, .int .i64 n, .string s] 43)) wr) (fun _ i _ => s.size - (RowKit.intOf i).toNat)
    case atStart => exact ⟨0, Nat.zero_le _, rfl, by simpa [esc] using HO.out, HB.out⟩
    case round =>
      clear HO HB
      obtain ⟨k, hks, rfl, hO, hB⟩ := hrel
      have c0 := (hB.cell (p := ⟨w.heap.size, 2, none⟩) (by simp)).trans HC.out
      have hsz := hB.size
      have hll : (esc (s.data.toList.take k)).length ≤ 2 * k := by
        have := esc_length (s.data.toList.take k)
        simp only [List.length_take] at this
        omega
      have HB : Hid (Below (w.heap.size + 1) (w.alloc (.cells #[.int .i64 3, .int .i64 n, .string s] 43)) wr) := hB
      have hsz' : w.heap.size + 1 ≤ wr.heap.size := by simpa using hsz
      clear hsz hB
      by_cases hx : k < s.size
      · have HT : Hid (esc (s.data.toList.take (k + 1)) = esc (s.data.toList.take k) ++ (if (s[k]'hx) = 0 then [0, 255] else [s[k]'hx])) := by
          show _ = _
          rw [take_snoc' s k hx, esc_append]
          simp only [esc]
        have HO : Hid (OwnB wr (w.heap.size + 1) _ ([4] ++ esc (s.data.toList.take k))) := hO
        clear hO
        generalize esc (s.data.toList.take k) = pre at *
        have hl1 : ([(4 : UInt8)] ++ pre).length + 1 ≤ 140737488351232 := by simp; omega
        have hl2 : ([(4 : UInt8)] ++ pre ++ [0]).length + 1 ≤ 140737488351232 := by simp; omega
        by_cases h0 : (s[k]'hx) = 0
        · have HT2 : Hid ([4] ++ esc (s.data.toList.take (k + 1)) = [4] ++ pre ++ [0] ++ [255]) := by
            show _ = _
            rw [HT.out, if_pos h0]; simp
          have hz' : (s[k]'hx).toNat = 0 := by rw [h0]; rfl
          clear HT h0
          go_wp2_with (at_builtin; first
            | (refine appB wr (w.heap.size + 1) _ _ _ _ ([4] ++ pre) 0 _ rfl rfl rfl rfl rfl b0 HO.out hl1 hsz' ?_; intro v' w' O' P' B'; clear P'; have c1 := box_keep B' c0; have hs' := Nat.le_trans hsz' B'.size; have HO' := hid O'; have HB' := hid B'; clear O' B')
            | (refine appB w' (w.heap.size + 1) _ _ _ _ ([4] ++ pre ++ [0]) 255 _ rfl rfl rfl rfl rfl b255 HO'.out hl2 hs' ?_; intro v2 w2 O2 P2 B2; clear P2; have HO2 := hid O2; have HB2 := hid B2; clear O2 B2))
          go_roundw
          case rel => exact ⟨k + 1, by omega, by go_num, by rw [HT2.out]; exact HO2.out, (HB.out.trans HB'.out).trans HB2.out⟩
          case measure => simp [RowKit.intOf]; omega
        · have HT2 : Hid ([4] ++ esc (s.data.toList.take (k + 1)) = [4] ++ pre ++ [s[k]'hx]) := by
            show _ = _
            rw [HT.out, if_neg h0]; simp
          have hz : ((s[k]'hx).toNat : Int) ≠ 0 := fun e => h0 (UInt8.toNat_inj.1 (by simpa using e))
          have hb : (((s[k]'hx).toNat : Int) == 0) = false := beq_eq_false_iff_ne.2 hz
          have hz' : (s[k]'hx).toNat ≠ 0 := by omega
          clear HT h0
          go_wp2_with (at_builtin; refine appB wr (w.heap.size + 1) _ _ _ _ ([4] ++ pre) (s[k]'hx) _ rfl rfl rfl rfl rfl rfl HO.out hl1 hsz' ?_; intro v' w' O' P' B'; clear P'; have c1 := box_keep B' c0; have HO' := hid O'; have HB' := hid B'; clear O' B')
          go_roundw
          case rel => exact ⟨k + 1, by omega, by go_num, by rw [HT2.out]; exact HO'.out, HB.out.trans HB'.out⟩
          case measure => simp [RowKit.intOf]; omega
      · obtain rfl : k = s.size := by omega
        rw [List.take_of_length_le (by simp)] at hO hll
        have L2 := own_lits wr wr.heap.size (Nat.le_refl _) [0, 1] #[.int .u8 0, .int .u8 1] rfl (by unfold maxLen; simp)
        have HL : Hid (OwnB (wr.alloc (.cells #[.int .u8 0, .int .u8 1] 5)) wr.heap.size (.slice (some ⟨wr.heap.size, 0, none⟩) 2 2) [0, 1]) := L2
        have HO : Hid (OwnB (wr.alloc (.cells #[.int .u8 0, .int .u8 1] 5)) (w.heap.size + 1) _ ([4] ++ esc s.data.toList)) := hO.alloc _
        clear L2 hO
        go_wp2_with (at_builtin; refine appBs (w.heap.size + 1) wr.heap.size _ _ _ _ ([4] ++ esc s.data.toList) [0, 1] rfl rfl rfl rfl HO.out HL.out (by simp) (by simp; omega) (by simp; omega) ?_; intro v' w' O' P' B'; clear P')
        go_wp2
        go_ret
        exact ⟨_, rfl, own_mono O' (by omega), end_below ((HB.out.alloc hsz' _).trans B')⟩
  · have O := first_own w 4 n s 5 5 rfl
    have B := first_below w (.cells #[.int .i64 4, .int .i64 n, .string s] 43) (.cells #[.int .u8 5] 5)
    have HO : Hid (OwnB ((w.alloc (.cells #[.int .i64 4, .int .i64 n, .string s] 43)).alloc (.cells #[.int .u8 5] 5)) (w.heap.size + 1) (.slice (some ⟨w.heap.size + 1, 0, none⟩) 1 1) [5]) := O
    have HB : Hid (Below (w.heap.size + 1) (w.alloc (.cells #[.int .i64 4, .int .i64 n, .string s] 43)) ((w.alloc (.cells #[.int .i64 4, .int .i64 n, .string s] 43)).alloc (.cells #[.int .u8 5] 5))) := B
    have HC : Hid ((w.alloc (.cells #[.int .i64 4, .int .i64 n, .string s] 43)).cell? ⟨w.heap.size, 2, none⟩ = some (.string s)) := by show _ = _; go_simp
    clear O B
    go_enter Try.func24, Try.ntmps24
    go_wp2
    go_loopw [3, 6] (fun b i wr => ∃ k : Nat, k ≤ s.size ∧ i = .int .i64 k ∧ OwnB wr (w.heap.size + 1) b ([5] ++ esc (s.data.toList.take k)) ∧ Below (w.heap.size + 1) (w.alloc (.cells #[.int .i64 4, .int .i64 n, .string s] 43)) wr) (fun _ i _ => s.size - (RowKit.intOf i).toNat)
    case atStart => exact ⟨0, Nat.zero_le _, rfl, by simpa [esc] using HO.out, HB.out⟩
    case round =>
      clear HO HB
      obtain ⟨k, hks, rfl, hO, hB⟩ := hrel
      have c0 := (hB.cell (p := ⟨w.heap.size, 2, none⟩) (by simp)).trans HC.out
      have hsz := hB.size
      have hll : (esc (s.data.toList.take k)).length ≤ 2 * k := by
        have := esc_length (s.data.toList.take k)
        simp only [List.length_take] at this
        omega
      have HB : Hid (Below (w.heap.size + 1) (w.alloc (.cells #[.int .i64 4, .int .i64 n, .string s] 43)) wr) := hB
      have hsz' : w.heap.size + 1 ≤ wr.heap.size := by simpa using hsz
      clear hsz hB
      by_cases hx : k < s.size
      · have HT : Hid (esc (s.data.toList.take (k + 1)) = esc (s.data.toList.take k) ++ (if (s[k]'hx) = 0 then [0, 255] else [s[k]'hx])) := by
          show _ = _
          rw [take_snoc' s k hx, esc_append]
          simp only [esc]
        have HO : Hid (OwnB wr (w.heap.size + 1) _ ([5] ++ esc (s.data.toList.take k))) := hO
        clear hO
        generalize esc (s.data.toList.take k) = pre at *
        have hl1 : ([(5 : UInt8)] ++ pre).length + 1 ≤ 140737488351232 := by simp; omega
        have hl2 : ([(5 : UInt8)] ++ pre ++ [0]).length + 1 ≤ 140737488351232 := by simp; omega
        by_cases h0 : (s[k]'hx) = 0
        · have HT2 : Hid ([5] ++ esc (s.data.toList.take (k + 1)) = [5] ++ pre ++ [0] ++ [255]) := by
            show _ = _
            rw [HT.out, if_pos h0]; simp
          have hz' : (s[k]'hx).toNat = 0 := by rw [h0]; rfl
          clear HT h0
          go_wp2_with (at_builtin; first
            | (refine appB wr (w.heap.size + 1) _ _ _ _ ([5] ++ pre) 0 _ rfl rfl rfl rfl rfl b0 HO.out hl1 hsz' ?_; intro v' w' O' P' B'; clear P'; have c1 := box_keep B' c0; have hs' := Nat.le_trans hsz' B'.size; have HO' := hid O'; have HB' := hid B'; clear O' B')
            | (refine appB w' (w.heap.size + 1) _ _ _ _ ([5] ++ pre ++ [0]) 255 _ rfl rfl rfl rfl rfl b255 HO'.out hl2 hs' ?_; intro v2 w2 O2 P2 B2; clear P2; have HO2 := hid O2; have HB2 := hid B2; clear O2 B2))
          go_roundw
          case rel => exact ⟨k + 1, by omega, by go_num, by rw [HT2.out]; exact HO2.out, (HB.out.trans HB'.out).trans HB2.out⟩
          case measure => simp [RowKit.intOf]; omega
        · have HT2 : Hid ([5] ++ esc (s.data.toList.take (k + 1)) = [5] ++ pre ++ [s[k]'hx]) := by
            show _ = _
            rw [HT.out, if_neg h0]; simp
          have hz : ((s[k]'hx).toNat : Int) ≠ 0 := fun e => h0 (UInt8.toNat_inj.1 (by simpa using e))
          have hb : (((s[k]'hx).toNat : Int) == 0) = false := beq_eq_false_iff_ne.2 hz
          have hz' : (s[k]'hx).toNat ≠ 0 := by omega
          clear HT h0
          go_wp2_with (at_builtin; refine appB wr (w.heap.size + 1) _ _ _ _ ([5] ++ pre) (s[k]'hx) _ rfl rfl rfl rfl rfl rfl HO.out hl1 hsz' ?_; intro v' w' O' P' B'; clear P'; have c1 := box_keep B' c0; have HO' := hid O'; have HB' := hid B'; clear O' B')
          go_roundw
          case rel => exact ⟨k + 1, by omega, by go_num, by rw [HT2.out]; exact HO'.out, HB.out.trans HB'.out⟩
          case measure => simp [RowKit.intOf]; omega
      · obtain rfl : k = s.size := by omega
        rw [List.take_of_length_le (by simp)] at hO hll
        have L2 := own_lits wr wr.heap.size (Nat.le_refl _) [0, 1] #[.int .u8 0, .int .u8 1] rfl (by unfold maxLen; simp)
        have HL : Hid (OwnB (wr.alloc (.cells #[.int .u8 0, .int .u8 1] 5)) wr.heap.size (.slice (some ⟨wr.heap.size, 0, none⟩) 2 2) [0, 1]) := L2
        have HO : Hid (OwnB (wr.alloc (.cells #[.int .u8 0, .int .u8 1] 5)) (w.heap.size + 1) _ ([5] ++ esc s.data.toList)) := hO.alloc _
        clear L2 hO
        go_wp2_with (at_builtin; refine appBs (w.heap.size + 1) wr.heap.size _ _ _ _ ([5] ++ esc s.data.toList) [0, 1] rfl rfl rfl rfl HO.out HL.out (by simp) (by simp; omega) (by simp; omega) ?_; intro v' w' O' P' B'; clear P')
        go_wp2
        go_ret
        exact ⟨_, rfl, own_mono O' (by omega), end_below ((HB.out.alloc hsz' _).trans B')⟩
end Go.Proofs.Ytpdfgifkommpdaa
