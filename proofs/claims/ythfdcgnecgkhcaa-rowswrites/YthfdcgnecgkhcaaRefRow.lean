/- What the document's own number, bytes, all, Encode and Size of rows answer. Condition: the bytes lie within the reach. -/
import Derived.Test.YthfdcgnecgkhcaaRowEncode
import Derived.Test.YthfdcgnecgkhcaaRefCheck
import Derived.Deep.RegionHeldLaw
namespace Go.Proofs.Ythfdcgnecgkhcaa
open Go.RowKit Go.Lib Go.Sort
set_option linter.unusedVariables false

/-- What a function that makes bytes answers. -/
def bytEnd (l : List UInt8) (w : World) (e : Ending) (w' : World) : Prop := ∃ v, e = .returned v ∧ OwnB w' w.heap.size v l ∧ Below w.heap.size w w'

set_option maxRecDepth 20000 in
set_option maxHeartbeats 2000000 in
theorem refNum_any (N : Nat) (w : World) (hN : N < 18446744073709551616) : Calls Try.prog 33 #[.int .u64 (N : Int)] w (bytEnd (uv N) w) := by
  have hlen := uv_len10 hN
  go_enter Try.func33, Try.ntmps33
  go_wp2
  go_loopw [0, 3] (fun i b wr => ∃ (n : Nat) (pre : List UInt8), i = .int .u64 (n : Int) ∧ n ≤ N ∧ uv N = pre ++ uv n ∧ OwnB wr w.heap.size b pre ∧ Below w.heap.size w wr) (fun i _ _ => (RowKit.intOf i).toNat)
  case atStart => exact ⟨N, [], rfl, Nat.le_refl _, rfl, own_nil _ _, Below.refl _ _⟩
  case round =>
    obtain ⟨n, pre, rfl, hn, hu, hO, hB⟩ := hrel
    have hpl : pre.length + 1 ≤ 10 := by
      have h1 := congrArg List.length hu
      have h2 := uv_pos n
      rw [List.length_append] at h1
      omega
    have HO : Hid (OwnB wr w.heap.size _ pre) := hO
    have HB : Hid (Below w.heap.size w wr) := hB
    have hsz := hB.size
    clear hO hB
    by_cases hx : 128 ≤ n
    · have HU : Hid (uv N = pre ++ [UInt8.ofNat (n % 128 + 128)] ++ uv (n / 128)) := by
        show _ = _
        rw [hu, uv_more hx]
        simp
      have hz : (UInt8.ofNat (n % 128 + 128)).toNat = n % 128 + 128 := by
        rw [UInt8.toNat_ofNat']
        omega
      clear hu
      generalize UInt8.ofNat (n % 128 + 128) = z at *
      go_wp2_with (at_builtin; refine appB wr w.heap.size _ _ _ _ pre z _ rfl rfl rfl rfl rfl (by omega) HO.out (by omega) hsz ?_; intro v' w' O' P' B'; have HO' := hid O'; have HB' := hid B'; clear O' P' B')
      go_roundw
      case rel => exact ⟨n / 128, pre ++ [z], by go_num, by omega, HU.out, HO'.out, HB.out.trans HB'.out⟩
      case measure => simp [RowKit.intOf]; omega
    · have HU : Hid (uv N = pre ++ [UInt8.ofNat n]) := by
        show _ = _
        rw [hu, uv_one (by omega)]
      have hz : (UInt8.ofNat n).toNat = n := by
        rw [UInt8.toNat_ofNat']
        omega
      clear hu
      generalize UInt8.ofNat n = z at *
      go_wp2_with (at_builtin; refine appB wr w.heap.size _ _ _ _ pre z _ rfl rfl rfl rfl rfl (by omega) HO.out (by omega) hsz ?_; intro v' w' O' P' B'; have HO' := hid O'; have HB' := hid B'; clear O' P' B')
      go_ret
      exact ⟨_, rfl, by rw [HU.out]; exact HO'.out, HB.out.trans HB'.out⟩

/-- Behind the box of a value and the first byte. -/
theorem first_own (w : World) (k n : Int) (s : ByteArray) (c : UInt8) (j : Int) (hj : (c.toNat : Int) = j) :
    OwnB ((w.alloc (.cells #[.int .i64 k, .int .i64 n, .string s] 38)).alloc (.cells #[.int .u8 j] 5)) (w.heap.size + 1) (.slice (some ⟨w.heap.size + 1, 0, none⟩) 1 1) [c] := by
  have := own_lits (w.alloc (.cells #[.int .i64 k, .int .i64 n, .string s] 38)) (w.heap.size + 1) (by simp) [c] #[.int .u8 j] (by simp [bcells, hj]) (by unfold maxLen; simp)
  simpa using this
theorem first_below (w : World) (o o' : Obj) : Below (w.heap.size + 1) (w.alloc o) ((w.alloc o).alloc o') := (Below.refl _ _).alloc (by simp) _
theorem end_below {w w' : World} {o : Obj} (B : Below (w.heap.size + 1) (w.alloc o) w') : Below w.heap.size w w' := ((Below.refl w.heap.size w).alloc (Nat.le_refl _) o).trans (B.mono (by omega))

set_option maxHeartbeats 1000000 in
theorem rbytes_0 (n : Int) (s : ByteArray) (w : World) :
    Calls Try.prog 35 #[.agg #[.int .i64 0, .int .i64 n, .string s]] w (bytEnd [0] w) := by
  have O := first_own w 0 n s 0 0 rfl
  have B := first_below w (.cells #[.int .i64 0, .int .i64 n, .string s] 38) (.cells #[.int .u8 0] 5)
  go_enter Try.func35, Try.ntmps35
  go_wp2
  go_ret
  exact ⟨_, rfl, own_mono O (by omega), end_below B⟩

set_option maxHeartbeats 1000000 in
theorem rbytes_1 (n : Int) (c : UInt8) (hc : (c = 0 ∧ n = 0) ∨ (c = 1 ∧ n = 1)) (s : ByteArray) (w : World) :
    Calls Try.prog 35 #[.agg #[.int .i64 1, .int .i64 n, .string s]] w (bytEnd ([1] ++ [c]) w) := by
  have O := first_own w 1 n s 1 1 rfl
  have B := first_below w (.cells #[.int .i64 1, .int .i64 n, .string s] 38) (.cells #[.int .u8 1] 5)
  have hb : (c.toNat : Int) = n := by rcases hc with ⟨rfl, rfl⟩ | ⟨rfl, rfl⟩ <;> rfl
  obtain ⟨hn1, hn2⟩ : 0 ≤ n ∧ n < 256 := by rcases hc with ⟨rfl, rfl⟩ | ⟨rfl, rfl⟩ <;> decide
  have HO := hid O
  have HB := hid B
  clear O B hc
  go_enter Try.func35, Try.ntmps35
  go_wp2_with (at_builtin; refine appB _ (w.heap.size + 1) _ _ _ _ [1] c _ rfl rfl rfl rfl (by simp) hb HO.out (by simp) (by simp) ?_; intro v' w' O' P' B')
  go_wp2
  go_ret
  exact ⟨_, rfl, own_mono O' (by omega), end_below (HB.out.trans B')⟩

set_option maxHeartbeats 1000000 in
theorem rbytes_2 (n : Int) (h1 : -9223372036854775808 ≤ n) (h2 : n ≤ 9223372036854775807) (s : ByteArray) (w : World) :
    Calls Try.prog 35 #[.agg #[.int .i64 2, .int .i64 n, .string s]] w (bytEnd ([2] ++ uv (zz n)) w) := by
  have O := first_own w 2 n s 2 2 rfl
  have B := first_below w (.cells #[.int .i64 2, .int .i64 n, .string s] 38) (.cells #[.int .u8 2] 5)
  have A1 := fun w => signed_any n w h1 h2
  have A2 := fun w => refNum_any (zz n) w (zz_lt h1 h2)
  have hl := uv_len10 (zz_lt h1 h2)
  have hp := uv_pos (zz n)
  have HO := hid O
  have HB := hid B
  unfold bytEnd at A2
  generalize uv (zz n) = u at *
  generalize zz n = z at *
  clear O B h1 h2
  go_enter Try.func35, Try.ntmps35
  go_wp2_with (first
    | (go_at_call 41; with_reducible refine (A1 _).mono ?_; rintro e w3 ⟨rfl, hw⟩; subst hw)
    | (go_at_call 33; with_reducible refine (A2 _).mono ?_; rintro e w3 ⟨v3, rfl, O3, B3⟩; have HO3 := hid O3; have HO1 := hid (HO.out.below B3); have HB3 := hid (HB.out.trans (B3.mono (by simp))); have hs3 := HB3.out.size; clear O3 B3)
    | (at_builtin; refine appBs (w.heap.size + 1) _ _ _ _ _ [2] u rfl rfl rfl rfl HO1.out HO3.out hp (by simp; omega) (by simpa using hs3) ?_; intro v' w' O' P' B'; have HO' := hid O'; have HB' := hid B'; clear O' P' B')
    | fail)
  go_ret
  exact ⟨_, rfl, own_mono HO'.out (by omega), end_below (HB3.out.trans HB'.out)⟩

set_option maxHeartbeats 4000000 in
theorem rbytes_34 (k : Int) (f : UInt8) (hk : (k = 3 ∧ f = 3) ∨ (k = 4 ∧ f = 4)) (n : Int) (s : ByteArray) (w : World) (hl : s.size + 30 ≤ 140737488351232) :
    Calls Try.prog 35 #[.agg #[.int .i64 k, .int .i64 n, .string s]] w (bytEnd ([f] ++ uv s.size ++ s.data.toList) w) := by
  have hf : (f.toNat : Int) = k := by rcases hk with ⟨rfl, rfl⟩ | ⟨rfl, rfl⟩ <;> rfl
  have O := first_own w k n s f k hf
  have B := first_below w (.cells #[.int .i64 k, .int .i64 n, .string s] 38) (.cells #[.int .u8 k] 5)
  have A2 := fun w => refNum_any s.size w (by omega)
  have hu := uv_len10 (n := s.size) (by omega)
  have hp := uv_pos s.size
  have hwr : IntKind.u64.wrap (s.size : Int) = (s.size : Int) := by rw [IntKind.wrap_u64]; omega
  have hbox : ((w.alloc (.cells #[.int .i64 k, .int .i64 n, .string s] 38)).alloc (.cells #[.int .u8 k] 5)).cell? ⟨w.heap.size, 2, none⟩ = some (.string s) := by go_simp
  have HO := hid O
  have HB := hid B
  have hsz0 : ((w.alloc (.cells #[.int .i64 k, .int .i64 n, .string s] 38)).alloc (.cells #[.int .u8 k] 5)).heap.size = w.heap.size + 2 := by simp
  unfold bytEnd at A2
  generalize uv s.size = u at *
  clear O B
  rcases hk with ⟨rfl, rfl⟩ | ⟨rfl, rfl⟩
  all_goals
    clear hf
    go_enter Try.func35, Try.ntmps35
    go_wp2
    generalize hW : (w.alloc _).alloc _ = W at *
    have hS : Hid (∀ w', Below (w.heap.size + 1) W w' → w'.cell? ⟨w.heap.size, 2, none⟩ = some (.string s)) := fun w' b => (b.cell (p := ⟨w.heap.size, 2, none⟩) (Nat.lt_succ_self _)).trans hbox
    have hsW : w.heap.size + 1 ≤ W.heap.size := by omega
    have hsD : w.heap.size + 1 ≤ W.drew.heap.size := hsW
    have HD : Hid (Below (w.heap.size + 1) W W.drew) := (Below.refl _ _).drew
    have HB0 : Hid (Below (w.heap.size + 1) W W) := Below.refl _ _
    go_region_held_law (fun w' => w'.cell? ⟨w.heap.size, 2, none⟩ = some (.string s)) (with_reducible first | exact hbox | exact hS.out _ HD.out | exact hS.out _ HB3.out | exact hS.out _ HB4.out | exact hS.out _ HB5.out)
      (first
        | (go_at_call 33; with_reducible refine (A2 _).mono ?_; rintro e w3 ⟨v3, rfl, O3, B3⟩; have HO3 := hid O3; have HO1 := hid (HO.out.drew.below B3); have HB3 := hid (HD.out.trans (B3.mono hsD)); have hs3 := HB3.out.size; clear O3 B3)
        | (refine stepBs (w.heap.size + 1) _ _ _ _ _ _ u rfl rfl rfl rfl HO1.out HO3.out hp (by simp; omega) (by omega) ?_; intro v4 w4 O4 P4 B4; have HO4 := hid O4; have HB4 := hid (HB3.out.trans B4); have hs4 := HB4.out.size; clear O4 P4 B4)
        | (refine step_str (w.heap.size + 1) _ _ _ _ s rfl rfl rfl rfl HO4.out (by simp; omega) (by omega) ?_; intro v5 w5 O5 P5 B5; have HO5 := hid O5; have HB5 := hid (HB4.out.trans B5); clear O5 P5 B5))
    all_goals
      go_wp2
      go_ret
      exact ⟨v5, by simp, own_mono (b' := w.heap.size) HO5.out (Nat.le_succ _), end_below (HB.out.trans HB5.out)⟩

theorem rbytes_any (a : Val) (w : World) (hr : a.right = true) (h1 : -9223372036854775808 ≤ a.n) (h2 : a.n ≤ 9223372036854775807) (hl : a.s.size + 30 ≤ 140737488351232) :
    Calls Try.prog 35 #[.agg #[.int .i64 a.k, .int .i64 a.n, .string a.s]] w (bytEnd (bytesW a) w) := by
  obtain ⟨k, n, s⟩ := a
  rcases right_cases hr with h | h | h | h | h
  · obtain ⟨rfl, _⟩ : k = 0 ∧ n = 0 := ⟨h.1, h.2.1⟩
    exact rbytes_0 n s w
  · obtain ⟨rfl, hn⟩ : k = 1 ∧ (n = 0 ∨ n = 1) := ⟨h.1, h.2.1⟩
    rcases hn with rfl | rfl
    · exact rbytes_1 0 0 (Or.inl ⟨rfl, rfl⟩) s w
    · exact rbytes_1 1 1 (Or.inr ⟨rfl, rfl⟩) s w
  · obtain rfl : k = 2 := h.1
    exact rbytes_2 n h1 h2 s w
  · obtain rfl : k = 3 := h.1
    have hb : bytesW ⟨3, n, s⟩ = [3] ++ uv s.size ++ s.data.toList := by simp [bytesW, bodyW]
    rw [hb]
    exact rbytes_34 3 3 (Or.inl ⟨rfl, rfl⟩) n s w hl
  · obtain rfl : k = 4 := h.1
    have hb : bytesW ⟨4, n, s⟩ = [4] ++ uv s.size ++ s.data.toList := by simp [bytesW, bodyW]
    rw [hb]
    exact rbytes_34 4 4 (Or.inr ⟨rfl, rfl⟩) n s w hl

/-- What all answers. -/
def allEnd (xs : List Val) (w : World) (e : Ending) (w' : World) : Prop :=
  Below w.heap.size w w' ∧ ((xs.all Val.right = true ∧ ∃ v, e = .returned (.tuple #[v, .bool true]) ∧ OwnB w' w.heap.size v (encW xs)) ∨ (xs.all Val.right = false ∧ e = .returned (.tuple #[.slice none 0 0, .bool false])))

set_option maxRecDepth 20000 in
set_option maxHeartbeats 4000000 in
theorem refAll_any (p : Option Addr) (xs : List Val) (cx : Nat) (w : World) (rX : Row w p xs) (hn : ∀ v ∈ xs, -9223372036854775808 ≤ v.n ∧ v.n ≤ 9223372036854775807) (hb : 11 * bulkR xs + 60 ≤ 140737488351232) :
    Calls Try.prog 20 #[.slice p xs.length cx] w (allEnd xs w) := by
  have hlen := bulkR_len xs
  have HX : Hid (Row w p xs) := rX
  clear rX
  have A1 := fun w => refNum_any xs.length w (by omega)
  unfold bytEnd at A1
  go_enter Try.func20, Try.ntmps20
  go_wp2_with (first
    | (go_at_call 33; with_reducible refine (A1 _).mono ?_; rintro e w2 ⟨v2, rfl, O2, B2⟩; have HO2 := hid O2; have HB2 := hid B2; clear O2 B2)
    | fail)
  clear A1
  go_loopw [4, 5] (fun b i wr => ∃ k : Nat, k ≤ xs.length ∧ i = .int .i64 k ∧ (∀ v ∈ xs.take k, v.right = true) ∧ OwnB wr w.heap.size b (uv xs.length ++ flatW (xs.take k)) ∧ Below w.heap.size w wr) (fun _ i _ => xs.length - (RowKit.intOf i).toNat)
  case atStart => exact ⟨0, Nat.zero_le _, rfl, by simp, by simpa [flatW] using HO2.out, HB2.out⟩
  case round =>
    clear HO2 HB2
    obtain ⟨k, hks, rfl, hr, hO, B⟩ := hrel
    have HB : Hid (Below w.heap.size w wr) := B
    clear B
    have hsz := HB.out.size
    by_cases hx : k < xs.length
    · obtain ⟨b1, o1, rfl, c10, c11, c12⟩ := (HX.out.below HB.out).at hx
      have hmem : xs[k] ∈ xs := List.getElem_mem hx
      have HTR : Hid (∀ v ∈ xs.take (k + 1), v ∈ xs.take k ∨ v = xs[k]) := by
        intro v hv
        rw [List.take_succ_eq_append_getElem hx] at hv
        rcases List.mem_append.1 hv with h | h
        · exact Or.inl h
        · exact Or.inr (List.mem_singleton.1 h)
      have HA : Hid (xs[k].right = false → xs.all Val.right = false) := fun h => by
        rw [List.all_eq_false]
        exact ⟨xs[k], hmem, by rw [h]; decide⟩
      have HT : Hid (uv xs.length ++ flatW (xs.take (k + 1)) = uv xs.length ++ flatW (xs.take k) ++ bytesW xs[k]) := by
        show _ = _
        rw [List.take_succ_eq_append_getElem hx, flatW_snoc, List.append_assoc]
      have HNN : Hid (-9223372036854775808 ≤ xs[k].n ∧ xs[k].n ≤ 9223372036854775807) := hn _ hmem
      have hsx := bulkR_mem xs _ hmem
      have hle : (uv xs.length ++ flatW (xs.take k)).length + (bytesW xs[k]).length ≤ 140737488351232 := by
        have h1 := uv_len10 (n := xs.length) (by omega)
        have hnt : ∀ v ∈ xs.take k, -9223372036854775808 ≤ v.n ∧ v.n ≤ 9223372036854775807 := fun v hv => hn v (List.mem_of_mem_take hv)
        have h2 := bulkR_take xs (k + 1)
        rw [List.take_succ_eq_append_getElem hx, bulkR_append] at h2
        simp only [bulkR] at h2
        have h3 := flatW_le (xs.take k) hnt (by omega)
        have h4 := bytesW_le HNN.out.1 HNN.out.2 (by omega)
        rw [List.length_append]
        omega
      generalize xs[k] = x at *
      have C := fun W => refCheck_any x W
      cases hrx : x.right
      · have e1 := checkV_wrong hrx
        generalize checkV x = ch at *
        obtain ⟨xk, xn, xt⟩ := x
        simp only [Val.v] at C
        simp only [] at c10 c11 c12
        have hr' := HA.out hrx
        clear hle hn
        go_wp2_with (first
          | (go_at_call 34; with_reducible refine (C _).mono ?_; rintro e w2 ⟨rfl, B2⟩; have HB2 := hid B2; clear B2)
          | fail)
        go_returns
        exact ⟨HB.out.trans (HB2.out.mono HB.out.size), Or.inr ⟨hr', rfl⟩⟩
      · have e1 := checkV_right hrx
        rw [e1] at C
        clear e1
        have HR : Hid (x.right = true) := hrx
        have BY := fun W => rbytes_any x W hrx HNN.out.1 HNN.out.2 (by omega)
        have hpos : 0 < (bytesW x).length := by simp [bytesW]
        clear hrx hn
        generalize hbx : bytesW x = bx at *
        obtain ⟨xk, xn, xt⟩ := x
        simp only [Val.v] at C
        simp only [] at c10 c11 c12 BY hle
        generalize hpre : uv xs.length ++ flatW (xs.take k) = pre at *
        have HO : Hid (OwnB wr w.heap.size _ pre) := hO
        clear hO
        unfold bytEnd at BY
        have cc : ∀ w2, Below wr.heap.size wr w2 → w2.cell? ⟨b1, o1 + k * 3, none⟩ = some (.int .i64 xk) ∧ w2.cell? ⟨b1, o1 + k * 3 + 1, none⟩ = some (.int .i64 xn) ∧ w2.cell? ⟨b1, o1 + k * 3 + 2, none⟩ = some (.string xt) := fun w2 b => ⟨below_cell b c10, below_cell b c11, below_cell b c12⟩
        have HC := hid cc
        clear cc
        go_wp2_with (first
          | (go_at_call 34; with_reducible refine (C _).mono ?_; rintro e w2 ⟨rfl, B2⟩; have HB2 := hid B2; obtain ⟨g0, g1, g2⟩ := HC.out w2 B2; clear B2)
          | (go_at_call 35; with_reducible refine (BY _).mono ?_; rintro e w3 ⟨v3, rfl, O3, B3⟩; have HO3 := hid O3; have HB3 := hid (HB2.out.trans (B3.mono HB2.out.size)); clear O3 B3)
          | (at_builtin; refine appBs w.heap.size _ _ _ _ _ pre bx rfl rfl rfl rfl (HO.out.below HB3.out) HO3.out hpos hle (Nat.le_trans hsz HB3.out.size) ?_; intro v5 w5 O5 P5 B5; have HO5 := hid O5; have HB5 := hid B5; clear O5 P5 B5)
          | fail)
        go_roundw
        case rel => exact ⟨k + 1, by omega, by go_num, fun v hv => (HTR.out v hv).elim (hr v) (fun e => by rw [e]; exact HR.out), by rw [HT.out]; exact HO5.out, (HB.out.trans (HB3.out.mono hsz)).trans HB5.out⟩
        case measure => simp [RowKit.intOf]; omega
    · obtain rfl : k = xs.length := by omega
      rw [List.take_length] at hO hr
      have HO : Hid (OwnB wr w.heap.size _ (encW xs)) := hO
      clear hO
      go_wp2
      go_returns
      exact ⟨HB.out, Or.inl ⟨List.all_eq_true.2 hr, _, rfl, HO.out⟩⟩

set_option maxHeartbeats 1000000 in
theorem refEncodeW_any (p : Option Addr) (xs : List Val) (cx : Nat) (w : World) (rX : Row w p xs) (hn : ∀ v ∈ xs, -9223372036854775808 ≤ v.n ∧ v.n ≤ 9223372036854775807) (hb : 11 * bulkR xs + 60 ≤ 140737488351232) :
    Calls Try.prog 11 #[.slice p xs.length cx] w (encEndW xs w) := by
  have A := refAll_any p xs cx w rX hn hb
  unfold allEnd at A
  clear rX
  cases hall : xs.all Val.right
  · simp only [hall, Bool.false_eq_true, false_and, false_or, true_and] at A
    go_enter Try.func11, Try.ntmps11
    go_wp2_with (first
      | (go_at_call 20; with_reducible refine A.mono ?_; rintro e w2 ⟨B2, he⟩; subst he; have HB2 := hid B2; clear B2)
      | fail)
    go_returns
    exact ⟨HB2.out, Or.inl ⟨hall, rfl⟩⟩
  · simp only [hall, Bool.true_eq_false, false_and, or_false, true_and] at A
    have A' := A.mono (R' := fun e w' => Below w.heap.size w w' ∧ ∃ p c, e = .returned (.tuple #[.slice p (encW xs).length c, .bool true]) ∧ OwnB w' w.heap.size (.slice p (encW xs).length c) (encW xs) ∧ (encW xs).length ≤ 140737488355328) (by
      rintro e w' ⟨B, v, he, O⟩
      obtain ⟨p, c, hv, _, _, hm⟩ := Byts.of_own O
      subst hv
      exact ⟨B, p, c, he, O, by have h1 := flatW_le xs hn (by omega)
                                have h2 := uv_len10 (n := xs.length) (by have := bulkR_len xs; omega)
                                simp only [encW, List.length_append]; omega⟩)
    clear A hn
    by_cases hbig : 2048 < (encW xs).length
    · have HBig : Hid (2048 < (encW xs).length) := hbig
      generalize hL : (encW xs).length = L at *
      go_enter Try.func11, Try.ntmps11
      go_wp2_with (first
        | (go_at_call 20; with_reducible refine A'.mono ?_; rintro e w2 ⟨B2, p2, c2, he, O2, hm⟩; subst he; have HB2 := hid B2; clear B2 O2)
        | fail)
      go_returns
      exact ⟨HB2.out, Or.inr (Or.inl ⟨hall, by rw [hL]; exact HBig.out, rfl⟩)⟩
    · have HSm : Hid ((encW xs).length ≤ 2048) := by show _ ≤ _; omega
      generalize hL : (encW xs).length = L at *
      go_enter Try.func11, Try.ntmps11
      go_wp2_with (first
        | (go_at_call 20; with_reducible refine A'.mono ?_; rintro e w2 ⟨B2, p2, c2, he, O2, hm⟩; subst he; have HB2 := hid B2; have HO2 := hid O2; clear B2 O2)
        | fail)
      go_returns
      exact ⟨HB2.out, Or.inr (Or.inr ⟨hall, by rw [hL]; exact HSm.out, _, rfl, HO2.out⟩)⟩

set_option maxHeartbeats 1000000 in
theorem refSize_any (p : Option Addr) (xs : List Val) (cx : Nat) (w : World) (rX : Row w p xs) (hn : ∀ v ∈ xs, -9223372036854775808 ≤ v.n ∧ v.n ≤ 9223372036854775807) (hb : 11 * bulkR xs + 60 ≤ 140737488351232) :
    Calls Try.prog 13 #[.slice p xs.length cx] w fun e w' => e = .returned (.int .i64 (sizeW xs : Int)) ∧ Below w.heap.size w w' := by
  have A := (refAll_any p xs cx w rX hn hb).mono (R' := fun e w' => Below w.heap.size w w' ∧ ∃ p c b, e = .returned (.tuple #[.slice p (sizeW xs) c, .bool b])) (by
    rintro e w' ⟨B, ⟨hall, v, he, O⟩ | ⟨hall, he⟩⟩
    · obtain ⟨p, c, hv, _, _, hm⟩ := Byts.of_own O
      subst hv
      refine ⟨B, p, c, true, ?_⟩
      rw [he]
      unfold sizeW
      rw [if_pos hall]
    · refine ⟨B, none, 0, false, ?_⟩
      rw [he]
      unfold sizeW
      rw [hall]
      rfl)
  have hm : sizeW xs ≤ 140737488351232 := by
    have h1 := flatW_le xs hn (by omega)
    have h2 := uv_len10 (n := xs.length) (by have := bulkR_len xs; omega)
    unfold sizeW
    split
    · simp only [encW, List.length_append]; omega
    · omega
  generalize sizeW xs = L at *
  clear rX hn
  go_enter Try.func13, Try.ntmps13
  go_wp2_with (first
    | (go_at_call 20; with_reducible refine A.mono ?_; rintro e w2 ⟨B2, p2, c2, b2, he⟩; subst he; have HB2 := hid B2; clear B2)
    | fail)
  go_ret
  exact ⟨rfl, HB2.out⟩
end Go.Proofs.Ythfdcgnecgkhcaa
