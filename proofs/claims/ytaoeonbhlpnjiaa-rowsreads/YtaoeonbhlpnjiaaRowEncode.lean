/- What rows.Size and rows.Encode answer. Condition: eleven times what the row holds lies within the reach. -/
import Derived.Test.YtaoeonbhlpnjiaaRowWrite
import Derived.Laws.MakeOwn
namespace Go.Proofs.Ytaoeonbhlpnjiaa
open Go.RowKit Go.Lib Go.Sort
set_option linter.unusedVariables false

theorem bytesW_le {a : Val} (h1 : -9223372036854775808 ≤ a.n) (h2 : a.n ≤ 9223372036854775807) (hs : a.s.size < 18446744073709551616) : (bytesW a).length ≤ a.s.size + 11 := by
  unfold bytesW bodyW
  have hz := uv_len10 (zz_lt h1 h2)
  have hu := uv_len10 hs
  split
  · simp
  · split
    · simp; omega
    · split
      · simp; omega
      · simp
theorem flatW_le : ∀ (xs : List Val), (∀ v ∈ xs, -9223372036854775808 ≤ v.n ∧ v.n ≤ 9223372036854775807) → 11 * bulkR xs ≤ 140737488351232 → (flatW xs).length ≤ 11 * bulkR xs
  | [], _, _ => Nat.le_refl _
  | a :: xs, hn, hb => by
    simp only [bulkR] at hb
    have h0 := hn a List.mem_cons_self
    have h1 := bytesW_le h0.1 h0.2 (by omega)
    have h2 := flatW_le xs (fun v hv => hn v (List.mem_cons_of_mem _ hv)) (by omega)
    simp only [flatW, bulkR, List.length_append]
    omega

/-- How many bytes a row has; 0, if a value is not right. -/
def sizeW (xs : List Val) : Nat := if xs.all Val.right = true then (encW xs).length else 0

set_option maxRecDepth 20000 in
set_option maxHeartbeats 4000000 in
theorem rsize_any (p : Option Addr) (xs : List Val) (cx : Nat) (w : World) (rX : Row w p xs) (hn : ∀ v ∈ xs, -9223372036854775808 ≤ v.n ∧ v.n ≤ 9223372036854775807) (hb : 11 * bulkR xs + 30 ≤ 140737488351232) :
    Calls Try.prog 12 #[.slice p xs.length cx] w fun e w' => e = .returned (.int .i64 (sizeW xs : Int)) ∧ Below w.heap.size w w' := by
  have hlen := bulkR_len xs
  have HX : Hid (Row w p xs) := rX
  clear rX
  have hu := uv_len10 (n := xs.length) (by omega)
  have A1 := fun w => numSize_any xs.length w (by omega)
  have hsz : Hid (xs.all Val.right = true → sizeW xs = (uv xs.length).length + (flatW xs).length) := fun h => by unfold sizeW encW; rw [if_pos h, List.length_append]
  have hsz0 : Hid (xs.all Val.right = false → sizeW xs = 0) := fun h => by unfold sizeW; rw [h]; rfl
  have hfl := flatW_le xs hn (by omega)
  generalize (uv xs.length).length = m at *
  generalize sizeW xs = sz at *
  go_enter Try.func12, Try.ntmps12
  go_wp2_with (first
    | (go_at_call 21; with_reducible refine (A1 _).mono ?_; rintro e w2 ⟨rfl, hw⟩; subst hw)
    | fail)
  clear A1
  go_loopw [3, 12] (fun s i wr => ∃ k : Nat, k ≤ xs.length ∧ i = .int .i64 k ∧ s = .int .i64 ((m + (flatW (xs.take k)).length : Nat) : Int) ∧ (∀ v ∈ xs.take k, v.right = true) ∧ Below w2.heap.size w2 wr) (fun _ i _ => xs.length - (RowKit.intOf i).toNat)
  case atStart => exact ⟨0, Nat.zero_le _, rfl, by simp [flatW], by simp, Below.refl _ _⟩
  case round =>
    obtain ⟨k, hks, rfl, rfl, hr, B⟩ := hrel
    have HB : Hid (Below w2.heap.size w2 wr) := B
    clear B
    by_cases hx : k < xs.length
    · obtain ⟨b1, o1, rfl, c10, c11, c12⟩ := (HX.out.below HB.out).at hx
      have hmem : xs[k] ∈ xs := List.getElem_mem hx
      have HT : Hid (∀ v ∈ xs.take (k + 1), v ∈ xs.take k ∨ v = xs[k]) := by
        intro v hv
        rw [List.take_succ_eq_append_getElem hx] at hv
        rcases List.mem_append.1 hv with h | h
        · exact Or.inl h
        · exact Or.inr (List.mem_singleton.1 h)
      have HA : Hid (xs[k].right = false → xs.all Val.right = false) := fun h => by
        rw [List.all_eq_false]
        exact ⟨xs[k], hmem, by rw [h]; decide⟩
      have hnx := hn _ hmem
      have hsx := bulkR_mem xs _ hmem
      have hft : (flatW (xs.take (k + 1))).length = (flatW (xs.take k)).length + (bytesW xs[k]).length := by
        rw [List.take_succ_eq_append_getElem hx, flatW_snoc, List.length_append]
      have hfk : (flatW (xs.take (k + 1))).length ≤ (flatW xs).length := by
        have h := flatW_append (xs.take (k + 1)) (xs.drop (k + 1))
        rw [List.take_append_drop] at h
        rw [h, List.length_append]
        omega
      generalize xs[k] = x at *
      have C := fun W => check_any x W
      cases hrx : x.right
      · have e1 := checkV_wrong hrx
        generalize checkV x = ch at *
        obtain ⟨xk, xn, xt⟩ := x
        simp only [Val.v] at C
        simp only [] at c10 c11 c12
        have hr' := HA.out hrx
        have e0 : sz = 0 := hsz0.out hr'
        clear hft hfk hfl hn
        go_wp2_with (first
          | (go_at_call 22; with_reducible refine (C _).mono ?_; rintro e w3 ⟨rfl, B2⟩; have HB2 : Hid (Below _ _ w3) := hid B2; clear B2)
          | fail)
        go_ret
        exact ⟨by rw [e0]; rfl, HB.out.trans ((below_new HB2.out).mono HB.out.size)⟩
      · have e1 := checkV_right hrx
        rw [e1] at C
        clear e1
        have V := fun W => vsize_any x W hrx hnx.1 hnx.2 (by omega)
        have HR : Hid (x.right = true) := hrx
        clear hrx
        generalize hbl : (bytesW x).length = bl at *
        generalize (flatW (xs.take k)).length = fl at *
        have Hft : Hid ((flatW (xs.take (k + 1))).length = fl + bl) := hft
        have hbd : fl + bl ≤ 140737488351232 := by omega
        clear hft hfk
        obtain ⟨xk, xn, xt⟩ := x
        simp only [Val.v] at C
        simp only [] at c10 c11 c12 V
        have cc : ∀ w3, Below (wr.alloc (.cells #[.int .i64 xk, .int .i64 xn, .string xt] 38)).heap.size (wr.alloc (.cells #[.int .i64 xk, .int .i64 xn, .string xt] 38)) w3 → w3.cell? ⟨wr.heap.size, 0, none⟩ = some (.int .i64 xk) ∧ w3.cell? ⟨wr.heap.size, 1, none⟩ = some (.int .i64 xn) ∧ w3.cell? ⟨wr.heap.size, 2, none⟩ = some (.string xt) := fun w3 b => ⟨below_cell b (by go_simp), below_cell b (by go_simp), below_cell b (by go_simp)⟩
        have HC := hid cc
        clear cc hn hfl
        go_wp2_with (first
          | (go_at_call 22; with_reducible refine (C _).mono ?_; rintro e w3 ⟨rfl, B2⟩; obtain ⟨g0, g1, g2⟩ := HC.out w3 B2; have HB2 := hid (below_new B2); clear B2)
          | (go_at_call 23; with_reducible refine (V _).mono ?_; rintro e w4 ⟨rfl, B4⟩; have HB4 := hid (HB2.out.trans (B4.mono HB2.out.size)); clear B4)
          | fail)
        go_roundw
        case rel => exact ⟨k + 1, by omega, by go_num, by rw [Hft.out]; go_num, fun v hv => (HT.out v hv).elim (hr v) (fun e => by rw [e]; exact HR.out), HB.out.trans (HB4.out.mono HB.out.size)⟩
        case measure => simp [RowKit.intOf]; omega
    · obtain rfl : k = xs.length := by omega
      rw [List.take_length] at hr
      have hsz' := hsz.out (List.all_eq_true.2 hr)
      have htl : (flatW (xs.take xs.length)).length = (flatW xs).length := by rw [List.take_length]
      generalize (flatW (xs.take xs.length)).length = fl at *
      clear hn
      go_wp2
      go_ret
      exact ⟨ret_int (by rw [hsz', htl]), HB.out⟩

theorem made_bytes (L : Nat) (hL : L ≤ 140737488351232) : ∃ M : Array Value, M.size = L ∧ ∀ w : World, (Instr.makeSlice 24 (.int .i64 0) (.int .i64 (L : Int))).run Try.prog w = .ok (.slice (some ⟨w.heap.size, 0, none⟩) 0 L) (w.alloc (.cells M 5)) := by
  obtain ⟨i0, hi, hz0, hz1, hz2⟩ := info_parts infoByte
  refine ⟨madeCells (Value.int .u8 0).cells (L * 1), by rw [size_madeCells, Nat.mul_one], fun w => ?_⟩
  have h := run_make (P := Try.prog) w 24 5 i0 (.int .u8 0) Try.underlying24 hi hz0 .i64 .i64 0 (L : Int) (by decide) (by omega) (by rw [hz2]; omega) (by omega)
  rw [hz1] at h
  simpa using h
theorem Wk.new (w : World) (base : Nat) (M : Array Value) (L : Nat) (ty : TypeId) (hb : base ≤ w.heap.size) (hM : M.size = L) (hL : L ≤ 140737488351232) :
    Wk ((w.alloc (.cells M 5)).alloc (.cells #[.slice (some ⟨w.heap.size, 0, none⟩) 0 L] ty)) base (w.heap.size + 1) [] (.slice (some ⟨w.heap.size, 0, none⟩) 0 L) := by
  refine ⟨?_, by go_simp, by go_simp, by simp [Value.ownBlock], by omega⟩
  exact World.ownsRow.alloc (World.ownsRow_made w M L hb (by unfold maxLen; omega) (by omega)) _
theorem alloc2_below (w : World) (o o' : Obj) : Below w.heap.size w ((w.alloc o).alloc o') := ((Below.refl _ _).alloc (Nat.le_refl _) o).alloc (by simp) o'

/-- What Encode answers. -/
def encEndW (xs : List Val) (w : World) (e : Ending) (w' : World) : Prop :=
  Below w.heap.size w w' ∧ ((xs.all Val.right = false ∧ e = .returned (.tuple #[.slice none 0 0, .int .i64 3])) ∨ (xs.all Val.right = true ∧ 2048 < (encW xs).length ∧ e = .returned (.tuple #[.slice none 0 0, .int .i64 8])) ∨
    (xs.all Val.right = true ∧ (encW xs).length ≤ 2048 ∧ ∃ v, e = .returned (.tuple #[v, .int .i64 0]) ∧ OwnB w' w.heap.size v (encW xs)))

set_option maxRecDepth 20000 in
set_option maxHeartbeats 4000000 in
theorem rencode_any (p : Option Addr) (xs : List Val) (cx : Nat) (w : World) (rX : Row w p xs) (hn : ∀ v ∈ xs, -9223372036854775808 ≤ v.n ∧ v.n ≤ 9223372036854775807) (hb : 11 * bulkR xs + 30 ≤ 140737488351232) :
    Calls Try.prog 10 #[.slice p xs.length cx] w (encEndW xs w) := by
  have hlen := bulkR_len xs
  have HX : Hid (Row w p xs) := rX
  have S := rsize_any p xs cx w rX hn hb
  have hpos : 0 < (encW xs).length := by
    have := uv_pos xs.length
    simp only [encW, List.length_append]
    omega
  clear rX
  cases hall : xs.all Val.right
  · have e0 : sizeW xs = 0 := by unfold sizeW; rw [hall]; rfl
    rw [e0] at S
    go_enter Try.func10, Try.ntmps10
    go_wp2_with (first
      | (go_at_call 12; with_reducible refine S.mono ?_; rintro e w2 ⟨rfl, B2⟩; have HB2 := hid B2; clear B2)
      | fail)
    go_returns
    exact ⟨HB2.out, Or.inl ⟨hall, rfl⟩⟩
  · have e0 : sizeW xs = (encW xs).length := by unfold sizeW; rw [if_pos hall]
    rw [e0] at S
    have hel : (encW xs).length ≤ 140737488351232 := by
      have h1 := flatW_le xs hn (by omega)
      have h2 := uv_len10 (n := xs.length) (by omega)
      simp only [encW, List.length_append]
      omega
    by_cases hbig : 2048 < (encW xs).length
    · have HBig : Hid (2048 < (encW xs).length) := hbig
      generalize hL : (encW xs).length = L at *
      go_enter Try.func10, Try.ntmps10
      go_wp2_with (first
        | (go_at_call 12; with_reducible refine S.mono ?_; rintro e w2 ⟨rfl, B2⟩; have HB2 := hid B2; clear B2)
        | fail)
      go_returns
      exact ⟨HB2.out, Or.inr (Or.inl ⟨hall, by rw [hL]; exact HBig.out, rfl⟩)⟩
    · have HSm : Hid ((encW xs).length ≤ 2048) := by show _ ≤ _; omega
      have A1 := fun base wb v w W => rnum_any base wb xs.length [] v w (by omega) W (by simp)
      have HRt : Hid (∀ v ∈ xs, v.right = true) := List.all_eq_true.1 hall
      obtain ⟨M, hM, HM⟩ := made_bytes (encW xs).length hel
      generalize hL : (encW xs).length = L at *
      go_enter Try.func10, Try.ntmps10
      go_wp2_with (first
        | (go_at_call 12; with_reducible refine S.mono ?_; rintro e w2 ⟨rfl, B2⟩; have HB2 := hid B2; have W0 := Wk.new w2 w.heap.size M L 40 B2.size hM hel; have N0 := A1 _ _ _ _ W0; have HW0 := hid W0; clear B2 W0)
        | (go_at_call 18; with_reducible refine N0.mono ?_; rintro e w3 ⟨rfl, v3, W3, P3⟩; have HB3 := hid (HB2.out.trans (((alloc2_below w2 _ _).mono HB2.out.size).trans (HW0.out.under P3))); have HW3 := hid W3; clear W3 P3 N0)
        | fail)
      clear A1 S HM hM
      have hwb : w.heap.size ≤ w2.heap.size + 1 := Nat.le_succ_of_le HB2.out.size
      generalize w2.heap.size + 1 = wb at *
      clear HW0 HB2
      go_loopw [23] (fun i wr => ∃ k : Nat, k ≤ xs.length ∧ i = .int .i64 k ∧ ∃ v1, Wk wr w.heap.size wb (uv xs.length ++ flatW (xs.take k)) v1 ∧ Below w.heap.size w wr) (fun i _ => xs.length - (RowKit.intOf i).toNat)
      case atStart => exact ⟨0, Nat.zero_le _, rfl, _, by simpa [flatW] using HW3.out, HB3.out⟩
      case round =>
        clear HW3 HB3
        obtain ⟨k, hks, rfl, v1, W1, B1⟩ := hrel
        by_cases hx : k < xs.length
        · obtain ⟨b1, o1, rfl, c10, c11, c12⟩ := (HX.out.below B1).at hx
          have hmem : xs[k] ∈ xs := List.getElem_mem hx
          have HT : Hid (uv xs.length ++ flatW (xs.take (k + 1)) = uv xs.length ++ flatW (xs.take k) ++ bytesW xs[k]) := by
            show _ = _
            rw [List.take_succ_eq_append_getElem hx, flatW_snoc, List.append_assoc]
          have hle : (uv xs.length ++ flatW (xs.take k)).length + xs[k].s.size + 20 ≤ 140737488351232 := by
            have h1 := uv_len10 (n := xs.length) (by omega)
            have hnt : ∀ v ∈ xs.take k, -9223372036854775808 ≤ v.n ∧ v.n ≤ 9223372036854775807 := fun v hv => hn v (List.mem_of_mem_take hv)
            have h2 := bulkR_take xs (k + 1)
            rw [List.take_succ_eq_append_getElem hx, bulkR_append] at h2
            simp only [bulkR] at h2
            have h3 := flatW_le (xs.take k) hnt (by omega)
            rw [List.length_append]
            omega
          have VA := fun v W (hW : Wk W w.heap.size wb (uv xs.length ++ flatW (xs.take k)) v) => wv_any w.heap.size wb xs[k] (uv xs.length ++ flatW (xs.take k)) v W (HRt.out _ hmem) (hn _ hmem).1 (hn _ hmem).2 hW hle
          generalize xs[k] = x at *
          generalize uv xs.length ++ flatW (xs.take k) = pre at *
          obtain ⟨xk, xn, xt⟩ := x
          simp only [] at c10 c11 c12 VA
          have W2 := W1.alloc (.cells #[.int .i64 xk, .int .i64 xn, .string xt] 38)
          have V2 := VA _ _ W2
          unfold WV at V2
          have HB2 : Hid (Below w.heap.size w (wr.alloc (.cells #[.int .i64 xk, .int .i64 xn, .string xt] 38))) := B1.alloc B1.size _
          have HW2 := hid W2
          clear B1 W1 W2 VA
          go_wp2_with (first
            | (go_at_call 19; with_reducible refine V2.mono ?_; rintro e w3 ⟨rfl, v3, W3, P3⟩; have HB3 := hid (HB2.out.trans (HW2.out.under P3)); have HW3 := hid W3; clear W3 P3)
            | fail)
          go_roundw
          case rel => exact ⟨k + 1, by omega, by go_num, v3, by rw [HT.out]; exact HW3.out, HB3.out⟩
          case measure => simp [RowKit.intOf]; omega
        · obtain rfl : k = xs.length := by omega
          rw [List.take_length] at W1
          have d0 := W1.c0
          have HO : Hid (OwnB wr w.heap.size v1 (encW xs)) := W1.own
          have HB : Hid (Below w.heap.size w wr) := B1
          clear W1 B1
          go_wp2
          go_returns
          exact ⟨HB.out, Or.inr (Or.inr ⟨hall, by rw [hL]; exact HSm.out, _, rfl, HO.out⟩)⟩
end Go.Proofs.Ytaoeonbhlpnjiaa
