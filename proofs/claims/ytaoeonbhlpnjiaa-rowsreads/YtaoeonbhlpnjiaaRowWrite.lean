/- What (*writer).value of package rows does: the bytes of a right value more. Condition: the bytes lie within the reach. -/
import Derived.Test.YtaoeonbhlpnjiaaRowSign
namespace Go.Proofs.Ytaoeonbhlpnjiaa
open Go.RowKit Go.Lib Go.Sort
set_option linter.unusedVariables false

/-- The cells of a boxed value, behind a put. -/
theorem boxk_past {base wb : Nat} {v v' : Value} {w w' : World} {k n : Int} {s : ByteArray} {ty : TypeId} {l : List UInt8} (hW : Wk w base wb l v) (P : Past wb v v' (w.alloc (.cells #[.int .i64 k, .int .i64 n, .string s] ty)) w') :
    w'.cell? ⟨w.heap.size, 0, none⟩ = some (.int .i64 k) ∧ w'.cell? ⟨w.heap.size, 1, none⟩ = some (.int .i64 n) ∧ w'.cell? ⟨w.heap.size, 2, none⟩ = some (.string s) := by
  have hne : w.heap.size ≠ wb := (Nat.ne_of_lt hW.lt).symm
  exact ⟨P.cell (by go_simp) hne hW.fresh, P.cell (by go_simp) hne hW.fresh, P.cell (by go_simp) hne hW.fresh⟩

def WV (base wb : Nat) (l : List UInt8) (v : Value) (w : World) (e : Ending) (w' : World) : Prop := e = .returned (.tuple #[]) ∧ ∃ v', Wk w' base wb l v' ∧ Past wb v v' w w'

set_option maxHeartbeats 1000000 in
theorem wv_0 (base wb : Nat) (n : Int) (s : ByteArray) (l : List UInt8) (v : Value) (w : World) (hW : Wk w base wb l v) (hl : l.length + 20 ≤ 140737488351232) :
    Calls Try.prog 19 #[.pointer (some ⟨wb, 0, none⟩), .agg #[.int .i64 0, .int .i64 n, .string s]] w (WV base wb (l ++ [0]) v w) := by
  have A1 := rput_any base wb 0 0 l v _ b0 (hW.alloc (.cells #[.int .i64 0, .int .i64 n, .string s] 38)) (by omega)
  go_enter Try.func19, Try.ntmps19
  go_wp2_with (go_at_call 31; with_reducible refine A1.mono ?_; rintro e w2 ⟨rfl, v2, W2, P2⟩; obtain ⟨k0, k1, k2⟩ := boxk_past hW P2)
  refine end0 Try.results19 rfl ?_
  exact ⟨rfl, v2, W2, (Past.alloc _ _ _ _).trans P2⟩

set_option maxHeartbeats 1000000 in
theorem wv_1 (base wb : Nat) (n : Int) (c : UInt8) (hc : (c = 0 ∧ n = 0) ∨ (c = 1 ∧ n = 1)) (s : ByteArray) (l : List UInt8) (v : Value) (w : World) (hW : Wk w base wb l v) (hl : l.length + 20 ≤ 140737488351232) :
    Calls Try.prog 19 #[.pointer (some ⟨wb, 0, none⟩), .agg #[.int .i64 1, .int .i64 n, .string s]] w (WV base wb (l ++ [1] ++ [c]) v w) := by
  have A1 := rput_any base wb 1 1 l v _ b1 (hW.alloc (.cells #[.int .i64 1, .int .i64 n, .string s] 38)) (by omega)
  have hb : (c.toNat : Int) = n := by rcases hc with ⟨rfl, rfl⟩ | ⟨rfl, rfl⟩ <;> rfl
  have hn : 0 ≤ n ∧ n < 256 := by rcases hc with ⟨rfl, rfl⟩ | ⟨rfl, rfl⟩ <;> decide
  have A2 := fun v2 w2 W2 => rput_any base wb c n (l ++ [1]) v2 w2 hb W2 (by simp; omega)
  obtain ⟨hn1, hn2⟩ := hn
  go_enter Try.func19, Try.ntmps19
  go_wp2_with (go_at_call 31; (first
    | (with_reducible refine A1.mono ?_; rintro e w2 ⟨rfl, v2, W2, P2⟩; obtain ⟨k0, k1, k2⟩ := boxk_past hW P2; have A3 := A2 v2 w2 W2)
    | (with_reducible refine A3.mono ?_; rintro e w3 ⟨rfl, v3, W3, P3⟩)))
  refine end0 Try.results19 rfl ?_
  exact ⟨rfl, v3, W3, ((Past.alloc _ _ _ _).trans P2).trans P3⟩

set_option maxHeartbeats 1000000 in
theorem wv_2 (base wb : Nat) (n : Int) (h1 : -9223372036854775808 ≤ n) (h2 : n ≤ 9223372036854775807) (s : ByteArray) (l : List UInt8) (v : Value) (w : World) (hW : Wk w base wb l v) (hl : l.length + 20 ≤ 140737488351232) :
    Calls Try.prog 19 #[.pointer (some ⟨wb, 0, none⟩), .agg #[.int .i64 2, .int .i64 n, .string s]] w (WV base wb (l ++ [2] ++ uv (zz n)) v w) := by
  have A1 := rput_any base wb 2 2 l v _ b2 (hW.alloc (.cells #[.int .i64 2, .int .i64 n, .string s] 38)) (by omega)
  have A2 := fun v2 w2 W2 => rnum_any base wb (zz n) (l ++ [2]) v2 w2 (zz_lt h1 h2) W2 (by simp; omega)
  have A4 := fun w => withoutSign_any n w h1 h2
  generalize uv (zz n) = u at *
  generalize zz n = z at *
  go_enter Try.func19, Try.ntmps19
  go_wp2_with (first
    | (go_at_call 31; with_reducible refine A1.mono ?_; rintro e w2 ⟨rfl, v2, W2, P2⟩; obtain ⟨k0, k1, k2⟩ := boxk_past hW P2; have A3 := A2 v2 w2 W2)
    | (go_at_call 32; with_reducible refine (A4 _).mono ?_; rintro e w3 ⟨rfl, hw⟩; subst hw)
    | (go_at_call 18; with_reducible refine A3.mono ?_; rintro e w3 ⟨rfl, v3, W3, P3⟩)
    | fail)
  refine end0 Try.results19 rfl ?_
  exact ⟨rfl, v3, W3, ((Past.alloc _ _ _ _).trans P2).trans P3⟩

set_option maxHeartbeats 2000000 in
theorem wv_34 (base wb : Nat) (k : Int) (c : UInt8) (hk : (k = 3 ∧ c = 3) ∨ (k = 4 ∧ c = 4)) (n : Int) (s : ByteArray) (l : List UInt8) (v : Value) (w : World) (hW : Wk w base wb l v) (hl : l.length + s.size + 20 ≤ 140737488351232) :
    Calls Try.prog 19 #[.pointer (some ⟨wb, 0, none⟩), .agg #[.int .i64 k, .int .i64 n, .string s]] w (WV base wb (l ++ [c] ++ uv s.size ++ s.data.toList) v w) := by
  have hc : (c.toNat : Int) = k := by rcases hk with ⟨rfl, rfl⟩ | ⟨rfl, rfl⟩ <;> rfl
  have hu := uv_len10 (n := s.size) (by omega)
  have A1 := rput_any base wb c k l v _ hc (hW.alloc (.cells #[.int .i64 k, .int .i64 n, .string s] 38)) (by omega)
  have A2 := fun v2 w2 W2 => rnum_any base wb s.size (l ++ [c]) v2 w2 (by omega) W2 (by simp; omega)
  have hll : (l ++ [c] ++ uv s.size).length + s.size ≤ 140737488351232 := by simp; omega
  generalize l ++ [c] ++ uv s.size = L at *
  rcases hk with ⟨rfl, rfl⟩ | ⟨rfl, rfl⟩
  all_goals
    clear hc
    go_enter Try.func19, Try.ntmps19
    go_wp2_with (first
      | (go_at_call 31; with_reducible refine A1.mono ?_; rintro e w2 ⟨rfl, v2, W2, P2⟩; obtain ⟨k0, k1, k2⟩ := boxk_past hW P2; have A3 := A2 v2 w2 W2; have HP2 := hid P2; clear W2 P2)
      | (go_at_call 18; with_reducible refine A3.mono ?_; rintro e w3 ⟨rfl, v3, W3, P3⟩; have HP3 := hid (HP2.out.trans P3); have HW3 := hid W3; obtain ⟨g0, g1, g2⟩ := boxk_past hW HP3.out; clear k0 k1 k2 P3 W3)
      | fail)
    have hlt := HW3.out.lt
    have hno : Hid (v3.ownBlock ≠ some wb) := HW3.out.no
    obtain ⟨o3, c3, f3, _, ge⟩ := HW3.out
    have HO : Hid (OwnB w3 base v3 L) := o3
    clear o3
    go_region_law (refine step_append_str base (.tmp 38) (.tmp 40) v3 L s rfl rfl rfl rfl HO.out.drew hll (by simp; omega) ?_; intro v' w' O' G' A'; obtain ⟨pp, cp, hv'⟩ := own_form O' (L.length + s.size) (by simp); subst hv'; have P' : ∀ wx, Past wx v3 (.slice pp (L.length + s.size) cp) w3 w' := (fun wx => past_append' (below_drew w3) G' A'); have q0 := (P' w3.heap.size).cell c3 (Nat.ne_of_lt hlt) hno.out; have q1 := (World.frozen?_of_block (a := ⟨wb, 0, none⟩) ((P' w3.heap.size).block wb hlt (Nat.ne_of_lt hlt) hno.out)).trans f3; have HO' := hid O'; have HP' := hid P'; clear O' P' G' A')
    all_goals
      go_wp2
      refine end0 Try.results19 rfl ?_
      exact ⟨rfl, _, HW3.out.made (HP'.out _) HO'.out, ((Past.alloc _ _ _ _).trans HP3.out).trans (HP'.out wb).put⟩

theorem wv_any (base wb : Nat) (a : Val) (l : List UInt8) (v : Value) (w : World) (hr : a.right = true) (h1 : -9223372036854775808 ≤ a.n) (h2 : a.n ≤ 9223372036854775807) (hW : Wk w base wb l v) (hl : l.length + a.s.size + 20 ≤ 140737488351232) :
    Calls Try.prog 19 #[.pointer (some ⟨wb, 0, none⟩), .agg #[.int .i64 a.k, .int .i64 a.n, .string a.s]] w (WV base wb (l ++ bytesW a) v w) := by
  obtain ⟨k, n, s⟩ := a
  rcases right_cases hr with h | h | h | h | h
  · obtain ⟨rfl, _⟩ : k = 0 ∧ n = 0 := ⟨h.1, h.2.1⟩
    exact wv_0 base wb n s l v w hW (by simp only [] at hl; omega)
  · obtain ⟨rfl, hn⟩ : k = 1 ∧ (n = 0 ∨ n = 1) := ⟨h.1, h.2.1⟩
    have hb : ∀ c : UInt8, UInt8.ofNat n.toNat = c → l ++ bytesW ⟨1, n, s⟩ = l ++ [1] ++ [c] := by
      intro c hc
      simp [bytesW, bodyW, hc]
    rcases hn with rfl | rfl
    · rw [hb 0 rfl]
      exact wv_1 base wb 0 0 (Or.inl ⟨rfl, rfl⟩) s l v w hW (by simp only [] at hl; omega)
    · rw [hb 1 rfl]
      exact wv_1 base wb 1 1 (Or.inr ⟨rfl, rfl⟩) s l v w hW (by simp only [] at hl; omega)
  · obtain rfl : k = 2 := h.1
    have hb : l ++ bytesW ⟨2, n, s⟩ = l ++ [2] ++ uv (zz n) := by simp [bytesW, bodyW]
    rw [hb]
    exact wv_2 base wb n h1 h2 s l v w hW (by simp only [] at hl; omega)
  · obtain rfl : k = 3 := h.1
    have hb : l ++ bytesW ⟨3, n, s⟩ = l ++ [3] ++ uv s.size ++ s.data.toList := by simp [bytesW, bodyW]
    rw [hb]
    exact wv_34 base wb 3 3 (Or.inl ⟨rfl, rfl⟩) n s l v w hW (by simp only [] at hl; omega)
  · obtain rfl : k = 4 := h.1
    have hb : l ++ bytesW ⟨4, n, s⟩ = l ++ [4] ++ uv s.size ++ s.data.toList := by simp [bytesW, bodyW]
    rw [hb]
    exact wv_34 base wb 4 4 (Or.inr ⟨rfl, rfl⟩) n s l v w hW (by simp only [] at hl; omega)

theorem vsize_any (a : Val) (w : World) (hr : a.right = true) (h1 : -9223372036854775808 ≤ a.n) (h2 : a.n ≤ 9223372036854775807) (hs : a.s.size ≤ 140737488351232) :
    Calls Try.prog 23 #[.agg #[.int .i64 a.k, .int .i64 a.n, .string a.s]] w fun e w' => e = .returned (.int .i64 ((bytesW a).length : Int)) ∧ Below w.heap.size w w' := by
  obtain ⟨k, n, s⟩ := a
  rcases right_cases hr with h | h | h | h | h
  · obtain rfl : k = 0 := h.1
    rw [bytesW_0]
    exact vsize_0 n s w
  · obtain rfl : k = 1 := h.1
    rw [bytesW_1]
    exact vsize_1 n s w
  · obtain rfl : k = 2 := h.1
    rw [bytesW_2]
    exact (vsize_2 n s w h1 h2).mono fun e w' h => ⟨by rw [h.1]; simp, h.2⟩
  · obtain rfl : k = 3 := h.1
    rw [bytesW_34 3 n s (Or.inl rfl)]
    exact (vsize_34 3 n s w (Or.inl rfl) hs).mono fun e w' h => ⟨by rw [h.1]; simp, h.2⟩
  · obtain rfl : k = 4 := h.1
    rw [bytesW_34 4 n s (Or.inr rfl)]
    exact (vsize_34 4 n s w (Or.inr rfl) hs).mono fun e w' h => ⟨by rw [h.1]; simp, h.2⟩
end Go.Proofs.Ytaoeonbhlpnjiaa
