/- What (*writer).value does: the bytes of a right value more. Condition: the bytes lie within the reach. -/
import Derived.Test.YtpdfgifkommpdabKeysWrite
namespace Go.Proofs.Ytpdfgifkommpdab
open Go.RowKit Go.Lib Go.Sort
set_option linter.unusedVariables false

theorem right_cases {a : Val} (h : a.right = true) : (a.k = 0 ∧ a.n = 0 ∧ a.s.data.toList = []) ∨ (a.k = 1 ∧ (a.n = 0 ∨ a.n = 1) ∧ a.s.data.toList = []) ∨ (a.k = 2 ∧ a.s.data.toList = []) ∨ (a.k = 3 ∧ a.n = 0) ∨ (a.k = 4 ∧ a.n = 0) := by
  unfold Val.right at h
  simp only [Bool.or_eq_true, Bool.and_eq_true, beq_iff_eq, List.isEmpty_iff] at h
  rcases h with ((⟨⟨h1, h2⟩, h3⟩ | ⟨⟨h1, h2⟩, h3⟩) | ⟨h1, h2⟩) | ⟨h1 | h1, h2⟩
  · exact Or.inl ⟨h1, h2, h3⟩
  · exact Or.inr (Or.inl ⟨h1, h2, h3⟩)
  · exact Or.inr (Or.inr (Or.inl ⟨h1, h2⟩))
  · exact Or.inr (Or.inr (Or.inr (Or.inl ⟨h1, h2⟩)))
  · exact Or.inr (Or.inr (Or.inr (Or.inr ⟨h1, h2⟩)))

theorem b2 : (((2 : UInt8).toNat : Nat) : Int) = 2 := rfl
theorem b3 : (((3 : UInt8).toNat : Nat) : Int) = 3 := rfl
theorem b4 : (((4 : UInt8).toNat : Nat) : Int) = 4 := rfl
theorem b5 : (((5 : UInt8).toNat : Nat) : Int) = 5 := rfl

/-- The cells of a boxed value, behind a put. -/
theorem box_past {wb : Nat} {v v' : Value} {w w' : World} {k n : Int} {s : ByteArray} {ty : TypeId} {m : Int} {l : List UInt8} (hW : Wr w wb m l v) (P : Past wb v v' (w.alloc (.cells #[.int .i64 k, .int .i64 n, .string s] ty)) w') :
    w'.cell? ⟨w.heap.size, 0, none⟩ = some (.int .i64 k) ∧ w'.cell? ⟨w.heap.size, 1, none⟩ = some (.int .i64 n) ∧ w'.cell? ⟨w.heap.size, 2, none⟩ = some (.string s) := by
  have hne : w.heap.size ≠ wb := (Nat.ne_of_lt hW.lt).symm
  exact ⟨P.cell (by go_simp) hne hW.fresh, P.cell (by go_simp) hne hW.fresh, P.cell (by go_simp) hne hW.fresh⟩

def WP (wb : Nat) (t : Bool) (l : List UInt8) (v : Value) (w : World) (e : Ending) (w' : World) : Prop := e = .returned (.tuple #[]) ∧ ∃ v', Wr w' wb (msk t) l v' ∧ Past wb v v' w w'

set_option maxHeartbeats 1000000 in
theorem wvalue_0 (t : Bool) (wb : Nat) (n : Int) (s : ByteArray) (l : List UInt8) (v : Value) (w : World) (hW : Wr w wb (msk t) l v) (hl : l.length + 9 ≤ 140737488351232) :
    Calls Try.prog 13 #[.pointer (some ⟨wb, 0, none⟩), .agg #[.int .i64 0, .int .i64 n, .string s]] w (WP wb t (l ++ [tb t 1]) v w) := by
  have A1 := put_any t wb 1 1 l v _ b1 (hW.alloc (.cells #[.int .i64 0, .int .i64 n, .string s] 23)) (by omega)
  go_enter Try.func13, Try.ntmps13
  go_wp2_with (go_at_call 19; with_reducible refine A1.mono ?_; rintro e w2 ⟨rfl, v2, W2, P2⟩; obtain ⟨k0, k1, k2⟩ := box_past hW P2)
  refine end0 Try.results13 rfl ?_
  exact ⟨rfl, v2, W2, (Past.alloc _ _ _ _).trans P2⟩

set_option maxHeartbeats 1000000 in
theorem wvalue_1 (t : Bool) (wb : Nat) (n : Int) (c : UInt8) (hc : (c = 0 ∧ n = 0) ∨ (c = 1 ∧ n = 1)) (s : ByteArray) (l : List UInt8) (v : Value) (w : World) (hW : Wr w wb (msk t) l v) (hl : l.length + 9 ≤ 140737488351232) :
    Calls Try.prog 13 #[.pointer (some ⟨wb, 0, none⟩), .agg #[.int .i64 1, .int .i64 n, .string s]] w (WP wb t (l ++ [tb t 2] ++ [tb t c]) v w) := by
  have A1 := put_any t wb 2 2 l v _ b2 (hW.alloc (.cells #[.int .i64 1, .int .i64 n, .string s] 23)) (by omega)
  have hb : (c.toNat : Int) = n := by rcases hc with ⟨rfl, rfl⟩ | ⟨rfl, rfl⟩ <;> rfl
  have hn : 0 ≤ n ∧ n < 256 := by rcases hc with ⟨rfl, rfl⟩ | ⟨rfl, rfl⟩ <;> decide
  have A2 := fun v2 w2 W2 => put_any t wb c n (l ++ [tb t 2]) v2 w2 hb W2 (by simp; omega)
  obtain ⟨hn1, hn2⟩ := hn
  go_enter Try.func13, Try.ntmps13
  go_wp2_with (go_at_call 19; (first
    | (with_reducible refine A1.mono ?_; rintro e w2 ⟨rfl, v2, W2, P2⟩; obtain ⟨k0, k1, k2⟩ := box_past hW P2; have A3 := A2 v2 w2 W2)
    | (with_reducible refine A3.mono ?_; rintro e w3 ⟨rfl, v3, W3, P3⟩)))
  refine end0 Try.results13 rfl ?_
  exact ⟨rfl, v3, W3, ((Past.alloc _ _ _ _).trans P2).trans P3⟩

set_option maxHeartbeats 1000000 in
theorem wvalue_2 (t : Bool) (wb : Nat) (n : Int) (h1 : -9223372036854775808 ≤ n) (h2 : n ≤ 9223372036854775807) (s : ByteArray) (l : List UInt8) (v : Value) (w : World) (hW : Wr w wb (msk t) l v) (hl : l.length + 9 ≤ 140737488351232) :
    Calls Try.prog 13 #[.pointer (some ⟨wb, 0, none⟩), .agg #[.int .i64 2, .int .i64 n, .string s]] w (WP wb t (l ++ [tb t 3] ++ (be 8 (n + 9223372036854775808).toNat).map (tb t)) v w) := by
  have A1 := put_any t wb 3 3 l v _ b3 (hW.alloc (.cells #[.int .i64 2, .int .i64 n, .string s] 23)) (by omega)
  have A2 := fun v2 w2 W2 => wnumber_any t wb n (l ++ [tb t 3]) v2 w2 h1 h2 W2 (by simp; omega)
  go_enter Try.func13, Try.ntmps13
  go_wp2_with (first
    | (go_at_call 19; with_reducible refine A1.mono ?_; rintro e w2 ⟨rfl, v2, W2, P2⟩; obtain ⟨k0, k1, k2⟩ := box_past hW P2; have A3 := A2 v2 w2 W2)
    | (go_at_call 20; with_reducible refine A3.mono ?_; rintro e w3 ⟨rfl, v3, W3, P3⟩)
    | fail)
  refine end0 Try.results13 rfl ?_
  exact ⟨rfl, v3, W3, ((Past.alloc _ _ _ _).trans P2).trans P3⟩

set_option maxHeartbeats 1000000 in
theorem wvalue_34 (t : Bool) (wb : Nat) (k : Int) (c : UInt8) (hk : (k = 3 ∧ c = 4) ∨ (k = 4 ∧ c = 5)) (n : Int) (s : ByteArray) (l : List UInt8) (v : Value) (w : World) (hW : Wr w wb (msk t) l v) (hl : l.length + 2 * s.size + 9 ≤ 140737488351232) :
    Calls Try.prog 13 #[.pointer (some ⟨wb, 0, none⟩), .agg #[.int .i64 k, .int .i64 n, .string s]] w (WP wb t (l ++ [tb t c] ++ (esc s.data.toList ++ [0, 1]).map (tb t)) v w) := by
  have hc : (c.toNat : Int) = k + 1 := by rcases hk with ⟨rfl, rfl⟩ | ⟨rfl, rfl⟩ <;> rfl
  have A2 := fun v2 w2 W2 => wtext_any t wb s (l ++ [tb t c]) v2 w2 W2 (by simp; omega)
  rcases hk with ⟨rfl, rfl⟩ | ⟨rfl, rfl⟩
  · have A1 := put_any t wb 4 4 l v _ b4 (hW.alloc (.cells #[.int .i64 3, .int .i64 n, .string s] 23)) (by omega)
    go_enter Try.func13, Try.ntmps13
    go_wp2_with (first
      | (go_at_call 19; with_reducible refine A1.mono ?_; rintro e w2 ⟨rfl, v2, W2, P2⟩; obtain ⟨k0, k1, k2⟩ := box_past hW P2; have A3 := A2 v2 w2 W2)
      | (go_at_call 21; with_reducible refine A3.mono ?_; rintro e w3 ⟨rfl, v3, W3, P3⟩)
      | fail)
    refine end0 Try.results13 rfl ?_
    exact ⟨rfl, v3, W3, ((Past.alloc _ _ _ _).trans P2).trans P3⟩
  · have A1 := put_any t wb 5 5 l v _ b5 (hW.alloc (.cells #[.int .i64 4, .int .i64 n, .string s] 23)) (by omega)
    go_enter Try.func13, Try.ntmps13
    go_wp2_with (first
      | (go_at_call 19; with_reducible refine A1.mono ?_; rintro e w2 ⟨rfl, v2, W2, P2⟩; obtain ⟨k0, k1, k2⟩ := box_past hW P2; have A3 := A2 v2 w2 W2)
      | (go_at_call 21; with_reducible refine A3.mono ?_; rintro e w3 ⟨rfl, v3, W3, P3⟩)
      | fail)
    refine end0 Try.results13 rfl ?_
    exact ⟨rfl, v3, W3, ((Past.alloc _ _ _ _).trans P2).trans P3⟩

theorem wvalue_any (t : Bool) (wb : Nat) (a : Val) (l : List UInt8) (v : Value) (w : World) (hr : a.right = true) (h1 : -9223372036854775808 ≤ a.n) (h2 : a.n ≤ 9223372036854775807) (hW : Wr w wb (msk t) l v) (hl : l.length + 2 * a.s.size + 9 ≤ 140737488351232) :
    Calls Try.prog 13 #[.pointer (some ⟨wb, 0, none⟩), .agg #[.int .i64 a.k, .int .i64 a.n, .string a.s]] w (WP wb t (l ++ (bytesV a).map (tb t)) v w) := by
  obtain ⟨k, n, s⟩ := a
  rcases right_cases hr with h | h | h | h | h
  · obtain ⟨rfl, _⟩ : k = 0 ∧ n = 0 := ⟨h.1, h.2.1⟩
    exact wvalue_0 t wb n s l v w hW (by simp only [] at hl; omega)
  · obtain ⟨rfl, hn⟩ : k = 1 ∧ (n = 0 ∨ n = 1) := ⟨h.1, h.2.1⟩
    have hb : ∀ c : UInt8, UInt8.ofNat n.toNat = c → l ++ (bytesV ⟨1, n, s⟩).map (tb t) = l ++ [tb t 2] ++ [tb t c] := by
      intro c hc
      simp [bytesV, bodyV, hc]
    rcases hn with rfl | rfl
    · rw [hb 0 rfl]
      exact wvalue_1 t wb 0 0 (Or.inl ⟨rfl, rfl⟩) s l v w hW (by simp only [] at hl; omega)
    · rw [hb 1 rfl]
      exact wvalue_1 t wb 1 1 (Or.inr ⟨rfl, rfl⟩) s l v w hW (by simp only [] at hl; omega)
  · obtain rfl : k = 2 := h.1
    have hb : l ++ (bytesV ⟨2, n, s⟩).map (tb t) = l ++ [tb t 3] ++ (be 8 (n + 9223372036854775808).toNat).map (tb t) := by
      simp [bytesV, bodyV]
    rw [hb]
    exact wvalue_2 t wb n h1 h2 s l v w hW (by simp only [] at hl; omega)
  · obtain rfl : k = 3 := h.1
    have hb : l ++ (bytesV ⟨3, n, s⟩).map (tb t) = l ++ [tb t 4] ++ (esc s.data.toList ++ [0, 1]).map (tb t) := by
      simp [bytesV, bodyV]
    rw [hb]
    exact wvalue_34 t wb 3 4 (Or.inl ⟨rfl, rfl⟩) n s l v w hW (by simp only [] at hl; omega)
  · obtain rfl : k = 4 := h.1
    have hb : l ++ (bytesV ⟨4, n, s⟩).map (tb t) = l ++ [tb t 5] ++ (esc s.data.toList ++ [0, 1]).map (tb t) := by
      simp [bytesV, bodyV]
    rw [hb]
    exact wvalue_34 t wb 4 5 (Or.inr ⟨rfl, rfl⟩) n s l v w hW (by simp only [] at hl; omega)
end Go.Proofs.Ytpdfgifkommpdab
