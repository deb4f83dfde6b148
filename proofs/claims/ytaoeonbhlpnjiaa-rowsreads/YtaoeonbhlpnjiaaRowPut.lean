/- What (*writer).put and (*writer).number of package rows do, and numberSize, withoutSign, withSign. Condition: the bytes lie within the reach. -/
import Derived.Test.YtaoeonbhlpnjiaaMemBytes
import Derived.Test.YtaoeonbhlpnjiaaRowPlain
import Derived.Laws.BitsAllLaws
namespace Go.Proofs.Ytaoeonbhlpnjiaa
open Go.RowKit Go.Lib Go.Sort
set_option linter.unusedVariables false

/-- A writer at a block: its bytes. -/
structure Wk (w : World) (base wb : Nat) (l : List UInt8) (v : Value) : Prop where
  own : OwnB w base v l
  c0 : w.cell? ⟨wb, 0, none⟩ = some v
  f0 : w.frozen? ⟨wb, 0, none⟩ = false
  no : v.ownBlock ≠ some wb
  ge : base ≤ wb
theorem Wk.lt {w : World} {base wb : Nat} {l : List UInt8} {v : Value} (h : Wk w base wb l v) : wb < w.heap.size := cell_lt h.c0
theorem own_set {w : World} {base wb o : Nat} {l : List UInt8} {v x : Value} (h : OwnB w base v l) (hn : v.ownBlock ≠ some wb) : OwnB (w.setCell ⟨wb, o, none⟩ x) base v l := by
  obtain ⟨h1, h2⟩ := h
  refine ⟨h1, ?_⟩
  rcases h2 with h2 | ⟨g, cap, cur, hv, hg, hh, r⟩
  · exact Or.inl h2
  · refine Or.inr ⟨g, cap, cur, hv, hg, ?_, r⟩
    subst hv
    rw [Below.heap_setCell _ _ _ _ (fun e => hn (by rw [Value.ownBlock, e]))]
    exact hh
theorem Wk.made {w w3 : World} {base wb : Nat} {l l' : List UInt8} {v v' : Value} (h : Wk w base wb l v) (P : Past w.heap.size v v' w w3) (O : OwnB w3 base v' l') : Wk (w3.setCell ⟨wb, 0, none⟩ v') base wb l' v' := by
  have hne : wb ≠ w.heap.size := Nat.ne_of_lt h.lt
  have d0 := P.cell h.c0 hne h.no
  have e0 : w3.frozen? ⟨wb, 0, none⟩ = false := (World.frozen?_of_block (P.block wb h.lt hne h.no)).trans h.f0
  have hno := P.own wb h.lt h.no
  refine ⟨own_set O hno, ?_, ?_, hno, h.ge⟩ <;> simp [go_sem, d0, e0]
theorem Wk.alloc {w : World} {base wb : Nat} {l : List UInt8} {v : Value} (h : Wk w base wb l v) (o : Obj) : Wk (w.alloc o) base wb l v :=
  have B : Below w.heap.size w (w.alloc o) := (Below.refl _ _).alloc (Nat.le_refl _) o
  ⟨h.own.alloc o, below_cell B h.c0, (B.frozen h.lt).trans h.f0, h.no, h.ge⟩
theorem Wk.below {w w' : World} {base wb : Nat} {l : List UInt8} {v : Value} (h : Wk w base wb l v) (B : Below w.heap.size w w') : Wk w' base wb l v :=
  ⟨h.own.below B, below_cell B h.c0, (B.frozen h.lt).trans h.f0, h.no, h.ge⟩
theorem Wk.fresh {w : World} {base wb : Nat} {l : List UInt8} {v : Value} (h : Wk w base wb l v) : v.ownBlock ≠ some w.heap.size := fun e => by
  have := (h.own.lt _ e).2
  omega
theorem own_form {w : World} {base : Nat} {v : Value} {l : List UInt8} (o : OwnB w base v l) (n : Nat) (hn : l.length = n) : ∃ p c, v = .slice p n c := by
  obtain ⟨p, c, h, _⟩ := Byts.of_own o
  exact ⟨p, c, by rw [← hn]; exact h⟩
theorem Past.under {base wb : Nat} {v v' : Value} {w w' : World} (h : Past wb v v' w w') (hw : base ≤ w.heap.size) (hb : base ≤ wb) (hv : ∀ k, v.ownBlock = some k → base ≤ k) : Below base w w' :=
  ⟨h.os, h.tape, h.output, h.size, fun k hk => h.block k (by omega) (by omega) (fun e => by have := hv k e; omega)⟩
theorem Wk.under {base wb : Nat} {l : List UInt8} {v v' : Value} {w w' : World} (h : Wk w base wb l v) (P : Past wb v v' w w') : Below base w w' :=
  P.under (by have := h.lt; have := h.ge; omega) h.ge (fun k e => (h.own.lt k e).1)

set_option maxHeartbeats 1000000 in
theorem rput_any (base wb : Nat) (c : UInt8) (n : Int) (l : List UInt8) (v : Value) (w : World) (hn : (c.toNat : Int) = n) (hW : Wk w base wb l v) (hl : l.length + 1 ≤ 140737488351232) :
    Calls Try.prog 31 #[.pointer (some ⟨wb, 0, none⟩), .int .u8 n] w fun e w' => e = .returned (.tuple #[]) ∧ ∃ v', Wk w' base wb (l ++ [c]) v' ∧ Past wb v v' w w' := by
  have hlt := hW.lt
  have HW : Hid (Wk w base wb l v) := hW
  obtain ⟨hO, c0, f0, no, ge⟩ := hW
  have HO : Hid (OwnB w base v l) := hO
  have HN : Hid (v.ownBlock ≠ some wb) := no
  clear hO no
  go_enter Try.func31, Try.ntmps31
  go_wp2_with (at_builtin; refine appB w base _ _ _ v l c _ rfl rfl rfl rfl rfl hn HO.out hl (by omega) ?_; intro v' w' O' P' B'; obtain ⟨pp, cp, hv'⟩ := own_form O' (l.length + 1) (by simp); subst hv'; have q0 := (P' w.heap.size).cell c0 (Nat.ne_of_lt hlt) HN.out; have q1 := (World.frozen?_of_block (a := ⟨wb, 0, none⟩) ((P' w.heap.size).block wb hlt (Nat.ne_of_lt hlt) HN.out)).trans f0; have HO' := hid O'; have HP' := hid P'; clear O' P' B')
  refine end0 Try.results31 rfl ?_
  exact ⟨rfl, _, HW.out.made (HP'.out _) HO'.out, (HP'.out wb).put⟩

set_option maxRecDepth 20000 in
set_option maxHeartbeats 2000000 in
theorem rnum_any (base wb N : Nat) (l : List UInt8) (v : Value) (w : World) (hN : N < 18446744073709551616) (hW : Wk w base wb l v) (hl : l.length + 10 ≤ 140737488351232) :
    Calls Try.prog 18 #[.pointer (some ⟨wb, 0, none⟩), .int .u64 (N : Int)] w fun e w' => e = .returned (.tuple #[]) ∧ ∃ v', Wk w' base wb (l ++ uv N) v' ∧ Past wb v v' w w' := by
  have HW : Hid (Wk w base wb l v) := hW
  have hlen := uv_len10 hN
  clear hW
  go_enter Try.func18, Try.ntmps18
  go_wp2
  go_loopw [1] (fun i wr => ∃ (n : Nat) (pre : List UInt8) (v1 : Value), i = .int .u64 (n : Int) ∧ n ≤ N ∧ uv N = pre ++ uv n ∧ Wk wr base wb (l ++ pre) v1 ∧ Past wb v v1 w wr) (fun i _ => (RowKit.intOf i).toNat)
  case atStart => exact ⟨N, [], v, rfl, Nat.le_refl _, rfl, by simpa using HW.out, Past.refl _ _ _⟩
  case round =>
    clear HW
    obtain ⟨n, pre, v1, rfl, hn, hu, W1, P1⟩ := hrel
    have HW1 : Hid (Wk wr base wb (l ++ pre) v1) := W1
    have HP1 : Hid (Past wb v v1 w wr) := P1
    have hpl : pre.length + 1 ≤ 10 := by
      have h1 := congrArg List.length hu
      have h2 := uv_pos n
      rw [List.length_append] at h1
      omega
    have hll : (l ++ pre).length + 1 ≤ 140737488351232 := by rw [List.length_append]; omega
    clear W1 P1
    by_cases hx : 128 ≤ n
    · have HU : Hid (uv N = pre ++ [UInt8.ofNat (n % 128 + 128)] ++ uv (n / 128)) := by
        show _ = _
        rw [hu, uv_more hx]
        simp
      have hz : (UInt8.ofNat (n % 128 + 128)).toNat = n % 128 + 128 := by
        rw [UInt8.toNat_ofNat']
        omega
      clear hu
      generalize UInt8.ofNat (n % 128 + 128) = z at *
      go_wp2_with (go_at_call 31; refine (rput_any base wb z _ _ _ _ (by omega) HW1.out hll).mono ?_; rintro e w2 ⟨rfl, v2, W2, P2⟩; have HW2 := hid W2; have HP2 := hid P2; clear W2 P2)
      go_roundw
      case rel => exact ⟨n / 128, pre ++ [z], v2, by go_num, by omega, HU.out, by rw [← List.append_assoc]; exact HW2.out, HP1.out.trans HP2.out⟩
      case measure => simp [RowKit.intOf]; omega
    · have HU : Hid (uv N = pre ++ [UInt8.ofNat n]) := by
        show _ = _
        rw [hu, uv_one (by omega)]
      have hz : (UInt8.ofNat n).toNat = n := by
        rw [UInt8.toNat_ofNat']
        omega
      clear hu
      generalize UInt8.ofNat n = z at *
      go_wp2_with (go_at_call 31; refine (rput_any base wb z _ _ _ _ (by omega) HW1.out hll).mono ?_; rintro e w2 ⟨rfl, v2, W2, P2⟩; have HW2 := hid W2; have HP2 := hid P2; clear W2 P2)
      refine end0 Try.results18 rfl ?_
      exact ⟨rfl, v2, by rw [HU.out, ← List.append_assoc]; exact HW2.out, HP1.out.trans HP2.out⟩

set_option maxRecDepth 20000 in
set_option maxHeartbeats 1000000 in
theorem numSize_any (N : Nat) (w : World) (hN : N < 18446744073709551616) :
    Calls Try.prog 21 #[.int .u64 (N : Int)] w fun e w' => e = .returned (.int .i64 ((uv N).length : Int)) ∧ w' = w := by
  have hlen := uv_len10 hN
  go_enter Try.func21, Try.ntmps21
  go_wp2
  go_loopw [0, 3] (fun i s wr => ∃ (n k : Nat), i = .int .u64 (n : Int) ∧ s = .int .i64 ((k : Int) + 1) ∧ n ≤ N ∧ (uv N).length = k + (uv n).length ∧ wr = w) (fun i _ _ => (RowKit.intOf i).toNat)
  case atStart => exact ⟨N, 0, rfl, rfl, Nat.le_refl _, by simp, rfl⟩
  case round =>
    obtain ⟨n, k, rfl, rfl, hn, hu, rfl⟩ := hrel
    have hp := uv_pos n
    by_cases hx : 128 ≤ n
    · have hu2 : (uv N).length = (k + 1) + (uv (n / 128)).length := by
        rw [hu, uv_more hx]
        simp
        omega
      clear hu
      go_wp2
      go_roundw
      case rel => exact ⟨n / 128, k + 1, by go_num, by go_num, by omega, hu2, by first | rfl | trivial⟩
      case measure => simp [RowKit.intOf]; omega
    · have hu2 : (uv N).length = k + 1 := by
        rw [hu, uv_one (by omega)]
        rfl
      go_wp2
      go_ret
      exact ⟨by rw [hu2]; simp, rfl⟩
end Go.Proofs.Ytaoeonbhlpnjiaa
