/- What the document's own Next and value answer. Condition: the bytes lie within the reach. -/
import Derived.Test.YtpdfgifkommpdaaKeysNext
import Derived.Test.YtpdfgifkommpdaaKeysDecode
namespace Go.Proofs.Ytpdfgifkommpdaa
open Go.RowKit Go.Lib Go.Sort
set_option linter.unusedVariables false

set_option maxHeartbeats 4000000 in
theorem refNext_any (p : Option Addr) (l : List UInt8) (c : Nat) (w : World) (hl : l.length ≤ 140737488351232) (hc : l.length ≤ c) (rB : Byts w p l) :
    Calls Try.prog 15 #[.slice p l.length c] w (nextEnd l w) := by
  have HB : Hid (Byts w p l) := rB
  clear rB
  go_enter Try.func15, Try.ntmps15
  go_wp2
  go_loopw [4] (fun i wr => ∃ k : Nat, k ≤ l.length ∧ i = .int .i64 k ∧ nextR l.reverse = nextR (l.take k).reverse ∧ w = wr) (fun i _ => (RowKit.intOf i).toNat)
  case atStart => exact ⟨l.length, Nat.le_refl _, rfl, by rw [List.take_length], rfl⟩
  case round =>
    obtain ⟨k, hk, rfl, hN, rfl⟩ := hrel
    have HN : Hid (nextR l.reverse = nextR (l.take k).reverse) := hN
    clear hN
    cases k with
    | zero =>
      have HE : Hid (nextB l = []) := by
        show (nextR l.reverse).reverse = []
        rw [HN.out]; rfl
      clear HN
      go_wp2
      go_returns
      exact ⟨Below.refl _ _, Or.inl ⟨HE.out, rfl⟩⟩
    | succ k =>
      have hk' : k < l.length := by omega
      obtain ⟨b, off, rfl, c0⟩ := HB.out.at hk'
      have hlt := UInt8.toNat_lt l[k]
      by_cases hx : l[k] = 255
      · have HS : Hid (nextR l.reverse = nextR (l.take k).reverse) := HN.out.trans (nextR_step hk' hx)
        have hz : l[k].toNat = 255 := by rw [hx]; rfl
        rw [hz] at c0
        clear hz HN hx hlt
        go_wp2
        go_roundw
        case rel => exact ⟨k, by omega, by go_num, HS.out, by first | rfl | trivial⟩
        case measure => simp [RowKit.intOf]
      · have HE : Hid (nextB l = (l.take (k + 1)).set k (l[k] + 1)) := by
          show (nextR l.reverse).reverse = _
          rw [HN.out]
          exact nextR_here hk' hx
        have hz : l[k].toNat ≠ 255 := fun e => hx (UInt8.toNat_inj.1 e)
        have hz2 : (((l[k].toNat : Int)) == 255) = false := beq_eq_false_iff_ne.2 (by omega)
        have hs : ((l[k] + 1).toNat : Int) = (l[k].toNat : Int) + 1 := by
          rw [UInt8.toNat_add]
          simp
          omega
        have hlen : (l.take (k + 1)).length = k + 1 := by simp; omega
        have hget : ∀ h, (l.take (k + 1))[k]'h = l[k] := by intro h; simp
        have HT : Hid (Byts w (some ⟨b, off, none⟩) (l.take (k + 1))) := HB.out.take _
        clear HN hx
        generalize hpre : l.take (k + 1) = pre at *
        generalize hy : l[k] = y at *
        have hne : pre ≠ [] := fun e => by rw [e] at hlen; simp at hlen
        have hlen' : pre.length ≤ 140737488351232 := by omega
        have e1 : Hid ((k : Int) + 1 = ((pre.length : Nat) : Int)) := by show _ = _; omega
        go_upto_region 7 with (first
          | (at_builtin; refine copyY w _ _ _ _ pre _ rfl rfl rfl rfl (by rw [hlen]; rfl) (fun h => by cases h) HT.out hlen' ?_; intro v w2 O2 B2)
          | fail)
        obtain ⟨g, cap, rfl, hg, hcap, hcells, hset⟩ := own_parts O2 hne
        obtain ⟨d0, f0⟩ := hcells k (by omega)
        rw [hget] at d0
        have O3 := hset k (y + 1)
        have hgl := cell_lt d0
        have B3 : Below w.heap.size w (w2.setCell ⟨g, k, none⟩ (.int .u8 ((y + 1).toNat : Int))) := B2.setCell hg _
        rw [hs] at O3 B3
        rw [hlen] at O3
        have HO3 : Hid (OwnB (w2.setCell ⟨g, k, none⟩ (.int .u8 ((y.toNat : Int) + 1))) w.heap.size (.slice (some ⟨g, 0, none⟩) (k + 1) cap) (pre.set k (y + 1))) := O3
        have HB3 : Hid (Below w.heap.size w (w2.setCell ⟨g, k, none⟩ (.int .u8 ((y.toNat : Int) + 1)))) := B3
        clear O2 B2 O3 B3 hcells hset
        rw [hlen]
        go_wp2
        go_returns
        refine ⟨HB3.out, Or.inr ⟨?_, _, rfl, ?_⟩⟩
        · rw [HE.out]
          intro e
          have := congrArg List.length e
          simp [hlen] at this
        · rw [HE.out]
          exact HO3.out

/-- What the document's own value answers. -/
def rvEnd (u : List UInt8) (x : Except Int (Val × List UInt8)) (w : World) (e : Ending) (w' : World) : Prop :=
  Below w.heap.size w w' ∧ match x with
    | .ok r => e = .returned (.tuple #[.agg #[.int .i64 r.1.k, .int .i64 r.1.n, .string r.1.s], .int .i64 ((u.length : Int) - r.2.length), .int .i64 0])
    | .error n => e = .returned (.tuple #[.agg #[.int .i64 0, .int .i64 0, .string ⟨#[]⟩], .int .i64 0, .int .i64 n])

set_option maxHeartbeats 1000000 in
theorem rv_bad (b off cap : Nat) (c : UInt8) (u : List UInt8) (w : World) (c0 : w.cell? ⟨b, off, none⟩ = some (.int .u8 (c.toNat : Int))) (hl : u.length + 1 ≤ maxLen) (hc : c.toNat = 0 ∨ 6 ≤ c.toNat) :
    Calls Try.prog 30 #[.slice (some ⟨b, off, none⟩) (u.length + 1) cap] w (rvEnd (c :: u) (.error 5) w) := by
  have hlt := UInt8.toNat_lt c
  have hb := cell_lt c0
  unfold maxLen at hl
  generalize c.toNat = y at *
  rcases hc with rfl | hc
  all_goals
    go_enter Try.func30, Try.ntmps30
    go_wp2
    go_returns
    exact ⟨by go_grown, rfl⟩

set_option maxHeartbeats 1000000 in
theorem rv_null (b off cap : Nat) (c : UInt8) (u : List UInt8) (w : World) (c0 : w.cell? ⟨b, off, none⟩ = some (.int .u8 (c.toNat : Int))) (hl : u.length + 1 ≤ maxLen) (hc : c.toNat = 1) :
    Calls Try.prog 30 #[.slice (some ⟨b, off, none⟩) (u.length + 1) cap] w (rvEnd (c :: u) (.ok (⟨0, 0, ⟨#[]⟩⟩, u)) w) := by
  have hb := cell_lt c0
  unfold maxLen at hl
  rw [hc] at c0
  have e1 : Hid (((c :: u).length : Int) - u.length = 1) := by show _ = _; simp; omega
  go_enter Try.func30, Try.ntmps30
  go_wp2
  go_returns
  refine ⟨by go_grown, ?_⟩
  simp only []
  rw [e1.out]

set_option maxHeartbeats 1000000 in
theorem rv_bool_none (b off cap : Nat) (c : UInt8) (w : World) (c0 : w.cell? ⟨b, off, none⟩ = some (.int .u8 (c.toNat : Int))) (hc : c.toNat = 2) :
    Calls Try.prog 30 #[.slice (some ⟨b, off, none⟩) 1 cap] w (rvEnd [c] (.error 1) w) := by
  have hb := cell_lt c0
  rw [hc] at c0
  go_enter Try.func30, Try.ntmps30
  go_wp2
  go_returns
  exact ⟨by go_grown, rfl⟩

set_option maxHeartbeats 1000000 in
theorem rv_bool_bad (b off cap : Nat) (c d : UInt8) (u : List UInt8) (w : World) (c0 : w.cell? ⟨b, off, none⟩ = some (.int .u8 (c.toNat : Int))) (c1 : w.cell? ⟨b, off + 1, none⟩ = some (.int .u8 (d.toNat : Int))) (hl : u.length + 2 ≤ maxLen) (hc : c.toNat = 2) (hd : 1 < d.toNat) :
    Calls Try.prog 30 #[.slice (some ⟨b, off, none⟩) (u.length + 2) cap] w (rvEnd (c :: d :: u) (.error 3) w) := by
  have hb := cell_lt c0
  have hlt := UInt8.toNat_lt d
  unfold maxLen at hl
  rw [hc] at c0
  generalize d.toNat = y at *
  go_enter Try.func30, Try.ntmps30
  go_wp2
  go_returns
  exact ⟨by go_grown, rfl⟩

set_option maxHeartbeats 1000000 in
theorem rv_bool (b off cap : Nat) (c d : UInt8) (u : List UInt8) (w : World) (c0 : w.cell? ⟨b, off, none⟩ = some (.int .u8 (c.toNat : Int))) (c1 : w.cell? ⟨b, off + 1, none⟩ = some (.int .u8 (d.toNat : Int))) (hl : u.length + 2 ≤ maxLen) (hc : c.toNat = 2) (hd : d.toNat ≤ 1) :
    Calls Try.prog 30 #[.slice (some ⟨b, off, none⟩) (u.length + 2) cap] w (rvEnd (c :: d :: u) (.ok (⟨1, (d.toNat : Int), ⟨#[]⟩⟩, u)) w) := by
  have hb := cell_lt c0
  unfold maxLen at hl
  rw [hc] at c0
  have e1 : Hid (((c :: d :: u).length : Int) - u.length = 2) := by show _ = _; simp; omega
  generalize d.toNat = y at *
  go_enter Try.func30, Try.ntmps30
  go_wp2
  go_returns
  refine ⟨by go_grown, ?_⟩
  simp only []
  rw [e1.out]

set_option maxHeartbeats 1000000 in
theorem rv_int_none (b off cap : Nat) (c : UInt8) (u : List UInt8) (w : World) (c0 : w.cell? ⟨b, off, none⟩ = some (.int .u8 (c.toNat : Int))) (hc : c.toNat = 3) (hu : u.length < 8) :
    Calls Try.prog 30 #[.slice (some ⟨b, off, none⟩) (u.length + 1) cap] w (rvEnd (c :: u) (.error 1) w) := by
  have hb := cell_lt c0
  rw [hc] at c0
  go_enter Try.func30, Try.ntmps30
  go_wp2
  go_returns
  exact ⟨by go_grown, rfl⟩

theorem zero_keep {w wr : World} {ty : TypeId} (B : Below (w.heap.size + 1) (w.alloc (.cells #[.int .i64 0, .int .i64 0, .string ⟨#[]⟩] ty)) wr) :
    wr.cell? ⟨w.heap.size, 0, none⟩ = some (.int .i64 0) ∧ wr.cell? ⟨w.heap.size, 1, none⟩ = some (.int .i64 0) ∧ wr.cell? ⟨w.heap.size, 2, none⟩ = some (.string ⟨#[]⟩) ∧ wr.frozen? ⟨w.heap.size, 0, none⟩ = false ∧ wr.frozen? ⟨w.heap.size, 1, none⟩ = false ∧ wr.frozen? ⟨w.heap.size, 2, none⟩ = false := by
  refine ⟨(B.cell (p := ⟨w.heap.size, 0, none⟩) (Nat.lt_succ_self _)).trans (by go_simp), (B.cell (p := ⟨w.heap.size, 1, none⟩) (Nat.lt_succ_self _)).trans (by go_simp), (B.cell (p := ⟨w.heap.size, 2, none⟩) (Nat.lt_succ_self _)).trans (by go_simp), (B.frozen (p := ⟨w.heap.size, 0, none⟩) (Nat.lt_succ_self _)).trans (by go_simp), (B.frozen (p := ⟨w.heap.size, 1, none⟩) (Nat.lt_succ_self _)).trans (by go_simp), (B.frozen (p := ⟨w.heap.size, 2, none⟩) (Nat.lt_succ_self _)).trans (by go_simp)⟩
theorem end_below' {w w' : World} {o : Obj} (B : Below (w.heap.size + 1) (w.alloc o) w') : Below w.heap.size w w' := ((Below.refl w.heap.size w).alloc (Nat.le_refl _) o).trans (B.mono (by omega))

theorem sub_low (N : Nat) (h : N < 18446744073709551616) : IntKind.i64.wrap (IntKind.u64.wrap ((N : Int) - 9223372036854775808)) = (N : Int) - 9223372036854775808 := by
  simp [IntKind.wrap, IntKind.signed, IntKind.bits]
  omega

set_option maxHeartbeats 4000000 in
theorem rv_int (b off cap : Nat) (c : UInt8) (u : List UInt8) (w : World) (hcells : ∀ i (h : i < (c :: u).length), w.cell? ⟨b, off + i, none⟩ = some (.int .u8 ((c :: u)[i].toNat : Int))) (hl : u.length + 1 ≤ maxLen) (hc : c.toNat = 3) (hu : 8 ≤ u.length) :
    Calls Try.prog 30 #[.slice (some ⟨b, off, none⟩) (u.length + 1) cap] w (rvEnd (c :: u) (.ok (⟨2, (numN (u.take 8) : Int) - 9223372036854775808, ⟨#[]⟩⟩, u.drop 8)) w) := by
  have c0 : w.cell? ⟨b, off, none⟩ = some (.int .u8 (c.toNat : Int)) := hcells 0 (by simp)
  have hb := cell_lt c0
  have HC : Hid (∀ i (h : i < u.length), w.cell? ⟨b, off + (i + 1), none⟩ = some (.int .u8 (u[i].toNat : Int))) := fun i h => hcells (i + 1) (by simpa using h)
  unfold maxLen at hl
  rw [hc] at c0
  have e1 : Hid (((c :: u).length : Int) - (u.drop 8).length = 9) := by show _ = _; simp; omega
  clear hcells
  go_enter Try.func30, Try.ntmps30
  go_wp2
  go_loopw [6, 7] (fun n i wr => ∃ k : Nat, k ≤ 8 ∧ i = .int .i64 ((k : Int) + 1) ∧ n = .int .u64 (numN (u.take k) : Int) ∧ wr = w.alloc (.cells #[.int .i64 0, .int .i64 0, .string ⟨#[]⟩] 43)) (fun _ i _ => 9 - (RowKit.intOf i).toNat)
  case atStart => exact ⟨0, Nat.zero_le _, rfl, rfl, rfl⟩
  case round =>
    obtain ⟨k, hk, rfl, rfl, hw⟩ := hrel
    by_cases hx : k < 8
    · have hy : k < u.length := by omega
      have ck := HC.out k hy
      have ck' : wr.cell? ⟨b, off + (k + 1), none⟩ = some (.int .u8 (u[k].toNat : Int)) := by rw [hw]; exact below_cell (alloc_below w _) ck
      have HT : Hid (numN (u.take (k + 1)) = numN (u.take k) * 256 + u[k].toNat) := by
        show _ = _
        rw [List.take_succ_eq_append_getElem hy, numN_snoc]
      have hN : numN (u.take k) < 256 ^ k := by
        have := numN_lt (u.take k)
        rw [List.length_take, Nat.min_eq_left (by omega)] at this
        exact this
      have hcy := UInt8.toNat_lt u[k]
      generalize u[k].toNat = y at *
      generalize numN (u.take k) = N at *
      have hN7 : N < 72057594037927936 := Nat.lt_of_lt_of_le hN (Nat.le_trans (Nat.pow_le_pow_right (by decide) (show k ≤ 7 by omega)) (by decide))
      have HW : Hid (wr = w.alloc (.cells #[.int .i64 0, .int .i64 0, .string ⟨#[]⟩] 43)) := hw
      clear hN hw ck
      go_wp2
      go_roundw
      case rel => exact ⟨k + 1, by omega, by go_num, by rw [HT.out]; simp, HW.out⟩
      case measure => simp [RowKit.intOf]; omega
    · obtain rfl : k = 8 := by omega
      subst hw
      have hN : numN (u.take 8) < 18446744073709551616 := by
        have := numN_lt (u.take 8)
        rw [List.length_take, Nat.min_eq_left hu] at this
        exact this
      have hs2 := sub_low _ hN
      generalize hNN : numN (u.take 8) = N at *
      go_wp2
      go_returns
      refine ⟨by go_grown, ?_⟩
      simp only []
      rw [e1.out]
      try rfl
end Go.Proofs.Ytpdfgifkommpdaa
