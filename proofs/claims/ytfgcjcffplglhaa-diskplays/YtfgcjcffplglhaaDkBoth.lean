/- What 'both' does: sync, arm, and what is no act. Condition: fewer than a million writes are pending. -/
import Derived.Test.YtfgcjcffplglhaaDkTwo
namespace Go.Proofs.Ytfgcjcffplglhaa
open Go.RowKit
set_option linter.unusedVariables false
set_option maxRecDepth 20000

/-- A variable of the caller's beside the disks. -/
theorem T2.box {s : Nat} {w0 w : World} {db rb : Nat} {d r : Dk} (h : T2 s w0 w db rb d r (fun _ => False)) (cs : List Value) (t : TypeId) : ∃ Z : Nat → Prop, Z w.heap.size ∧ T2 s w0 (w.alloc (.cells cs.toArray t)) db rb d r Z ∧ Blk (w.alloc (.cells cs.toArray t)) w.heap.size cs t ∧ s ≤ w.heap.size :=
  ⟨_, Or.inr ⟨Nat.le_refl _, (Blk.new w cs t).lt⟩, h.add ((Below.refl _ _).alloc (Nat.le_refl _) _), Blk.new w cs t, h.size⟩
set_option maxRecDepth 20000 in
set_option maxHeartbeats 4000000 in
theorem both_other {w0 w : World} {db rb : Nat} {d : Dk} (n torn cut : Int) (f : UInt8) (b : List UInt8) (lo : Bool) (keep : List Bool) (bp kp : Option Addr) (bc kc : Nat) (h : T2 w0.heap.size w0 w db rb d d (fun _ => False)) (hm : d.pend.length < 1000000) (kind : Int) (k0 : kind ≠ 0) (k1 : kind ≠ 1) (k2 : kind ≠ 2) (k3 : kind ≠ 3) (k4 : kind ≠ 4) :
    Calls Try.prog 15 #[.pointer (some ⟨db, 0, none⟩), .pointer (some ⟨rb, 0, none⟩), .agg #[.int .i64 kind, .int .i64 n, .int .u8 (f.toNat : Int), .slice bp b.length bc, .bool lo, .slice kp keep.length kc, .int .i64 torn, .int .i64 cut]] w fun e w' => e = .returned (.bool true) ∧ T2 w0.heap.size w0 w' db rb d d (fun _ => False) := by
  obtain ⟨Z, z1, t1, x1, hs1⟩ := h.box [.int .i64 kind, .int .i64 n, .int .u8 (f.toNat : Int), .slice bp b.length bc, .bool lo, .slice kp keep.length kc, .int .i64 torn, .int .i64 cut] 33
  have HZ1 := hid z1
  have HT1 := hid t1
  have HX1 := hid x1
  have HM := hid hm
  have HS1 := hid hs1
  have b0 : (kind == 0) = false := by simpa using k0
  have b1 : (kind == 1) = false := by simpa using k1
  have b2 : (kind == 2) = false := by simpa using k2
  have b3 : (kind == 3) = false := by simpa using k3
  have b4 : (kind == 4) = false := by simpa using k4
  clear h hm hs1 t1 x1 z1
  go_enter Try.func15, Try.ntmps15
  go_wp2
  go_ret
  exact ⟨rfl, HT1.out.less (fun _ h => h.elim)⟩
set_option maxRecDepth 20000 in
set_option maxHeartbeats 4000000 in
theorem both_arm {w0 w : World} {db rb : Nat} {d : Dk} (n torn cut : Int) (f : UInt8) (b : List UInt8) (lo : Bool) (keep : List Bool) (bp kp : Option Addr) (bc kc : Nat) (h : T2 w0.heap.size w0 w db rb d d (fun _ => False)) (hm : d.pend.length < 1000000) (hn : n ≤ 9223372036854775807) :
    Calls Try.prog 15 #[.pointer (some ⟨db, 0, none⟩), .pointer (some ⟨rb, 0, none⟩), .agg #[.int .i64 3, .int .i64 n, .int .u8 (f.toNat : Int), .slice bp b.length bc, .bool lo, .slice kp keep.length kc, .int .i64 torn, .int .i64 cut]] w fun e w' => e = .returned (.bool true) ∧ T2 w0.heap.size w0 w' db rb (d.armed n) (d.armed n) (fun _ => False) := by
  obtain ⟨Z, z1, t1, x1, hs1⟩ := h.box [.int .i64 3, .int .i64 n, .int .u8 (f.toNat : Int), .slice bp b.length bc, .bool lo, .slice kp keep.length kc, .int .i64 torn, .int .i64 cut] 33
  have HZ1 := hid z1
  have HT1 := hid t1
  have HX1 := hid x1
  have HM := hid hm
  have HS1 := hid hs1
  have HA := hid (t1.armL n hn)
  have HN := hid hn
  clear h hm hs1 t1 x1 z1 hn
  go_enter Try.func15, Try.ntmps15
  go_wp2_with (first
    | (go_at_call 28; go_loud ((with_reducible refine HA.out.mono ?_); rintro e w2 ⟨rfl, T2', K2⟩; have hx2 := K2.blk HX1.out (Or.inr HZ1.out); have cx : w2.cell? ⟨w.heap.size, 1, none⟩ = some (.int .i64 n) := hx2.cell 1; have HA2 := hid (T2'.armR n HN.out); clear T2' K2 hx2 HA))
    | (go_at_call 41; go_loud ((with_reducible refine HA2.out.mono ?_); rintro e w3 ⟨rfl, T3, K3⟩; have HT3 := hid T3; clear T3 K3 HA2))
    | fail)
  go_ret
  exact ⟨rfl, HT3.out.less (fun _ h => h.elim)⟩
set_option maxRecDepth 20000 in
set_option maxHeartbeats 4000000 in
theorem both_sync {w0 w : World} {db rb : Nat} {d : Dk} (n torn cut : Int) (f : UInt8) (b : List UInt8) (lo : Bool) (keep : List Bool) (bp kp : Option Addr) (bc kc : Nat) (h : T2 w0.heap.size w0 w db rb d d (fun _ => False)) (hm : d.pend.length < 1000000) :
    Calls Try.prog 15 #[.pointer (some ⟨db, 0, none⟩), .pointer (some ⟨rb, 0, none⟩), .agg #[.int .i64 2, .int .i64 n, .int .u8 (f.toNat : Int), .slice bp b.length bc, .bool lo, .slice kp keep.length kc, .int .i64 torn, .int .i64 cut]] w fun e w' => e = .returned (.bool true) ∧ T2 w0.heap.size w0 w' db rb d.sy d.sy (fun _ => False) := by
  obtain ⟨Z, z1, t1, x1, hs1⟩ := h.box [.int .i64 2, .int .i64 n, .int .u8 (f.toNat : Int), .slice bp b.length bc, .bool lo, .slice kp keep.length kc, .int .i64 torn, .int .i64 cut] 33
  have HZ1 := hid z1
  have HT1 := hid t1
  have HX1 := hid x1
  have HM := hid hm
  have HS1 := hid hs1
  have HA := hid (t1.syncL hm)
  clear h hm hs1 t1 x1 z1
  go_enter Try.func15, Try.ntmps15
  go_wp2_with (first
    | (go_at_call 13; go_loud ((with_reducible refine HA.out.mono ?_); rintro e w2 ⟨rfl, T2', K2⟩; have HA2 := hid (T2'.syncR HM.out); clear T2' K2 HA))
    | (go_at_call 40; go_loud ((with_reducible refine HA2.out.mono ?_); rintro e w3 ⟨rfl, T3, K3⟩; have HT3 := hid T3; clear T3 K3 HA2))
    | fail)
  go_ret
  exact ⟨rfl, HT3.out.less (fun _ h => h.elim)⟩
end Go.Proofs.Ytfgcjcffplglhaa
