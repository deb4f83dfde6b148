/- What 'both' does: read. Condition: fewer than a million writes are pending. -/
import Derived.Test.YtfgcjcffplglhaaDkBoth
namespace Go.Proofs.Ytfgcjcffplglhaa
open Go.RowKit
set_option linter.unusedVariables false
set_option maxRecDepth 20000

theorem pg_cv {w : World} {g : Nat} {l : List UInt8} (h : Pg w g l) (hl : l.length = 512) (c : Nat) : (convert 30 9 (.slice (some ⟨g, 0, none⟩) 512 c)).run Try.prog w = .ok (.string ⟨l.toArray⟩) w := by
  have t := conv_byts c h.blk.byts
  rw [hl] at t
  exact t
theorem by_cv {w : World} {g m : Nat} {l : List UInt8} (h : Byts w (some ⟨g, 0, none⟩) l) (hl : l.length = m) (c : Nat) : (convert 30 9 (.slice (some ⟨g, 0, none⟩) m c)).run Try.prog w = .ok (.string ⟨l.toArray⟩) w := by
  have t := conv_byts c h
  rw [hl] at t
  exact t
theorem u8_plus (b : UInt8) : ∃ x : UInt8, IntKind.u8.wrap ((b.toNat : Int) + 1) = (x.toNat : Int) := by
  refine ⟨UInt8.ofNat ((b.toNat + 1) % 256), ?_⟩
  have e : IntKind.u8.wrap ((b.toNat : Int) + 1) = ((b.toNat : Int) + 1) % 256 := by simp [IntKind.wrap, IntKind.bits, IntKind.signed]
  rw [e]
  have : (UInt8.ofNat ((b.toNat + 1) % 256)).toNat = (b.toNat + 1) % 256 := by simp
  rw [this]
  omega
set_option maxRecDepth 20000 in
set_option maxHeartbeats 4000000 in
theorem both_readBad {w0 w : World} {db rb : Nat} {d : Dk} (n torn cut : Int) (f : UInt8) (b : List UInt8) (lo : Bool) (keep : List Bool) (bp kp : Option Addr) (bc kc : Nat) (h : T2 w0.heap.size w0 w db rb d d (fun _ => False)) (hm : d.pend.length < 1000000) (hr : d.reach n ≠ 0) :
    Calls Try.prog 15 #[.pointer (some ⟨db, 0, none⟩), .pointer (some ⟨rb, 0, none⟩), .agg #[.int .i64 0, .int .i64 n, .int .u8 (f.toNat : Int), .slice bp b.length bc, .bool lo, .slice kp keep.length kc, .int .i64 torn, .int .i64 cut]] w fun e w' => e = .returned (.bool true) ∧ T2 w0.heap.size w0 w' db rb d d (fun _ => False) := by
  obtain ⟨Z, z1, t1, x1, hs1⟩ := h.box [.int .i64 0, .int .i64 n, .int .u8 (f.toNat : Int), .slice bp b.length bc, .bool lo, .slice kp keep.length kc, .int .i64 torn, .int .i64 cut] 33
  have HZ1 := hid z1
  have HT1 := hid t1
  have HX1 := hid x1
  have HM := hid hm
  have HS1 := hid hs1
  have HA := hid (t1.readBadL n hr)
  have HB := hid (t1.readBadR n hr)
  have cv : ∀ w', (convert 30 9 (.slice none 0 0)).run Try.prog w' = .ok (.string ⟨#[]⟩) w' := fun w' => conv_byts (w := w') 0 (Or.inl rfl)
  generalize d.reach n = rr at *
  clear h hm hs1 t1 x1 z1
  go_enter Try.func15, Try.ntmps15
  go_wp2_with (first
    | (go_at_call 29; go_loud ((with_reducible refine HA.out.mono ?_); rintro e w2 ⟨rfl, hw⟩; subst hw))
    | (go_at_call 38; go_loud ((with_reducible refine HB.out.mono ?_); rintro e w3 ⟨rfl, hw⟩; subst hw))
    | fail)
  go_loopw [12] (fun i wr => i = .int .i64 0 ∧ T2 w0.heap.size w0 wr db rb d d Z) (fun _ _ => 0)
  case atStart => exact ⟨rfl, HT1.out⟩
  case round =>
    clear HT1
    obtain ⟨rfl, hT⟩ := hrel
    have HT := hid hT
    clear hT
    go_wp2
    go_ret
    exact ⟨rfl, HT.out.less (fun _ h => h.elim)⟩
set_option maxRecDepth 20000 in
set_option maxHeartbeats 4000000 in
theorem both_read {w0 w : World} {db rb : Nat} {d : Dk} (n torn cut : Int) (f : UInt8) (b : List UInt8) (lo : Bool) (keep : List Bool) (bp kp : Option Addr) (bc kc : Nat) (h : T2 w0.heap.size w0 w db rb d d (fun _ => False)) (hm : d.pend.length < 1000000) (hr : d.reach n = 0) :
    Calls Try.prog 15 #[.pointer (some ⟨db, 0, none⟩), .pointer (some ⟨rb, 0, none⟩), .agg #[.int .i64 0, .int .i64 n, .int .u8 (f.toNat : Int), .slice bp b.length bc, .bool lo, .slice kp keep.length kc, .int .i64 torn, .int .i64 cut]] w fun e w' => e = .returned (.bool true) ∧ T2 w0.heap.size w0 w' db rb d d (fun _ => False) := by
  obtain ⟨Z, z1, t1, x1, hs1⟩ := h.box [.int .i64 0, .int .i64 n, .int .u8 (f.toNat : Int), .slice bp b.length bc, .bool lo, .slice kp keep.length kc, .int .i64 torn, .int .i64 cut] 33
  have HZ1 := hid z1
  have HT1 := hid t1
  have HX1 := hid x1
  have HM := hid hm
  have HS1 := hid hs1
  obtain ⟨ga, hga⟩ : ∃ ga, ga = (w.alloc (.cells #[.int .i64 0, .int .i64 n, .int .u8 (f.toNat : Int), .slice bp b.length bc, .bool lo, .slice kp keep.length kc, .int .i64 torn, .int .i64 cut] 33)).heap.size + 1 := ⟨_, rfl⟩
  have ha := t1.readL n hr
  have HR := hid hr
  have HL : Hid ((d.has n).length = 512) := h.okk.has n
  have HSG : Hid (w0.heap.size ≤ ga) := by show _ ≤ _; rw [hga]; simp; omega
  have HW1 : Hid (∀ w2, Pg w2 ga (d.has n) → Below (w.alloc (.cells #[.int .i64 0, .int .i64 n, .int .u8 (f.toNat : Int), .slice bp b.length bc, .bool lo, .slice kp keep.length kc, .int .i64 torn, .int .i64 cut] 33)).heap.size (w.alloc (.cells #[.int .i64 0, .int .i64 n, .int .u8 (f.toNat : Int), .slice bp b.length bc, .bool lo, .slice kp keep.length kc, .int .i64 torn, .int .i64 cut] 33)) w2 →
      ∃ Z2 : Nat → Prop, Z2 ga ∧ T2 w0.heap.size w0 w2 db rb d d Z2 ∧ w2.cell? ⟨w.heap.size, 1, none⟩ = some (.int .i64 n)) := by
    intro w2 P2 B2
    exact ⟨_, Or.inr ⟨by omega, P2.blk.lt⟩, HT1.out.add B2, (HX1.out.below B2 HX1.out.lt).cell 1⟩
  rw [← hga] at ha
  obtain ⟨hn, he⟩ : ∃ hn, d.has n = hn := ⟨_, rfl⟩
  rw [he] at ha HL HW1
  have HA := hid ha
  have HE := hid he
  clear h hm hs1 t1 x1 z1 hr HT1 HX1 HZ1 ha hga he
  go_enter Try.func15, Try.ntmps15
  go_wp2_with (first
    | (go_at_call 29; go_loud ((with_reducible refine HA.out.mono ?_); rintro e w2 ⟨rfl, P2, B2⟩; have hf2 := HW1.out w2 P2 B2; obtain ⟨Z2, z2, t2, cx⟩ := hf2; have HZ2 := hid z2; have HP2 := hid P2; have HT2 := hid t2; have HB := hid (t2.readR n HR.out HM.out); clear P2 B2 z2 t2 HA HW1))
    | (go_at_call 38; go_loud ((with_reducible refine HB.out.mono ?_); rintro e w3 ⟨⟨g3, c3, rfl, y3⟩, B3⟩; have HP3 := hid (HP2.out.below B3 HP2.out.blk.lt); have HT3 := hid (HT2.out.grow B3); have cv1 := pg_cv HP3.out HL.out 512; rw [HE.out] at y3; have cv2 := by_cv y3 HL.out c3; clear y3 B3 HB HP2 HT2))
    | fail)
  clear cv1 cv2
  go_loopw [12] (fun i wr => ∃ (k : Nat) (l : List UInt8), i = .int .i64 (k : Int) ∧ k ≤ 512 ∧ l.length = 512 ∧ Pg wr ga l ∧ T2 w0.heap.size w0 wr db rb d d Z2) (fun i _ => 512 - (RowKit.intOf i).toNat)
  case atStart => exact ⟨0, hn, rfl, by omega, HL.out, HP3.out, HT3.out⟩
  case round =>
    clear HP3 HT3
    obtain ⟨k, l, rfl, hk, hl, hP, hT⟩ := hrel
    have HP := hid hP
    have HT := hid hT
    have HLl := hid hl
    by_cases hx : k < 512
    · have gf := hP.blk.frozen k
      have hxl : k < l.length := by rw [hl]; exact hx
      have gc : wr.cell? ⟨ga, k, none⟩ = some (.int .u8 (l[k].toNat : Int)) := (hP.blk.cell k).trans (bcells_at hxl)
      obtain ⟨x, hx8⟩ := u8_plus l[k]
      generalize l[k] = old at *
      have hx' : (k : Int) < 512 := by omega
      clear hP hT hl hxl
      go_wp2
      go_roundw
      case rel =>
        have q := HP.out.blk.set (i := k) (.int .u8 (x.toNat : Int))
        rw [bcells_set] at q
        refine ⟨k + 1, l.set k x, by go_num, by omega, by rw [List.length_set]; exact HLl.out, q, ?_⟩
        exact HT.out.turn HZ2.out HSG.out (fun F hF => chg_set _ _ _ _ hF)
      case measure => simp [RowKit.intOf]; omega
    · obtain rfl : k = 512 := by omega
      clear hP hT hl hx hk
      go_wp2
      go_ret
      exact ⟨rfl, HT.out.less (fun _ h => h.elim)⟩
end Go.Proofs.Ytfgcjcffplglhaa
