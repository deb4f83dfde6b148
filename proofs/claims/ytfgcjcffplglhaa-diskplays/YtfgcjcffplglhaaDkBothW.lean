/- What 'both' does: write. Condition: fewer than a million writes are pending. -/
import Derived.Test.YtfgcjcffplglhaaDkBothR
import Derived.Deep.RegionHeldLaw
namespace Go.Proofs.Ytfgcjcffplglhaa
open Go.RowKit
set_option linter.unusedVariables false
set_option maxRecDepth 20000

set_option maxRecDepth 20000 in
set_option maxHeartbeats 4000000 in
theorem both_write512 {w0 w : World} {db rb : Nat} {d : Dk} (n torn cut : Int) (f : UInt8) (b : List UInt8) (keep : List Bool) (bp kp : Option Addr) (bc kc : Nat) (h : T2 w0.heap.size w0 w db rb d d (fun _ => False)) (hm : d.pend.length < 1000000) (hby : Byts w0 bp b) :
    Calls Try.prog 15 #[.pointer (some ⟨db, 0, none⟩), .pointer (some ⟨rb, 0, none⟩), .agg #[.int .i64 1, .int .i64 n, .int .u8 (f.toNat : Int), .slice bp b.length bc, .bool false, .slice kp keep.length kc, .int .i64 torn, .int .i64 cut]] w fun e w' => e = .returned (.bool true) ∧ T2 w0.heap.size w0 w' db rb (d.wr n (pageM f b 512)) (d.wr n (pageM f b 512)) (fun _ => False) := by
  obtain ⟨Z, z1, t1, x1, hs1⟩ := h.box [.int .i64 1, .int .i64 n, .int .u8 (f.toNat : Int), .slice bp b.length bc, .bool false, .slice kp keep.length kc, .int .i64 torn, .int .i64 cut] 33
  have HZ1 := hid z1
  have HT1 := hid t1
  have HX1 := hid x1
  have HM := hid hm
  have HS1 := hid hs1
  obtain ⟨ga, hga⟩ : ∃ ga, ga = (w.alloc (.cells #[.int .i64 1, .int .i64 n, .int .u8 (f.toNat : Int), .slice bp b.length bc, .bool false, .slice kp keep.length kc, .int .i64 torn, .int .i64 cut] 33)).heap.size + 1 := ⟨_, rfl⟩
  obtain ⟨pg0, hpg⟩ : ∃ pg0, pageM f b 512 = pg0 := ⟨_, rfl⟩
  have hpl : pg0.length = 512 := by rw [← hpg]; exact pageM_len ..
  have HPL := hid hpl
  have HSG : Hid (w0.heap.size ≤ ga) := by show _ ≤ _; rw [hga]; simp; omega
  have HPg : Hid (∀ w5 : World, Byts w5 bp b → Calls Try.prog 27 #[.agg #[.int .i64 1, .int .i64 n, .int .u8 (f.toNat : Int), .slice bp b.length bc, .bool false, .slice kp keep.length kc, .int .i64 torn, .int .i64 cut]] w5 fun e w' => e = .returned (.slice (some ⟨w5.heap.size + 1, 0, none⟩) 512 512) ∧ Blk w' (w5.heap.size + 1) (bcells pg0) 5 ∧ Below w5.heap.size w5 w' ∧ w'.heap.size = w5.heap.size + 2) := fun w5 hb => by
    have t := page_512 1 n f bp b bc (.slice kp keep.length kc) torn cut w5 hb
    rw [hpg] at t
    exact t
  have HBy : Hid (∀ w5 : World, Below w0.heap.size w0 w5 → Byts w5 bp b) := fun w5 B => hby.below B
  have hp1 := HPg.out (w.alloc (.cells #[.int .i64 1, .int .i64 n, .int .u8 (f.toNat : Int), .slice bp b.length bc, .bool false, .slice kp keep.length kc, .int .i64 torn, .int .i64 cut] 33)) (HBy.out _ t1.bel)
  rw [← hga] at hp1
  have HP1 := hid hp1
  have HF2 : Hid (∀ w2 : World, Blk w2 ga (bcells pg0) 5 → Below (w.alloc (.cells #[.int .i64 1, .int .i64 n, .int .u8 (f.toNat : Int), .slice bp b.length bc, .bool false, .slice kp keep.length kc, .int .i64 torn, .int .i64 cut] 33)).heap.size (w.alloc (.cells #[.int .i64 1, .int .i64 n, .int .u8 (f.toNat : Int), .slice bp b.length bc, .bool false, .slice kp keep.length kc, .int .i64 torn, .int .i64 cut] 33)) w2 →
      ∃ Z2 : Nat → Prop, Hid (Z2 ga) ∧ Hid (Z2 w.heap.size) ∧ Hid (T2 w0.heap.size w0 w2 db rb d d Z2) ∧ Hid (Blk w2 w.heap.size [.int .i64 1, .int .i64 n, .int .u8 (f.toNat : Int), .slice bp b.length bc, .bool false, .slice kp keep.length kc, .int .i64 torn, .int .i64 cut] 33) ∧ Hid (Blk w2 ga (bcells pg0) 5)) := by
    intro w2 P2 B2
    refine ⟨_, ?_, ?_, hid (HT1.out.add B2), HX1.out.below B2 HX1.out.lt, P2⟩
    · exact hid (p := _ ∨ _) (Or.inr ⟨by omega, P2.lt⟩)
    · exact hid (p := _ ∨ _) (Or.inl HZ1.out)
  have HSS : Hid (∀ w5 : World, Blk w5 w.heap.size [.int .i64 1, .int .i64 n, .int .u8 (f.toNat : Int), .slice bp b.length bc, .bool false, .slice kp keep.length kc, .int .i64 torn, .int .i64 cut] 33 → Blk w5 ga (bcells pg0) 5 → w5.cell? ⟨w.heap.size, 0, none⟩ = some (.int .i64 1) ∧ w5.cell? ⟨w.heap.size, 1, none⟩ = some (.int .i64 n) ∧ w5.cell? ⟨w.heap.size, 2, none⟩ = some (.int .u8 (f.toNat : Int)) ∧ w5.cell? ⟨w.heap.size, 3, none⟩ = some (.slice bp b.length bc) ∧ w5.cell? ⟨w.heap.size, 4, none⟩ = some (.bool false) ∧ w5.cell? ⟨w.heap.size, 5, none⟩ = some (.slice kp keep.length kc) ∧ w5.cell? ⟨w.heap.size, 6, none⟩ = some (.int .i64 torn) ∧ w5.cell? ⟨w.heap.size, 7, none⟩ = some (.int .i64 cut) ∧ (convert 30 9 (.slice (some ⟨ga, 0, none⟩) 512 512)).run Try.prog w5 = .ok (.string ⟨pg0.toArray⟩) w5) := fun w5 bx bp => ⟨bx.cell 0, bx.cell 1, bx.cell 2, bx.cell 3, bx.cell 4, bx.cell 5, bx.cell 6, bx.cell 7, by_cv bp.byts HPL.out _⟩
  have HWL : Hid (∀ (Z2 : Nat → Prop) (w5 : World), T2 w0.heap.size w0 w5 db rb d d Z2 → Z2 ga → Blk w5 ga (bcells pg0) 5 → Calls Try.prog 12 #[.pointer (some ⟨db, 0, none⟩), .int .i64 n, .slice (some ⟨ga, 0, none⟩) 512 512] w5 fun e w' => e = .returned (.int .i64 (d.wrErr n pg0)) ∧ T2 w0.heap.size w0 w' db rb (d.wr n pg0) d Z2 ∧ Kept (old w0.heap.size Z2) w5 w') := fun Z2 w5 t z b5 => by
    have q := t.writeL n (some ⟨ga, 0, none⟩) pg0 512 b5.byts (fun g off e => by simp only [Option.some.injEq, Addr.mk.injEq] at e; rw [← e.1]; exact Or.inr (Or.inl z)) HM.out
    rw [hpl] at q
    exact q
  have HWR : Hid (∀ (Z2 : Nat → Prop) (w5 : World) (g5 : Nat), T2 w0.heap.size w0 w5 db rb (d.wr n pg0) d Z2 → Z2 g5 → Blk w5 g5 (bcells pg0) 5 → Calls Try.prog 39 #[.pointer (some ⟨rb, 0, none⟩), .int .i64 n, .slice (some ⟨g5, 0, none⟩) 512 512] w5 fun e w' => e = .returned (.int .i64 (d.wrErr n pg0)) ∧ T2 w0.heap.size w0 w' db rb (d.wr n pg0) (d.wr n pg0) Z2 ∧ Kept (old w0.heap.size Z2) w5 w') := fun Z2 w5 g5 t z b5 => by
    have q := t.writeR n (some ⟨g5, 0, none⟩) pg0 512 b5.byts (fun g off e => by simp only [Option.some.injEq, Addr.mk.injEq] at e; rw [← e.1]; exact Or.inr (Or.inl z)) HM.out
    rw [hpl] at q
    exact q
  rw [hpg]
  generalize d.wrErr n pg0 = er at *
  clear h hm hs1 t1 x1 z1 HT1 HX1 HZ1 hp1 hga hpl hpg hby
  go_enter Try.func15, Try.ntmps15
  go_wp2_with (first
    | (go_at_call 27; go_loud ((with_reducible refine HP1.out.mono ?_); rintro e w2 ⟨rfl, P2, B2, S2⟩; have hf2 := HF2.out w2 P2 B2; obtain ⟨Z2, HZa, HZb, HT2, HX2, HP2⟩ := hf2; clear P2 B2 S2 HP1 HF2))
    | fail)
  have HS2 := hid (HSS.out w2 HX2.out HP2.out)
  have HS2' := hid (HSS.out w2.drew HX2.out HP2.out)
  have HT2d := hid (HT2.out.grow (Below.refl _ _).drew)
  have HW2 := hid (HWL.out Z2 w2.drew HT2d.out HZa.out HP2.out)
  have HF3 : Hid (∀ w3 : World, T2 w0.heap.size w0 w3 db rb (d.wr n pg0) d Z2 → Kept (old w0.heap.size Z2) w2.drew w3 → Hid (Blk w3 w.heap.size [.int .i64 1, .int .i64 n, .int .u8 (f.toNat : Int), .slice bp b.length bc, .bool false, .slice kp keep.length kc, .int .i64 torn, .int .i64 cut] 33) ∧ Hid (Blk w3 ga (bcells pg0) 5)) := fun w3 t k => ⟨k.blk (w := w2.drew) HX2.out (Or.inr HZb.out), k.blk (w := w2.drew) HP2.out (Or.inr HZa.out)⟩
  have HF4 : Hid (∀ w3 w4 : World, T2 w0.heap.size w0 w3 db rb (d.wr n pg0) d Z2 → Blk w3 w.heap.size [.int .i64 1, .int .i64 n, .int .u8 (f.toNat : Int), .slice bp b.length bc, .bool false, .slice kp keep.length kc, .int .i64 torn, .int .i64 cut] 33 → Blk w3 ga (bcells pg0) 5 → Blk w4 (w3.heap.size + 1) (bcells pg0) 5 → Below w3.heap.size w3 w4 → w4.heap.size = w3.heap.size + 2 → ∃ Z4 : Nat → Prop, Hid (Z4 ga) ∧ Hid (Z4 w.heap.size) ∧ Hid (Z4 (w3.heap.size + 1)) ∧ Hid (T2 w0.heap.size w0 w4 db rb (d.wr n pg0) d Z4) ∧ Hid (Blk w4 w.heap.size [.int .i64 1, .int .i64 n, .int .u8 (f.toNat : Int), .slice bp b.length bc, .bool false, .slice kp keep.length kc, .int .i64 torn, .int .i64 cut] 33) ∧ Hid (Blk w4 ga (bcells pg0) 5)) := by
    intro w3 w4 t x p q b s
    refine ⟨_, ?_, ?_, ?_, hid (t.add b), x.below b x.lt, p.below b p.lt⟩
    · exact hid (p := _ ∨ _) (Or.inl HZa.out)
    · exact hid (p := _ ∨ _) (Or.inl HZb.out)
    · exact hid (p := _ ∨ _) (Or.inr ⟨by omega, by omega⟩)
  go_region_held_law (fun w' => w'.cell? ⟨w.heap.size, 0, none⟩ = some (.int .i64 1) ∧ w'.cell? ⟨w.heap.size, 1, none⟩ = some (.int .i64 n) ∧ w'.cell? ⟨w.heap.size, 2, none⟩ = some (.int .u8 (f.toNat : Int)) ∧ w'.cell? ⟨w.heap.size, 3, none⟩ = some (.slice bp b.length bc) ∧ w'.cell? ⟨w.heap.size, 4, none⟩ = some (.bool false) ∧ w'.cell? ⟨w.heap.size, 5, none⟩ = some (.slice kp keep.length kc) ∧ w'.cell? ⟨w.heap.size, 6, none⟩ = some (.int .i64 torn) ∧ w'.cell? ⟨w.heap.size, 7, none⟩ = some (.int .i64 cut) ∧ (convert 30 9 (.slice (some ⟨ga, 0, none⟩) 512 512)).run Try.prog w' = .ok (.string ⟨pg0.toArray⟩) w') (first | exact HS2.out | exact HS2'.out | exact HS3.out | exact HS4.out | exact HS5.out | exact HS6.out)
    (first
      | (go_at_call 12; go_loud ((with_reducible refine HW2.out.mono ?_); rintro e w3 ⟨rfl, T3, K3⟩; have hf3 := HF3.out w3 T3 K3; obtain ⟨HX3, HP3⟩ := hf3; have HT3 := hid T3; have HS3 := hid (HSS.out w3 HX3.out HP3.out); have HG3 := hid (HPg.out w3 (HBy.out w3 T3.bel)); clear T3 K3 HW2))
      | (go_at_call 27; with_reducible first
          | (refine HG3.out.mono ?_; rintro e w4 ⟨rfl, P4, B4, S4⟩; have hf4 := HF4.out w3 w4 HT3.out HX3.out HP3.out P4 B4 S4; obtain ⟨Z4, HY1, HY2, HY3, HT4, HX4, HP4⟩ := hf4; have HS4 := hid (HSS.out w4 HX4.out HP4.out); have HW4 := hid (HWR.out Z4 w4 (w3.heap.size + 1) HT4.out HY3.out P4); clear P4 B4 S4 HG3)
          | (refine HG5.out.mono ?_; rintro e w6 ⟨rfl, P6, B6, S6⟩; have cv6 := by_cv P6.byts HPL.out 512; have HT6 := hid (HT5.out.grow B6); have HX6 := hid (HX5.out.below B6 HX5.out.lt); have HP6 := hid (HP5.out.below B6 HP5.out.lt); have HS6 := hid (HSS.out w6 HX6.out HP6.out); clear P6 B6 S6 HG5))
      | (go_at_call 39; go_loud ((with_reducible refine HW4.out.mono ?_); rintro e w5 ⟨rfl, T5, K5⟩; have HX5 := hid (K5.blk HX4.out (Or.inr HY2.out)); have HP5 := hid (K5.blk HP4.out (Or.inr HY1.out)); have HT5 := hid T5; have HS5 := hid (HSS.out w5 HX5.out HP5.out); have HG5 := hid (HPg.out w5 (HBy.out w5 T5.bel)); clear T5 K5 HW4))
      | fail)
  clear HSS HPg HBy HWL HWR HF3 HF4 HS2 HS2' HT2d
  go_wp2
  go_loopw [15] (fun i wr => ∃ (k : Nat) (l : List UInt8), i = .int .i64 (k : Int) ∧ k ≤ 512 ∧ l.length = 512 ∧ Blk wr ga (bcells l) 5 ∧ T2 w0.heap.size w0 wr db rb (d.wr n pg0) (d.wr n pg0) Z4) (fun i _ => 512 - (RowKit.intOf i).toNat)
  case atStart => exact ⟨0, pg0, rfl, by omega, HPL.out, HP6.out, HT6.out⟩
  case round =>
    clear HP6 HT6 HP5 HT5 HP4 HT4 HP3 HT3 HP2 HT2 cv6 HS3 HS4 HS5 HS6
    obtain ⟨k, l, rfl, hk, hl, hP, hT⟩ := hrel
    have HP := hid hP
    have HT := hid hT
    have HLl := hid hl
    by_cases hx : k < 512
    · have gf := hP.frozen k
      have hxl : k < l.length := by rw [hl]; exact hx
      have gc : wr.cell? ⟨ga, k, none⟩ = some (.int .u8 (l[k].toNat : Int)) := (hP.cell k).trans (bcells_at hxl)
      generalize l[k] = old at *
      have hx' : (k : Int) < 512 := by omega
      clear hP hT hl hxl
      go_wp2
      go_roundw
      case rel =>
        have q := HP.out.set (i := k) (.int .u8 ((77 : UInt8).toNat : Int))
        rw [bcells_set] at q
        refine ⟨k + 1, l.set k 77, by go_num, by omega, by rw [List.length_set]; exact HLl.out, q, ?_⟩
        exact HT.out.turn HY1.out HSG.out (fun F hF => chg_set _ _ _ _ hF)
      case measure => simp [RowKit.intOf]; omega
    · obtain rfl : k = 512 := by omega
      clear hP hT hl hx hk
      go_wp2
      go_ret
      exact ⟨rfl, HT.out.less (fun _ h => h.elim)⟩
set_option maxRecDepth 20000 in
set_option maxHeartbeats 4000000 in
theorem both_write513 {w0 w : World} {db rb : Nat} {d : Dk} (n torn cut : Int) (f : UInt8) (b : List UInt8) (keep : List Bool) (bp kp : Option Addr) (bc kc : Nat) (h : T2 w0.heap.size w0 w db rb d d (fun _ => False)) (hm : d.pend.length < 1000000) (hby : Byts w0 bp b) :
    Calls Try.prog 15 #[.pointer (some ⟨db, 0, none⟩), .pointer (some ⟨rb, 0, none⟩), .agg #[.int .i64 1, .int .i64 n, .int .u8 (f.toNat : Int), .slice bp b.length bc, .bool true, .slice kp keep.length kc, .int .i64 torn, .int .i64 cut]] w fun e w' => e = .returned (.bool true) ∧ T2 w0.heap.size w0 w' db rb (d.wr n (pageM f b 513)) (d.wr n (pageM f b 513)) (fun _ => False) := by
  obtain ⟨Z, z1, t1, x1, hs1⟩ := h.box [.int .i64 1, .int .i64 n, .int .u8 (f.toNat : Int), .slice bp b.length bc, .bool true, .slice kp keep.length kc, .int .i64 torn, .int .i64 cut] 33
  have HZ1 := hid z1
  have HT1 := hid t1
  have HX1 := hid x1
  have HM := hid hm
  have HS1 := hid hs1
  obtain ⟨ga, hga⟩ : ∃ ga, ga = (w.alloc (.cells #[.int .i64 1, .int .i64 n, .int .u8 (f.toNat : Int), .slice bp b.length bc, .bool true, .slice kp keep.length kc, .int .i64 torn, .int .i64 cut] 33)).heap.size + 1 := ⟨_, rfl⟩
  obtain ⟨pg0, hpg⟩ : ∃ pg0, pageM f b 513 = pg0 := ⟨_, rfl⟩
  have hpl : pg0.length = 513 := by rw [← hpg]; exact pageM_len ..
  have HPL := hid hpl
  have HSG : Hid (w0.heap.size ≤ ga) := by show _ ≤ _; rw [hga]; simp; omega
  have HPg : Hid (∀ w5 : World, Byts w5 bp b → Calls Try.prog 27 #[.agg #[.int .i64 1, .int .i64 n, .int .u8 (f.toNat : Int), .slice bp b.length bc, .bool true, .slice kp keep.length kc, .int .i64 torn, .int .i64 cut]] w5 fun e w' => e = .returned (.slice (some ⟨w5.heap.size + 1, 0, none⟩) 513 513) ∧ Blk w' (w5.heap.size + 1) (bcells pg0) 5 ∧ Below w5.heap.size w5 w' ∧ w'.heap.size = w5.heap.size + 2) := fun w5 hb => by
    have t := page_513 1 n f bp b bc (.slice kp keep.length kc) torn cut w5 hb
    rw [hpg] at t
    exact t
  have HBy : Hid (∀ w5 : World, Below w0.heap.size w0 w5 → Byts w5 bp b) := fun w5 B => hby.below B
  have hp1 := HPg.out (w.alloc (.cells #[.int .i64 1, .int .i64 n, .int .u8 (f.toNat : Int), .slice bp b.length bc, .bool true, .slice kp keep.length kc, .int .i64 torn, .int .i64 cut] 33)) (HBy.out _ t1.bel)
  rw [← hga] at hp1
  have HP1 := hid hp1
  have HF2 : Hid (∀ w2 : World, Blk w2 ga (bcells pg0) 5 → Below (w.alloc (.cells #[.int .i64 1, .int .i64 n, .int .u8 (f.toNat : Int), .slice bp b.length bc, .bool true, .slice kp keep.length kc, .int .i64 torn, .int .i64 cut] 33)).heap.size (w.alloc (.cells #[.int .i64 1, .int .i64 n, .int .u8 (f.toNat : Int), .slice bp b.length bc, .bool true, .slice kp keep.length kc, .int .i64 torn, .int .i64 cut] 33)) w2 →
      ∃ Z2 : Nat → Prop, Hid (Z2 ga) ∧ Hid (Z2 w.heap.size) ∧ Hid (T2 w0.heap.size w0 w2 db rb d d Z2) ∧ Hid (Blk w2 w.heap.size [.int .i64 1, .int .i64 n, .int .u8 (f.toNat : Int), .slice bp b.length bc, .bool true, .slice kp keep.length kc, .int .i64 torn, .int .i64 cut] 33) ∧ Hid (Blk w2 ga (bcells pg0) 5)) := by
    intro w2 P2 B2
    refine ⟨_, ?_, ?_, hid (HT1.out.add B2), HX1.out.below B2 HX1.out.lt, P2⟩
    · exact hid (p := _ ∨ _) (Or.inr ⟨by omega, P2.lt⟩)
    · exact hid (p := _ ∨ _) (Or.inl HZ1.out)
  have HSS : Hid (∀ w5 : World, Blk w5 w.heap.size [.int .i64 1, .int .i64 n, .int .u8 (f.toNat : Int), .slice bp b.length bc, .bool true, .slice kp keep.length kc, .int .i64 torn, .int .i64 cut] 33 → Blk w5 ga (bcells pg0) 5 → w5.cell? ⟨w.heap.size, 0, none⟩ = some (.int .i64 1) ∧ w5.cell? ⟨w.heap.size, 1, none⟩ = some (.int .i64 n) ∧ w5.cell? ⟨w.heap.size, 2, none⟩ = some (.int .u8 (f.toNat : Int)) ∧ w5.cell? ⟨w.heap.size, 3, none⟩ = some (.slice bp b.length bc) ∧ w5.cell? ⟨w.heap.size, 4, none⟩ = some (.bool true) ∧ w5.cell? ⟨w.heap.size, 5, none⟩ = some (.slice kp keep.length kc) ∧ w5.cell? ⟨w.heap.size, 6, none⟩ = some (.int .i64 torn) ∧ w5.cell? ⟨w.heap.size, 7, none⟩ = some (.int .i64 cut) ∧ (convert 30 9 (.slice (some ⟨ga, 0, none⟩) 513 513)).run Try.prog w5 = .ok (.string ⟨pg0.toArray⟩) w5) := fun w5 bx bp => ⟨bx.cell 0, bx.cell 1, bx.cell 2, bx.cell 3, bx.cell 4, bx.cell 5, bx.cell 6, bx.cell 7, by_cv bp.byts HPL.out _⟩
  have HWL : Hid (∀ (Z2 : Nat → Prop) (w5 : World), T2 w0.heap.size w0 w5 db rb d d Z2 → Z2 ga → Blk w5 ga (bcells pg0) 5 → Calls Try.prog 12 #[.pointer (some ⟨db, 0, none⟩), .int .i64 n, .slice (some ⟨ga, 0, none⟩) 513 513] w5 fun e w' => e = .returned (.int .i64 (d.wrErr n pg0)) ∧ T2 w0.heap.size w0 w' db rb (d.wr n pg0) d Z2 ∧ Kept (old w0.heap.size Z2) w5 w') := fun Z2 w5 t z b5 => by
    have q := t.writeL n (some ⟨ga, 0, none⟩) pg0 513 b5.byts (fun g off e => by simp only [Option.some.injEq, Addr.mk.injEq] at e; rw [← e.1]; exact Or.inr (Or.inl z)) HM.out
    rw [hpl] at q
    exact q
  have HWR : Hid (∀ (Z2 : Nat → Prop) (w5 : World) (g5 : Nat), T2 w0.heap.size w0 w5 db rb (d.wr n pg0) d Z2 → Z2 g5 → Blk w5 g5 (bcells pg0) 5 → Calls Try.prog 39 #[.pointer (some ⟨rb, 0, none⟩), .int .i64 n, .slice (some ⟨g5, 0, none⟩) 513 513] w5 fun e w' => e = .returned (.int .i64 (d.wrErr n pg0)) ∧ T2 w0.heap.size w0 w' db rb (d.wr n pg0) (d.wr n pg0) Z2 ∧ Kept (old w0.heap.size Z2) w5 w') := fun Z2 w5 g5 t z b5 => by
    have q := t.writeR n (some ⟨g5, 0, none⟩) pg0 513 b5.byts (fun g off e => by simp only [Option.some.injEq, Addr.mk.injEq] at e; rw [← e.1]; exact Or.inr (Or.inl z)) HM.out
    rw [hpl] at q
    exact q
  rw [hpg]
  generalize d.wrErr n pg0 = er at *
  clear h hm hs1 t1 x1 z1 HT1 HX1 HZ1 hp1 hga hpl hpg hby
  go_enter Try.func15, Try.ntmps15
  go_wp2_with (first
    | (go_at_call 27; go_loud ((with_reducible refine HP1.out.mono ?_); rintro e w2 ⟨rfl, P2, B2, S2⟩; have hf2 := HF2.out w2 P2 B2; obtain ⟨Z2, HZa, HZb, HT2, HX2, HP2⟩ := hf2; clear P2 B2 S2 HP1 HF2))
    | fail)
  have HS2 := hid (HSS.out w2 HX2.out HP2.out)
  have HS2' := hid (HSS.out w2.drew HX2.out HP2.out)
  have HT2d := hid (HT2.out.grow (Below.refl _ _).drew)
  have HW2 := hid (HWL.out Z2 w2.drew HT2d.out HZa.out HP2.out)
  have HF3 : Hid (∀ w3 : World, T2 w0.heap.size w0 w3 db rb (d.wr n pg0) d Z2 → Kept (old w0.heap.size Z2) w2.drew w3 → Hid (Blk w3 w.heap.size [.int .i64 1, .int .i64 n, .int .u8 (f.toNat : Int), .slice bp b.length bc, .bool true, .slice kp keep.length kc, .int .i64 torn, .int .i64 cut] 33) ∧ Hid (Blk w3 ga (bcells pg0) 5)) := fun w3 t k => ⟨k.blk (w := w2.drew) HX2.out (Or.inr HZb.out), k.blk (w := w2.drew) HP2.out (Or.inr HZa.out)⟩
  have HF4 : Hid (∀ w3 w4 : World, T2 w0.heap.size w0 w3 db rb (d.wr n pg0) d Z2 → Blk w3 w.heap.size [.int .i64 1, .int .i64 n, .int .u8 (f.toNat : Int), .slice bp b.length bc, .bool true, .slice kp keep.length kc, .int .i64 torn, .int .i64 cut] 33 → Blk w3 ga (bcells pg0) 5 → Blk w4 (w3.heap.size + 1) (bcells pg0) 5 → Below w3.heap.size w3 w4 → w4.heap.size = w3.heap.size + 2 → ∃ Z4 : Nat → Prop, Hid (Z4 ga) ∧ Hid (Z4 w.heap.size) ∧ Hid (Z4 (w3.heap.size + 1)) ∧ Hid (T2 w0.heap.size w0 w4 db rb (d.wr n pg0) d Z4) ∧ Hid (Blk w4 w.heap.size [.int .i64 1, .int .i64 n, .int .u8 (f.toNat : Int), .slice bp b.length bc, .bool true, .slice kp keep.length kc, .int .i64 torn, .int .i64 cut] 33) ∧ Hid (Blk w4 ga (bcells pg0) 5)) := by
    intro w3 w4 t x p q b s
    refine ⟨_, ?_, ?_, ?_, hid (t.add b), x.below b x.lt, p.below b p.lt⟩
    · exact hid (p := _ ∨ _) (Or.inl HZa.out)
    · exact hid (p := _ ∨ _) (Or.inl HZb.out)
    · exact hid (p := _ ∨ _) (Or.inr ⟨by omega, by omega⟩)
  go_region_held_law (fun w' => w'.cell? ⟨w.heap.size, 0, none⟩ = some (.int .i64 1) ∧ w'.cell? ⟨w.heap.size, 1, none⟩ = some (.int .i64 n) ∧ w'.cell? ⟨w.heap.size, 2, none⟩ = some (.int .u8 (f.toNat : Int)) ∧ w'.cell? ⟨w.heap.size, 3, none⟩ = some (.slice bp b.length bc) ∧ w'.cell? ⟨w.heap.size, 4, none⟩ = some (.bool true) ∧ w'.cell? ⟨w.heap.size, 5, none⟩ = some (.slice kp keep.length kc) ∧ w'.cell? ⟨w.heap.size, 6, none⟩ = some (.int .i64 torn) ∧ w'.cell? ⟨w.heap.size, 7, none⟩ = some (.int .i64 cut) ∧ (convert 30 9 (.slice (some ⟨ga, 0, none⟩) 513 513)).run Try.prog w' = .ok (.string ⟨pg0.toArray⟩) w') (first | exact HS2.out | exact HS2'.out | exact HS3.out | exact HS4.out | exact HS5.out | exact HS6.out)
    (first
      | (go_at_call 12; go_loud ((with_reducible refine HW2.out.mono ?_); rintro e w3 ⟨rfl, T3, K3⟩; have hf3 := HF3.out w3 T3 K3; obtain ⟨HX3, HP3⟩ := hf3; have HT3 := hid T3; have HS3 := hid (HSS.out w3 HX3.out HP3.out); have HG3 := hid (HPg.out w3 (HBy.out w3 T3.bel)); clear T3 K3 HW2))
      | (go_at_call 27; with_reducible first
          | (refine HG3.out.mono ?_; rintro e w4 ⟨rfl, P4, B4, S4⟩; have hf4 := HF4.out w3 w4 HT3.out HX3.out HP3.out P4 B4 S4; obtain ⟨Z4, HY1, HY2, HY3, HT4, HX4, HP4⟩ := hf4; have HS4 := hid (HSS.out w4 HX4.out HP4.out); have HW4 := hid (HWR.out Z4 w4 (w3.heap.size + 1) HT4.out HY3.out P4); clear P4 B4 S4 HG3)
          | (refine HG5.out.mono ?_; rintro e w6 ⟨rfl, P6, B6, S6⟩; have cv6 := by_cv P6.byts HPL.out 513; have HT6 := hid (HT5.out.grow B6); have HX6 := hid (HX5.out.below B6 HX5.out.lt); have HP6 := hid (HP5.out.below B6 HP5.out.lt); have HS6 := hid (HSS.out w6 HX6.out HP6.out); clear P6 B6 S6 HG5))
      | (go_at_call 39; go_loud ((with_reducible refine HW4.out.mono ?_); rintro e w5 ⟨rfl, T5, K5⟩; have HX5 := hid (K5.blk HX4.out (Or.inr HY2.out)); have HP5 := hid (K5.blk HP4.out (Or.inr HY1.out)); have HT5 := hid T5; have HS5 := hid (HSS.out w5 HX5.out HP5.out); have HG5 := hid (HPg.out w5 (HBy.out w5 T5.bel)); clear T5 K5 HW4))
      | fail)
  clear HSS HPg HBy HWL HWR HF3 HF4 HS2 HS2' HT2d
  go_wp2
  go_loopw [15] (fun i wr => ∃ (k : Nat) (l : List UInt8), i = .int .i64 (k : Int) ∧ k ≤ 513 ∧ l.length = 513 ∧ Blk wr ga (bcells l) 5 ∧ T2 w0.heap.size w0 wr db rb (d.wr n pg0) (d.wr n pg0) Z4) (fun i _ => 513 - (RowKit.intOf i).toNat)
  case atStart => exact ⟨0, pg0, rfl, by omega, HPL.out, HP6.out, HT6.out⟩
  case round =>
    clear HP6 HT6 HP5 HT5 HP4 HT4 HP3 HT3 HP2 HT2 cv6 HS3 HS4 HS5 HS6
    obtain ⟨k, l, rfl, hk, hl, hP, hT⟩ := hrel
    have HP := hid hP
    have HT := hid hT
    have HLl := hid hl
    by_cases hx : k < 513
    · have gf := hP.frozen k
      have hxl : k < l.length := by rw [hl]; exact hx
      have gc : wr.cell? ⟨ga, k, none⟩ = some (.int .u8 (l[k].toNat : Int)) := (hP.cell k).trans (bcells_at hxl)
      generalize l[k] = old at *
      have hx' : (k : Int) < 513 := by omega
      clear hP hT hl hxl
      go_wp2
      go_roundw
      case rel =>
        have q := HP.out.set (i := k) (.int .u8 ((77 : UInt8).toNat : Int))
        rw [bcells_set] at q
        refine ⟨k + 1, l.set k 77, by go_num, by omega, by rw [List.length_set]; exact HLl.out, q, ?_⟩
        exact HT.out.turn HY1.out HSG.out (fun F hF => chg_set _ _ _ _ hF)
      case measure => simp [RowKit.intOf]; omega
    · obtain rfl : k = 513 := by omega
      clear hP hT hl hx hk
      go_wp2
      go_ret
      exact ⟨rfl, HT.out.less (fun _ h => h.elim)⟩
end Go.Proofs.Ytfgcjcffplglhaa
