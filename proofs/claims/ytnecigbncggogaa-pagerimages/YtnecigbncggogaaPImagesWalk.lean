/- What PagerImages does: whatever numbers and acts it is called with, it answers true and leaves memory as it was. No conditions. -/
import Derived.Test.YtnecigbncggogaaPgImgR
import Derived.Test.YtnecigbncggogaaPgWorks
import Derived.Test.YtnecigbncggogaaPgOpenX
namespace Go.Proofs.Ytnecigbncggogaa
open Go.RowKit
set_option linter.unusedVariables false
set_option maxRecDepth 20000

theorem umod_big (n m : Int) (h0 : 0 < m) (h1 : m ≤ 4611686018427387907) : 0 ≤ wrap64 ((IntKind.u64.wrap n).tmod m) ∧ wrap64 ((IntKind.u64.wrap n).tmod m) < m := by
  have hw : 0 ≤ IntKind.u64.wrap n := by
    have e : IntKind.u64.wrap n = n % 18446744073709551616 := by simp [IntKind.wrap, IntKind.bits, IntKind.signed]
    rw [e]; omega
  generalize IntKind.u64.wrap n = u at *
  have a1 := Int.tmod_lt_of_pos u h0
  have a2 : 0 ≤ u.tmod m := Int.tmod_nonneg m hw
  generalize u.tmod m = t at *
  have e : wrap64 t = t := by unfold wrap64; omega
  rw [e]
  exact ⟨a2, a1⟩
theorem umod_nat (n m : Int) (h0 : 0 < m) (h1 : m ≤ 4611686018427387907) : ∃ k : Nat, wrap64 ((IntKind.u64.wrap n).tmod m) = (k : Int) ∧ (k : Int) < m := by
  obtain ⟨a, b⟩ := umod_big n m h0 h1
  exact ⟨(wrap64 ((IntKind.u64.wrap n).tmod m)).toNat, by omega, by omega⟩
theorem umod_nat2 (n m : Int) (h0 : 0 < m) (h1 : m ≤ 4611686018427387907) : ∃ k : Nat, (IntKind.u64.wrap n).tmod m = (k : Int) ∧ (k : Int) < m ∧ wrap64 (k : Int) = (k : Int) ∧ IntKind.i64.wrap (k : Int) = (k : Int) ∧ Hid (k < 9223372036854775808) := by
  have hw : 0 ≤ IntKind.u64.wrap n := by
    have e : IntKind.u64.wrap n = n % 18446744073709551616 := by simp [IntKind.wrap, IntKind.bits, IntKind.signed]
    rw [e]; omega
  generalize IntKind.u64.wrap n = u at *
  have a1 := Int.tmod_lt_of_pos u h0
  have a2 : 0 ≤ u.tmod m := Int.tmod_nonneg m hw
  generalize u.tmod m = t at *
  refine ⟨t.toNat, by omega, by omega, by unfold wrap64; omega, wrap_i64 (by omega), show _ < _ by omega⟩
theorem newest_is {d : Dk} (h : d.openErr = 0) : ∃ x, d.newestHead = some x := by
  cases hn : d.newestHead with
  | some x => exact ⟨x, rfl⟩
  | none =>
    exfalso
    unfold Dk.openErr at h
    rw [hn] at h
    by_cases h1 : d.pages < 3
    · rw [if_pos h1] at h; cases h
    · rw [if_neg h1] at h
      cases h2 : d.down
      · rw [h2, if_neg (by decide), if_pos rfl] at h; cases h
      · rw [h2, if_pos rfl] at h; cases h
set_option maxHeartbeats 8000000 in
theorem pimages_walk (pages : Int) (l : List Opy) (n : Int) (p : Option Addr) (c : Nat) (w : World) (hL : Ops6 w p l) (hl : l.length ≤ maxLen) :
    Calls Try.prog 6 #[.int .i64 pages, .slice p l.length c, .int .i64 n] w fun e w' => e = .returned (.bool true) ∧ Below w.heap.size w w' := by
  have C1 := hid (pworks_any w)
  have HL := hid hL
  obtain ⟨Q, hq, hq1⟩ := umod_nat pages 5 (by omega) (by omega)
  obtain ⟨L, hLe⟩ : ∃ L, L = (3 + Q) * 512 := ⟨_, rfl⟩
  have hmk : ∀ w : World, (Instr.makeSlice 22 (.int .i64 ((3 + (Q : Int)) * 512)) (.int .i64 ((3 + (Q : Int)) * 512))).run Try.prog w = .ok (.slice (some ⟨w.heap.size, 0, none⟩) L L) (w.alloc (.cells (bcells (zeros L)).toArray 5)) := fun w => by
    have := mk_bytes L (by omega) w
    rwa [show (L : Int) = (3 + (Q : Int)) * 512 by omega] at this
  have HLe : Hid (L % 512 = 0 ∧ 1536 ≤ L ∧ L ≤ 3584) := ⟨by omega, by omega, by omega⟩
  clear hL hLe
  go_enter Try.func6, Try.ntmps6
  go_wp2_with (first
    | (go_at_call 22; go_loud (with_reducible refine C1.out.mono ?_); rintro e w1 ⟨rfl, B1⟩; have HB1 := hid B1; have HS1 := hid B1.size; clear B1)
    | fail)
  clear C1 hmk hq hq1
  have HG0 := hid (Blk.new w1 (bcells (zeros L)) 5)
  have HB0 := hid (HB1.out.alloc HB1.out.size (.cells (bcells (zeros L)).toArray 5))
  go_loopw [8] (fun i wr => ∃ (k : Nat) (m : List UInt8), k ≤ 2 ∧ k ≤ l.length ∧ i = .int .i64 (k : Int) ∧ m.length = L ∧ Blk wr w1.heap.size (bcells m) 5 ∧ Below w.heap.size w wr) (fun i _ => 2 - (RowKit.intOf i).toNat)
  case atStart => exact ⟨0, zeros L, by decide, Nat.zero_le _, rfl, zeros_len L, HG0.out, HB0.out⟩
  case round =>
    clear HG0 HB0
    obtain ⟨k, m, hk2, hkl, rfl, hm, hG, hB⟩ := hrel
    have HG := hid hG
    have HB := hid hB
    have HM := hid hm
    have l1 := HLe.out.2.1
    have l2 := HLe.out.2.2
    by_cases hx : k < l.length ∧ k < 2
    · obtain ⟨hx1, hx2⟩ := hx
      obtain ⟨g, off, rfl, hat⟩ := HL.out.at hx1
      have hgl : g < w.heap.size := by obtain ⟨bp, bc, kp, kc, c0, _⟩ := hat; exact cell_lt c0
      have HC : Hid (∀ w' : World, Below w.heap.size w w' → w'.cell? ⟨g, off + k * 6 + 1, none⟩ = some (.int .i64 l[k].n) ∧ w'.cell? ⟨g, off + k * 6 + 4, none⟩ = some (.int .i64 l[k].torn) ∧ w'.cell? ⟨g, off + k * 6 + 5, none⟩ = some (.int .i64 l[k].cut)) := fun w' B => by
        obtain ⟨bp, bc, kp, kc, c0, c1, c2, c3, c4, c5, _⟩ := hat.kept (fun j hj => B.block j hj)
        exact ⟨c1, c4, c5⟩
      obtain ⟨G, hgq, _, hgw, hgi, HGb⟩ := umod_nat2 l[k].n 4611686018427387907 (by omega) (by omega)
      obtain ⟨R, hrq, _, hrw, hri, HRb⟩ := umod_nat2 l[k].torn 9 (by omega) (by omega)
      obtain ⟨K, hkq, hkb⟩ := umod_nat l[k].cut 1000 (by omega) (by omega)
      have hx1' : (k : Int) < (l.length : Int) := by omega
      have hx2' : (k : Int) < 2 := by omega
      generalize l[k].n = xn at *
      generalize l[k].torn = xt at *
      generalize l[k].cut = xc at *
      have C2 : Hid (∀ w5 : World, Calls Try.prog 32 #[.int .i64 (G : Int), .int .i64 (R : Int)] w5 fun e w' => ∃ q cq, e = .returned (.slice (some ⟨q, 0, none⟩) 508 cq) ∧ Byts w' (some ⟨q, 0, none⟩) (headLoad G R) ∧ Below w5.heap.size w5 w' ∧ w5.heap.size ≤ q) := fun w5 => rhead_any G R w5 HGb.out HRb.out
      have C3 : Hid (∀ (w5 : World) (q cq : Nat), Byts w5 (some ⟨q, 0, none⟩) (headLoad G R) → Calls Try.prog 31 #[.slice (some ⟨q, 0, none⟩) 508 cq] w5 fun e w' => ∃ q cq, e = .returned (.slice (some ⟨q, 0, none⟩) 512 cq) ∧ Byts w' (some ⟨q, 0, none⟩) (sealed (headLoad G R)) ∧ Below w5.heap.size w5 w' ∧ w5.heap.size ≤ q) := fun w5 q cq y => rpage_any q 0 cq (headLoad G R) w5 (headLoad_len G R) y
      have hX5 : (sealed (headLoad G R)).length = 512 := by rw [sealed_len, headLoad_len]
      have HX5 := hid hX5
      generalize sealed (headLoad G R) = X at *
      generalize headLoad G R = Y at *
      have HN : Hid ((bcells X).length = Nat.min 512 (L - 512 * k)) := by show _ = _; rw [bcells_len, hX5]; exact (Nat.min_eq_left (by omega)).symm
      have HF : Hid (512 * k + (bcells X).length ≤ (bcells m).length) := by show _ ≤ _; rw [bcells_len, bcells_len, hX5, hm]; omega
      have HM2 : Hid ((lay m (512 * k) X).length = L) := by show _ = _; rw [lay_len (by rw [hX5, hm]; omega)]; exact hm
      obtain ⟨x1, x4, x5⟩ := HC.out wr hB
      have HLx := hid hG.lt
      have HSz := hid hB.size
      have HKb := hid hkb
      have hs1 : (0 : Int) ≤ 512 * (k : Int) := by omega
      have hs2 : 512 * (k : Int) ≤ (L : Int) := by omega
      have hs3 : ¬ (L = 512 * k) := by omega
      have hs7 : (512 * (k : Int)).toNat = 512 * k := by omega
      have hwr : IntKind.i64.wrap (512 * (k : Int)) = 512 * (k : Int) := by
        have := wrap_i64 (x := 512 * k) (by omega)
        rwa [Int.natCast_mul] at this
      clear hm hG hB hat hX5 x5
      go_wp2
      go_region_held_law (fun w' => w'.cell? ⟨g, off + k * 6 + 1, none⟩ = some (.int .i64 xn) ∧ w'.cell? ⟨g, off + k * 6 + 4, none⟩ = some (.int .i64 xt)) (first | exact ⟨x1, x4⟩ | exact HX4.out | exact HX5b.out | exact HX6.out)
        (first
          | (go_at_call 32; go_loud (with_reducible refine (C2.out _).mono ?_); rintro e w4 ⟨q4, cq4, rfl, Y4, B4, Q4⟩; have HBw4 : Hid (Below wr.heap.size wr w4) := (Below.refl _ _).drew.trans B4; have HB4 := hid (HB.out.trans (HBw4.out.mono HSz.out)); have HY4 := hid Y4; have HG4 := hid (HG.out.below HBw4.out HLx.out); have HX4 : Hid (w4.cell? ⟨g, off + k * 6 + 1, none⟩ = some (.int .i64 xn) ∧ w4.cell? ⟨g, off + k * 6 + 4, none⟩ = some (.int .i64 xt)) := ⟨(HC.out w4 HB4.out).1, (HC.out w4 HB4.out).2.1⟩; clear Y4 B4 Q4)
          | (go_at_call 31; go_loud (with_reducible refine (C3.out _ q4 cq4 HY4.out).mono ?_); rintro e w5 ⟨q5, cq5, rfl, Y5, B5, Q5⟩; have HB5 := hid (HB4.out.trans (B5.mono HB4.out.size)); have HY5 := hid Y5; have HG5 := hid (HG4.out.below B5 HG4.out.lt); have HX5b : Hid (w5.cell? ⟨g, off + k * 6 + 1, none⟩ = some (.int .i64 xn) ∧ w5.cell? ⟨g, off + k * 6 + 4, none⟩ = some (.int .i64 xt)) := ⟨(HC.out w5 HB5.out).1, (HC.out w5 HB5.out).2.1⟩; clear Y5 B5 Q5)
          | (go_loud (refine st_copy rfl _ _ rfl w1.heap.size (512 * k) (L - 512 * k) (L - 512 * k) _ _ _ rfl rfl _ 5 HG5.out (bcells X) HN.out HY5.out.src HF.out (bcells_one _) ?_; intro w6 B6 K6 S6; rw [lay_splice] at B6; have HG6 := hid B6; have HB6 := hid (HB5.out.trans ((K6 (· = w1.heap.size) rfl).below (B := w.heap.size) (fun j e => by rw [e]; exact HS1.out) HB5.out.size)); have HX6 : Hid (w6.cell? ⟨g, off + k * 6 + 1, none⟩ = some (.int .i64 xn) ∧ w6.cell? ⟨g, off + k * 6 + 4, none⟩ = some (.int .i64 xt)) := ⟨(HC.out w6 HB6.out).1, (HC.out w6 HB6.out).2.1⟩; clear B6 K6 S6))
          | fail)
      all_goals (
        have x6 := (HC.out w6 HB6.out).2.2
        by_cases hK : K < 512
        · have hK' : (K : Int) < 512 := by omega
          have hin : 512 * k + K < (lay m (512 * k) X).length := by rw [HM2.out]; omega
          have y0 : w6.cell? ⟨w1.heap.size, 512 * k + K, none⟩ = some (.int .u8 (((lay m (512 * k) X)[512 * k + K].toNat : Nat) : Int)) := (HG6.out.cell _).trans (bcells_at hin)
          have y1 := HG6.out.frozen (512 * k + K)
          have hxor : bits .xor .u8 (((lay m (512 * k) X)[512 * k + K].toNat : Nat) : Int) 4 = (((lay m (512 * k) X)[512 * k + K].toNat ^^^ 4 : Nat) : Int) := u8_xor_nat (lay m (512 * k) X)[512 * k + K].toNat 4 (UInt8.toNat_lt _) (by decide)
          have HG7 : Hid (Blk (w6.setCell ⟨w1.heap.size, 512 * k + K, none⟩ (.int .u8 (((lay m (512 * k) X)[512 * k + K].toNat ^^^ 4 : Nat) : Int))) w1.heap.size (bcells ((lay m (512 * k) X).set (512 * k + K) ((lay m (512 * k) X)[512 * k + K] ^^^ 4))) 5) := by
            show Blk _ _ _ _
            have := HG6.out.set (i := 512 * k + K) (.int .u8 ((((lay m (512 * k) X)[512 * k + K] ^^^ 4).toNat : Nat) : Int))
            rw [bcells_set, UInt8.toNat_xor] at this
            exact this
          have HM3 : Hid (((lay m (512 * k) X).set (512 * k + K) ((lay m (512 * k) X)[512 * k + K] ^^^ 4)).length = L) := by show _ = _; rw [List.length_set]; exact HM2.out
          generalize (lay m (512 * k) X).set (512 * k + K) ((lay m (512 * k) X)[512 * k + K] ^^^ 4) = m3 at *
          generalize (lay m (512 * k) X)[512 * k + K] = xb at *
          go_wp2
          go_roundw
          case rel => exact ⟨k + 1, m3, hx2, hx1, by go_num, HM3.out, HG7.out, HB6.out.setCell HS1.out _⟩
          case measure => simp [RowKit.intOf]; omega
        · have hK' : ¬ ((K : Int) < 512) := by omega
          go_wp2
          go_roundw
          case rel => exact ⟨k + 1, lay m (512 * k) X, hx2, hx1, by go_num, HM2.out, HG6.out, HB6.out⟩
          case measure => simp [RowKit.intOf]; omega)
    · have hd : (¬ ((k : Int) < (l.length : Int))) ∨ ((k : Int) < (l.length : Int) ∧ ¬ ((k : Int) < 2)) := by omega
      have C4 : Hid (∀ w5 : World, Blk w5 w1.heap.size (bcells m) 5 → Calls Try.prog 33 #[.slice (some ⟨w1.heap.size, 0, none⟩) L L] w5 fun e w' => ∃ db, e = .returned (.tuple #[.pointer (some ⟨db, 0, none⟩), .int .i64 0]) ∧ PD w' db (fun k => w5.heap.size ≤ k ∧ k < w'.heap.size) (loaded m) ∧ Below w5.heap.size w5 w') := fun w5 b => by
        have t := load_ok m (some ⟨w1.heap.size, 0, none⟩) L w5 (by rw [hm]; exact HLe.out.1) (by rw [hm]; omega) (by rw [hm]; omega) (by rw [hm]; exact Nat.le_refl _) b.byts'
        rw [hm] at t
        exact t.mono (fun e w' x => ⟨_, x⟩)
      have C5 : Hid (∀ w5 : World, Blk w5 w1.heap.size (bcells m) 5 → (loaded m).ok → Calls Try.prog 34 #[.slice (some ⟨w1.heap.size, 0, none⟩) L L] w5 fun e w' => ∃ rb, e = .returned (.tuple #[.pointer (some ⟨rb, 0, none⟩), .int .i64 0]) ∧ RX w' rb (loaded m) ∧ Below w5.heap.size w5 w') := fun w5 b ok => by
        have t := rload_rx m w1.heap.size 0 L w5 (by rw [hm]; omega) (by rw [hm]; exact HLe.out.1) (by rw [hm]; omega) b.byts' ok
        rw [hm] at t
        exact t
      have HPe : Hid ((loaded m).pend.length < 1000000) := by show _ < _; rw [show (loaded m).pend = [] from (loadTo_rest m _ _).2.1]; decide
      have HSz := hid hB.size
      clear hm hG hB l1 l2 hx
      generalize loaded m = d at *
      by_cases ho : d.openErr = 0
      · obtain ⟨x, hxn⟩ := newest_is ho
        have C6 : Hid (∀ (w5 : World) (db : Nat) (Z : Nat → Prop), DW w.heap.size w w5 db d Z → Calls Try.prog 29 #[.pointer (some ⟨db, 0, none⟩)] w5 fun e w' => ∃ pb, e = .returned (.tuple #[.pointer (some ⟨pb, 0, none⟩), .int .i64 0]) ∧ Pag w' pb db ⟨x.1, x.2, false⟩ ∧ Below w5.heap.size w5 w') := fun w5 db Z h => by
          refine h.open_.mono ?_
          rintro e w' ⟨B, _, h2⟩
          obtain ⟨pb, y, hy, _, he, P⟩ := h2 ho
          rw [hxn] at hy
          cases hy
          exact ⟨pb, he, P, B⟩
        have C7 : Hid (∀ (w5 : World) (rb : Nat), RX w5 rb d → Calls Try.prog 35 #[.pointer (some ⟨rb, 0, none⟩)] w5 fun e w' => ∃ qb, e = .returned (.tuple #[.pointer (some ⟨qb, 0, none⟩), .int .i64 0]) ∧ Rag w' qb rb ⟨x.1, x.2, false⟩ ∧ Below w5.heap.size w5 w') := fun w5 rb h => by
          refine (h.open_ HPe.out).mono ?_
          rintro e w' ⟨B, _, h2⟩
          obtain ⟨qb, y, hy, _, he, P⟩ := h2 ho
          rw [hxn] at hy
          cases hy
          exact ⟨qb, he, P, B⟩
        obtain ⟨gx, rx⟩ := x
        have C8 : Hid (∀ (w5 : World) (pb db : Nat), Pag w5 pb db ⟨gx, rx, false⟩ → Calls Try.prog 20 #[.pointer (some ⟨pb, 0, none⟩)] w5 fun e w' => e = .returned (.tuple #[.int .i64 (rx : Int), .int .i64 (gx : Int)]) ∧ Below w5.heap.size w5 w') := fun w5 pb db h => proot_any pb ⟨gx, rx, false⟩ h
        clear hxn
        by_cases hrd : d.rdErr n = 0
        · have C9 : Hid (∀ (w5 : World) (pb db : Nat) (Z : Nat → Prop), DW w.heap.size w w5 db d Z → Pag w5 pb db ⟨gx, rx, false⟩ → Calls Try.prog 30 #[.pointer (some ⟨pb, 0, none⟩), .int .i64 n] w5 fun e w' => ∃ g, e = .returned (.tuple #[.slice (some ⟨g, 0, none⟩) 508 508, .int .i64 0]) ∧ Byts w' (some ⟨g, 0, none⟩) ((d.has n).take 508) ∧ Below w5.heap.size w5 w') := fun w5 pb db Z h P => by
            refine (h.pread pb n _ P).mono ?_
            rintro e w' ⟨B, _, h2⟩
            obtain ⟨g, _, he, y⟩ := h2 hrd
            exact ⟨g, he, y, B⟩
          have C10 : Hid (∀ (w5 : World) (qb rb : Nat), RX w5 rb d → Rag w5 qb rb ⟨gx, rx, false⟩ → Calls Try.prog 36 #[.pointer (some ⟨qb, 0, none⟩), .int .i64 n] w5 fun e w' => ∃ g c, e = .returned (.tuple #[.slice (some ⟨g, 0, none⟩) 508 c, .int .i64 0]) ∧ Byts w' (some ⟨g, 0, none⟩) ((d.has n).take 508) ∧ Below w5.heap.size w5 w') := fun w5 qb rb h P => by
            refine (h.pread qb n _ P HPe.out).mono ?_
            rintro e w' ⟨B, _, h2⟩
            obtain ⟨g, c, he, y⟩ := h2 hrd
            exact ⟨g, c, he, y, B⟩
          have HCV : Hid (∀ (w5 : World) (g c : Nat), d.ok → Byts w5 (some ⟨g, 0, none⟩) ((d.has n).take 508) → (convert 22 9 (.slice (some ⟨g, 0, none⟩) 508 c)).run Try.prog w5 = .ok (.string ⟨((d.has n).take 508).toArray⟩) w5) := fun w5 g c ok y => by
            have := conv_byts c y
            rwa [show ((d.has n).take 508).length = 508 by rw [List.length_take, ok.has]; rfl] at this
          clear hrd ho
          generalize (d.has n).take 508 = b at *
          rcases hd with hd | ⟨hd, hd2⟩
          all_goals (
            go_wp2_with (first
              | (go_at_call 33; go_loud (with_reducible refine (C4.out _ HG.out).mono ?_); rintro e w3 ⟨db, rfl, P3, B3⟩; have HD3 := hid (DW.made (n := 0) P3 B3 HSz.out HB.out); have HG3 := hid (HG.out.below B3 HG.out.lt); have HOk := hid P3.okk; clear P3 B3)
              | (go_at_call 34; go_loud (with_reducible refine (C5.out _ HG3.out HOk.out).mono ?_); rintro e w4 ⟨rb, rfl, X4, B4⟩; have HD4 := hid (HD3.out.grow B4); have HX4 := hid X4; clear X4 B4)
              | (go_at_call 29; go_loud (with_reducible refine (C6.out _ db _ HD4.out).mono ?_); rintro e w5 ⟨pb, rfl, P5, B5⟩; have HD5 := hid (HD4.out.grow B5); have HX5 := hid (HX4.out.grow B5); have HP5 := hid P5; clear P5 B5)
              | (go_at_call 35; go_loud (with_reducible refine (C7.out _ rb HX5.out).mono ?_); rintro e w6 ⟨qb, rfl, P6, B6⟩; have HD6 := hid (HD5.out.grow B6); have HX6 := hid (HX5.out.grow B6); have HP6 := hid (HP5.out.below B6); have HQ6 := hid P6; clear P6 B6)
              | (go_at_call 20; go_loud (with_reducible refine (C8.out _ pb db HP6.out).mono ?_); rintro e w7 ⟨rfl, B7⟩; have HD7 := hid (HD6.out.grow B7); have HX7 := hid (HX6.out.grow B7); have HP7 := hid (HP6.out.below B7); have HQ7 := hid (HQ6.out.below B7); clear B7)
              | (go_at_call 30; go_loud (with_reducible refine (C9.out _ pb db _ HD7.out HP7.out).mono ?_); rintro e w8 ⟨g8, rfl, Y8, B8⟩; have HD8 := hid (HD7.out.grow B8); have HX8 := hid (HX7.out.grow B8); have HQ8 := hid (HQ7.out.below B8); have HY8 := hid Y8; clear B8 Y8)
              | (go_at_call 36; go_loud (with_reducible refine (C10.out _ qb rb HX8.out HQ8.out).mono ?_); rintro e w9 ⟨g9, c9, rfl, Y9, B9⟩; have HD9 := hid (HD8.out.grow B9); obtain ⟨z0, z1, z2, z3, z4⟩ := (HQ8.out.below B9).cells; have v1 := HCV.out w9 g8 508 HOk.out (HY8.out.below B9); have v2 := HCV.out w9 g9 c9 HOk.out Y9; clear B9 Y9)
              | fail)
            go_ret
            exact ⟨rfl, HD9.out.bel⟩)
        · have C9 : Hid (∀ (w5 : World) (pb db : Nat) (Z : Nat → Prop), DW w.heap.size w w5 db d Z → Pag w5 pb db ⟨gx, rx, false⟩ → Calls Try.prog 30 #[.pointer (some ⟨pb, 0, none⟩), .int .i64 n] w5 fun e w' => e = .returned (.tuple #[.slice none 0 0, .int .i64 (d.rdErr n)]) ∧ Below w5.heap.size w5 w') := fun w5 pb db Z h P => by
            refine (h.pread pb n _ P).mono ?_
            rintro e w' ⟨B, h2, _⟩
            exact ⟨h2 hrd, B⟩
          have C10 : Hid (∀ (w5 : World) (qb rb : Nat), RX w5 rb d → Rag w5 qb rb ⟨gx, rx, false⟩ → Calls Try.prog 36 #[.pointer (some ⟨qb, 0, none⟩), .int .i64 n] w5 fun e w' => e = .returned (.tuple #[.slice none 0 0, .int .i64 (d.rdErr n)]) ∧ Below w5.heap.size w5 w') := fun w5 qb rb h P => by
            refine (h.pread qb n _ P HPe.out).mono ?_
            rintro e w' ⟨B, h2, _⟩
            exact ⟨h2 hrd, B⟩
          clear hrd ho
          generalize d.rdErr n = er at *
          rcases hd with hd | ⟨hd, hd2⟩
          all_goals (
            go_wp2_with (first
              | (go_at_call 33; go_loud (with_reducible refine (C4.out _ HG.out).mono ?_); rintro e w3 ⟨db, rfl, P3, B3⟩; have HD3 := hid (DW.made (n := 0) P3 B3 HSz.out HB.out); have HG3 := hid (HG.out.below B3 HG.out.lt); have HOk := hid P3.okk; clear P3 B3)
              | (go_at_call 34; go_loud (with_reducible refine (C5.out _ HG3.out HOk.out).mono ?_); rintro e w4 ⟨rb, rfl, X4, B4⟩; have HD4 := hid (HD3.out.grow B4); have HX4 := hid X4; clear X4 B4)
              | (go_at_call 29; go_loud (with_reducible refine (C6.out _ db _ HD4.out).mono ?_); rintro e w5 ⟨pb, rfl, P5, B5⟩; have HD5 := hid (HD4.out.grow B5); have HX5 := hid (HX4.out.grow B5); have HP5 := hid P5; clear P5 B5)
              | (go_at_call 35; go_loud (with_reducible refine (C7.out _ rb HX5.out).mono ?_); rintro e w6 ⟨qb, rfl, P6, B6⟩; have HD6 := hid (HD5.out.grow B6); have HX6 := hid (HX5.out.grow B6); have HP6 := hid (HP5.out.below B6); have HQ6 := hid P6; clear P6 B6)
              | (go_at_call 20; go_loud (with_reducible refine (C8.out _ pb db HP6.out).mono ?_); rintro e w7 ⟨rfl, B7⟩; have HD7 := hid (HD6.out.grow B7); have HX7 := hid (HX6.out.grow B7); have HP7 := hid (HP6.out.below B7); have HQ7 := hid (HQ6.out.below B7); clear B7)
              | (go_at_call 30; go_loud (with_reducible refine (C9.out _ pb db _ HD7.out HP7.out).mono ?_); rintro e w8 ⟨rfl, B8⟩; have HD8 := hid (HD7.out.grow B8); have HX8 := hid (HX7.out.grow B8); have HQ8 := hid (HQ7.out.below B8); clear B8)
              | (go_at_call 36; go_loud (with_reducible refine (C10.out _ qb rb HX8.out HQ8.out).mono ?_); rintro e w9 ⟨rfl, B9⟩; have HD9 := hid (HD8.out.grow B9); obtain ⟨z0, z1, z2, z3, z4⟩ := (HQ8.out.below B9).cells; have v1 : (convert 22 9 (.slice none 0 0)).run Try.prog w9 = .ok (.string ⟨#[]⟩) w9 := conv_byts (w := w9) (p := none) (l := []) 0 (Or.inl rfl); clear B9)
              | fail)
            go_ret
            exact ⟨rfl, HD9.out.bel⟩)
      · have C6 : Hid (∀ (w5 : World) (db : Nat) (Z : Nat → Prop), DW w.heap.size w w5 db d Z → Calls Try.prog 29 #[.pointer (some ⟨db, 0, none⟩)] w5 fun e w' => e = .returned (.tuple #[.pointer none, .int .i64 d.openErr]) ∧ Below w5.heap.size w5 w') := fun w5 db Z h => by
          refine h.open_.mono ?_
          rintro e w' ⟨B, h2, _⟩
          exact ⟨h2 ho, B⟩
        have C7 : Hid (∀ (w5 : World) (rb : Nat), RX w5 rb d → Calls Try.prog 35 #[.pointer (some ⟨rb, 0, none⟩)] w5 fun e w' => e = .returned (.tuple #[.pointer none, .int .i64 d.openErr]) ∧ Below w5.heap.size w5 w') := fun w5 rb h => by
          refine (h.open_ HPe.out).mono ?_
          rintro e w' ⟨B, h2, _⟩
          exact ⟨h2 ho, B⟩
        clear ho
        generalize d.openErr = er at *
        rcases hd with hd | ⟨hd, hd2⟩
        all_goals (
          go_wp2_with (first
            | (go_at_call 33; go_loud (with_reducible refine (C4.out _ HG.out).mono ?_); rintro e w3 ⟨db, rfl, P3, B3⟩; have HD3 := hid (DW.made (n := 0) P3 B3 HSz.out HB.out); have HG3 := hid (HG.out.below B3 HG.out.lt); have HOk := hid P3.okk; clear P3 B3)
            | (go_at_call 34; go_loud (with_reducible refine (C5.out _ HG3.out HOk.out).mono ?_); rintro e w4 ⟨rb, rfl, X4, B4⟩; have HD4 := hid (HD3.out.grow B4); have HX4 := hid X4; clear X4 B4)
            | (go_at_call 29; go_loud (with_reducible refine (C6.out _ db _ HD4.out).mono ?_); rintro e w5 ⟨rfl, B5⟩; have HD5 := hid (HD4.out.grow B5); have HX5 := hid (HX4.out.grow B5); clear B5)
            | (go_at_call 35; go_loud (with_reducible refine (C7.out _ rb HX5.out).mono ?_); rintro e w6 ⟨rfl, B6⟩; have HD6 := hid (HD5.out.grow B6); clear B6)
            | fail)
          go_ret
          exact ⟨rfl, HD6.out.bel⟩)
end Go.Proofs.Ytnecigbncggogaa
