/- The walk of DiskSyncs. No conditions. -/
import Derived.Test.YtfgcjcffplglhaaDkMore
namespace Go.Proofs.Ytfgcjcffplglhaa
open Go.RowKit
set_option linter.unusedVariables false

/-- What was synced at a page, and not written since. -/
structure SyncAt (d : Dk) (q : Int) (b : List UInt8) (k : Nat) : Prop where
  free : d.free
  pages : d.pages = 6
  last : d.last q = b
  other : ∀ x ∈ d.pend, x.1 ≠ q
  len : d.pend.length ≤ k
theorem SyncAt.start {q : Int} {b : List UInt8} (h0 : 0 ≤ q) (h1 : q < 6) (hb : b.length = 512) : ((Dk.fresh 6).wr q b).sy.last q = b ∧ (Dk.fresh 6).wrErr q b = 0 ∧ ((Dk.fresh 6).wr q b).syErr = 0 ∧ SyncAt ((Dk.fresh 6).wr q b).sy q b 0 := by
  have f0 := Dk.fresh_free 6
  have e := f0.wr (n := q) (b := b) h0 h1 hb
  have f1 := f0.push q b
  have g := f1.sy
  have hl : ((Dk.fresh 6).wr q b).sy.last q = b := by
    rw [e.2, g.2]
    show putP _ q (over (b.take 512) zero512) q = b
    unfold putP
    rw [if_pos rfl, List.take_of_length_le (by omega), over_all (by rw [hb, zero512_len])]
  refine ⟨hl, e.1, by rw [e.2]; exact g.1, ?_, ?_, hl, ?_, ?_⟩
  · rw [e.2, g.2]; exact f1.settled _
  · rw [e.2, g.2]; rfl
  · rw [e.2, g.2]; intro x hx; cases hx
  · rw [e.2, g.2]; exact Nat.zero_le _
theorem SyncAt.wr {d : Dk} {q n : Int} {b c : List UInt8} {k : Nat} (h : SyncAt d q b k) (h0 : 0 ≤ n) (h1 : n < 6) (hc : c.length = 512) (hn : n ≠ q) : SyncAt (d.wr n c) q b (k + 1) := by
  have e := h.free.wr (n := n) (b := c) h0 (by rw [h.pages]; exact h1) hc
  rw [e.2]
  refine ⟨h.free.push n c, h.pages, h.last, fun x hx => ?_, ?_⟩
  · rcases List.mem_append.1 hx with hx | hx
    · exact h.other x hx
    · rw [List.mem_singleton] at hx; subst hx; exact hn
  · show (d.pend ++ [(n, c)]).length ≤ k + 1
    rw [List.length_append]
    have := h.len
    simpa using this
theorem SyncAt.mono {d : Dk} {q : Int} {b : List UInt8} {k j : Nat} (h : SyncAt d q b k) (hj : k ≤ j) : SyncAt d q b j := ⟨h.free, h.pages, h.last, h.other, Nat.le_trans h.len hj⟩
theorem SyncAt.mended {d : Dk} {q : Int} {b : List UInt8} {k : Nat} (h : SyncAt d q b k) (h0 : 0 ≤ q) (h1 : q < 6) (keep : List Bool) (torn cut : Int) : (d.mended keep torn cut).has q = b ∧ (d.mended keep torn cut).reach q = 0 :=
  ⟨(settleIn_other _ q _ _ _ h.other).trans h.last, (Dk.mended_free _ _ _ _).reach h0 (by show q < (d.pages : Int); rw [h.pages]; exact h1)⟩

set_option maxHeartbeats 2000000 in
theorem dsyncs_walk (n : Int) (f : UInt8) (l : List Opx) (keep : List Bool) (torn : Int) (lp kp : Option Addr) (lc kc : Nat) (w : World) (hl : l.length ≤ maxLen) (hL : Ops w lp l) (hK : Bits w kp keep) :
    Calls Try.prog 7 #[.int .i64 n, .int .u8 (f.toNat : Int), .slice lp l.length lc, .slice kp keep.length kc, .int .i64 torn] w fun e w' => e = .returned (.bool true) ∧ Below w.heap.size w w' := by
  have HWk := hid (works_any w)
  have HL := hid hL
  have HK := hid hK
  clear hL hK
  obtain ⟨q, hq⟩ : ∃ q, wrap64 ((IntKind.u64.wrap n).tmod 6) = q := ⟨_, rfl⟩
  have hqb := umod_bd n 6 (by omega) (by omega)
  rw [hq] at hqb
  obtain ⟨hq0, hq1⟩ := hqb
  have HNw : Hid (∀ w1 : World, Calls Try.prog 9 #[.int .i64 6] w1 fun e w' => e = .returned (.tuple #[.pointer (some ⟨w1.heap.size + 2, 0, none⟩), .int .i64 0]) ∧ PD w' (w1.heap.size + 2) (fun k => w1.heap.size ≤ k ∧ k < w'.heap.size) (Dk.fresh 6) ∧ w'.heap.size = w1.heap.size + 3 ∧ Below w1.heap.size w1 w') := fun w1 => newD 6 w1 (by omega) (by omega)
  have HPg : Hid (∀ (f : UInt8) (w1 : World), Calls Try.prog 27 #[.agg #[.int .i64 0, .int .i64 0, .int .u8 (f.toNat : Int), .slice none 0 0, .bool false, .slice none 0 0, .int .i64 0, .int .i64 0]] w1 fun e w' => e = .returned (.slice (some ⟨w1.heap.size + 1, 0, none⟩) 512 512) ∧ Blk w' (w1.heap.size + 1) (bcells (pageM f [] 512)) 5 ∧ Below w1.heap.size w1 w' ∧ w'.heap.size = w1.heap.size + 2) := fun f w1 => page_512 0 0 f none [] 0 _ 0 0 w1 (Or.inl rfl)
  have hBl : (pageM f [] 512).length = 512 := pageM_len ..
  have HST := hid (SyncAt.start hq0 hq1 hBl)
  have HBL := hid hBl
  clear hBl
  have HW1 : Hid (∀ (w3 : World) (db g : Nat) ps, QP w.heap.size w w3 db (Dk.fresh 6) ps → (g, pageM f [] 512) ∈ ps → Calls Try.prog 12 #[.pointer (some ⟨db, 0, none⟩), .int .i64 q, .slice (some ⟨g, 0, none⟩) 512 512] w3 fun e w' => e = .returned (.int .i64 0) ∧ QP w.heap.size w w' db ((Dk.fresh 6).wr q (pageM f [] 512)) ps) := fun w3 db g ps Q hx => by
    have t := Q.write q 512 _ hx (by decide)
    rw [HST.out.2.1, HBL.out] at t
    exact t.mono (fun e w' ⟨a, b, _⟩ => ⟨a, b⟩)
  have HS1 : Hid (∀ (w3 : World) (db : Nat) ps, QP w.heap.size w w3 db ((Dk.fresh 6).wr q (pageM f [] 512)) ps → Calls Try.prog 13 #[.pointer (some ⟨db, 0, none⟩)] w3 fun e w' => e = .returned (.int .i64 0) ∧ QP w.heap.size w w' db ((Dk.fresh 6).wr q (pageM f [] 512)).sy ps) := fun w3 db ps Q => by
    have t := Q.sync (by rw [((Dk.fresh_free 6).wr (n := q) hq0 hq1 HBL.out).2]; show 1 < 1000000; omega)
    rw [HST.out.2.2.1] at t
    exact t
  go_enter Try.func7, Try.ntmps7
  go_wp2_with (first
    | (go_at_call 24; with_reducible refine HWk.out.mono ?_; rintro e w1 ⟨rfl, B1⟩; have HB1 := hid B1; clear B1 HWk)
    | (go_at_call 9; with_reducible refine (HNw.out _).mono ?_; rintro e w2 ⟨rfl, P2, S2, B2⟩; have HQ2 := hid (QP.start P2 B2 HB1.out.size HB1.out); clear P2 S2 B2)
    | (go_at_call 27; with_reducible refine (HPg.out f w2).mono ?_; rintro e w3 ⟨rfl, G3, B3, S3⟩; have HQ3 := hid (HQ2.out.page B3 (Nat.le_add_right _ 1) G3); clear G3 B3 S3)
    | (go_at_call 12; with_reducible refine (HW1.out _ _ _ _ HQ3.out (List.mem_cons_self ..)).mono ?_; rintro e w4 ⟨rfl, Q4⟩; have HQ4 := hid Q4; clear Q4 HQ3)
    | (go_at_call 13; with_reducible refine (HS1.out _ _ _ HQ4.out).mono ?_; rintro e w5 ⟨rfl, Q5⟩; have HQ5 := hid Q5; clear Q5 HQ4)
    | fail)
  clear HNw HW1 HS1 HQ2
  generalize w1.heap.size + 2 = db at *
  generalize w2.heap.size + 1 = gb at *
  have HSA := hid HST.out.2.2.2
  have HBB : Hid (pageM f [] 512 = pageM f [] 512) := rfl
  clear HST HBB
  generalize ((Dk.fresh 6).wr q (pageM f [] 512)).sy = d0 at *
  generalize pageM f [] 512 = B at *
  go_loopw [14] (fun i wr => ∃ (k : Nat) (d : Dk), i = .int .i64 (k : Int) ∧ k ≤ 30 ∧ QP w.heap.size w wr db d [(gb, B)] ∧ SyncAt d q B k) (fun i _ => 30 - (RowKit.intOf i).toNat)
  case atStart => exact ⟨0, d0, rfl, by omega, HQ5.out, HSA.out⟩
  case round =>
    clear HQ5 HSA
    obtain ⟨k, d, rfl, hk, hQ, hS⟩ := hrel
    have HQ := hid hQ
    have HS := hid hS
    have hBw := hQ.1.bel
    by_cases hx : k < l.length ∧ k < 30
    · obtain ⟨hx1, hx2⟩ := hx
      obtain ⟨g, off, rfl, bp, bc, kp', kc', c0, c1, c2, c3, c4, c5, c6, c7, _⟩ := (HL.out.below hBw).at hx1
      obtain ⟨r, hr⟩ : ∃ r, wrap64 ((IntKind.u64.wrap l[k].n).tmod 6) = r := ⟨_, rfl⟩
      have hrb := umod_bd l[k].n 6 (by omega) (by omega)
      rw [hr] at hrb
      obtain ⟨hr0, hr1⟩ := hrb
      clear hQ hS hBw c0 c3 c4 c5 c6 c7
      generalize l[k].n = ln at *
      generalize l[k].fill = lf at *
      have hx2' : (k : Int) < 30 := by omega
      by_cases hrq : r = q
      · have hb : (r == q) = true := by simpa using hrq
        go_wp2
        go_roundw
        case rel => exact ⟨k + 1, d, by go_num, by omega, HQ.out, HS.out.mono (by omega)⟩
        case measure => simp [RowKit.intOf]; omega
      · have hb : (r == q) = false := by simpa using hrq
        have HW2 : Hid (∀ (w3 : World) (g : Nat) ps, QP w.heap.size w w3 db d ps → (g, pageM lf [] 512) ∈ ps → Calls Try.prog 12 #[.pointer (some ⟨db, 0, none⟩), .int .i64 r, .slice (some ⟨g, 0, none⟩) 512 512] w3 fun e w' => (∃ x, e = .returned (.int .i64 x)) ∧ QP w.heap.size w w' db (d.wr r (pageM lf [] 512)) ps) := fun w3 g ps Q hx => by
          have t := Q.write r 512 _ hx (by have := HS.out.len; omega)
          rw [pageM_len] at t
          exact t.mono (fun e w' ⟨a, b, _⟩ => ⟨⟨_, a⟩, b⟩)
        have HSn : Hid (SyncAt (d.wr r (pageM lf [] 512)) q B (k + 1)) := HS.out.wr hr0 hr1 (pageM_len ..) hrq
        generalize pageM_eq : pageM lf [] 512 = C at *
        have HPl := hid (HPg.out lf wr)
        rw [pageM_eq] at HPl
        clear pageM_eq
        go_wp2_with (first
          | (go_at_call 27; with_reducible refine HPl.out.mono ?_; rintro e w6 ⟨rfl, G6, B6, S6⟩; have HQ6 := hid (HQ.out.page B6 (Nat.le_add_right _ 1) G6); clear G6 B6 S6)
          | (go_at_call 12; with_reducible refine (HW2.out _ _ _ HQ6.out (List.mem_cons_self ..)).mono ?_; rintro e w7 ⟨⟨x, rfl⟩, Q7⟩; have HQ7 := hid (Q7.less (qs := [(gb, B)]) (fun y hy => List.mem_cons_of_mem _ hy)); clear Q7)
          | fail)
        go_roundw
        case rel => exact ⟨k + 1, _, by go_num, by omega, HQ7.out, HSn.out⟩
        case measure => simp [RowKit.intOf]; omega
    · have HMe := HS.out.mended hq0 hq1 keep torn 100
      have HM1 : Hid (Calls Try.prog 14 #[.pointer (some ⟨db, 0, none⟩), .slice kp keep.length kc, .int .i64 torn, .int .i64 100] wr fun e w' => e = .returned (.tuple #[]) ∧ QP w.heap.size w w' db (d.mended keep torn 100) [(gb, B)]) := hQ.mend kp keep kc torn 100 (by have := HS.out.len; omega) (HK.out.below hBw) HK.out.lt
      have HR1 : Hid (∀ w8 : World, QP w.heap.size w w8 db (d.mended keep torn 100) [(gb, B)] → Calls Try.prog 29 #[.pointer (some ⟨db, 0, none⟩), .int .i64 q] w8 fun e w' => e = .returned (.tuple #[.slice (some ⟨w8.heap.size + 1, 0, none⟩) 512 512, .int .i64 0]) ∧ QP w.heap.size w w' db (d.mended keep torn 100) [(w8.heap.size + 1, B), (gb, B)]) := fun w8 Q => by
        have t := Q.read q HMe.2
        rw [HMe.1] at t
        exact t
      have hxx : l.length ≤ k ∨ 30 ≤ k := by omega
      clear hQ hS hBw HMe hx
      rcases hxx with hxx | hxx
      · go_wp2_with (first
          | (go_at_call 14; with_reducible refine HM1.out.mono ?_; rintro e w8 ⟨rfl, Q8⟩; have HQ8 := hid Q8; clear Q8)
          | (go_at_call 29; with_reducible refine (HR1.out _ HQ8.out).mono ?_; rintro e w9 ⟨rfl, Q9⟩; have v1 := Q9.conv (g := w8.heap.size + 1) (List.mem_cons_self ..) HBL.out 512; have v2 := Q9.conv (g := gb) (List.mem_cons_of_mem _ (List.mem_cons_self ..)) HBL.out 512; have HQ9 := hid Q9; clear Q9)
          | fail)
        go_ret
        exact ⟨rfl, HQ9.out.1.bel⟩
      · have hxi : ¬ ((k : Int) < 30) := by omega
        go_wp2_with (first
          | (go_at_call 14; with_reducible refine HM1.out.mono ?_; rintro e w8 ⟨rfl, Q8⟩; have HQ8 := hid Q8; clear Q8)
          | (go_at_call 29; with_reducible refine (HR1.out _ HQ8.out).mono ?_; rintro e w9 ⟨rfl, Q9⟩; have v1 := Q9.conv (g := w8.heap.size + 1) (List.mem_cons_self ..) HBL.out 512; have v2 := Q9.conv (g := gb) (List.mem_cons_of_mem _ (List.mem_cons_self ..)) HBL.out 512; have HQ9 := hid Q9; clear Q9)
          | fail)
        all_goals go_ret
        all_goals exact ⟨rfl, HQ9.out.1.bel⟩
end Go.Proofs.Ytfgcjcffplglhaa
