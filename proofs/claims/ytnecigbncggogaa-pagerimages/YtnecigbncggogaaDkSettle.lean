/- What the functions that Sync and Mend hand over, and (*Disk).settle, do. No conditions. -/
import Derived.Test.YtnecigbncggogaaDkWriteOk
namespace Go.Proofs.Ytnecigbncggogaa
open Go.RowKit
set_option linter.unusedVariables false
set_option maxRecDepth 20000

/-- A slice of bools in memory. -/
def Bits (w : World) (p : Option Addr) (l : List Bool) : Prop :=
  l = [] ∨ ∃ b off, p = some ⟨b, off, none⟩ ∧ ∀ i (h : i < l.length), w.cell? ⟨b, off + i, none⟩ = some (.bool l[i])
set_option maxHeartbeats 400000 in
theorem sync1_any (i : Int) (w : World) : Calls Try.prog 74 #[.int .i64 i] w fun e w' => e = .returned (.int .i64 512) ∧ w' = w := by
  go_enter Try.func74, Try.ntmps74
  go_wp2
  go_ret
  exact ⟨rfl, rfl⟩
theorem keeps_le (keep : List Bool) (torn cut : Int) (i : Nat) : keeps keep torn cut i ≤ 512 := by
  unfold keeps
  split
  · omega
  · split <;> omega
set_option maxHeartbeats 400000 in
theorem mend1_any (keep : List Bool) (torn cut : Int) (i tb cb kb kc : Nat) (kp : Option Addr) (w : World) (h1 : w.cell? ⟨tb, 0, none⟩ = some (.int .i64 torn)) (h2 : w.cell? ⟨cb, 0, none⟩ = some (.int .i64 cut)) (h3 : w.cell? ⟨kb, 0, none⟩ = some (.slice kp keep.length kc)) (hk : Bits w kp keep) :
    Calls Try.prog 62 #[.int .i64 (i : Int), .pointer (some ⟨tb, 0, none⟩), .pointer (some ⟨cb, 0, none⟩), .pointer (some ⟨kb, 0, none⟩)] w fun e w' => e = .returned (.int .i64 (keeps keep torn cut i : Int)) ∧ w' = w := by
  by_cases ht : (i : Int) = torn
  · have hs : keeps keep torn cut i = (min (max cut 0) 512).toNat := by unfold keeps; rw [if_pos ht]
    rw [hs]
    subst ht
    clear hs hk
    by_cases q1 : cut < 0
    · rw [show (((min (max cut 0) 512).toNat : Nat) : Int) = 0 by omega]
      go_enter Try.func62, Try.ntmps62
      go_wp2
      go_ret
      exact ⟨rfl, rfl⟩
    · by_cases q2 : 512 < cut
      · rw [show (((min (max cut 0) 512).toNat : Nat) : Int) = 512 by omega]
        go_enter Try.func62, Try.ntmps62
        go_wp2
        go_ret
        exact ⟨rfl, rfl⟩
      · rw [show (((min (max cut 0) 512).toNat : Nat) : Int) = cut by omega]
        go_enter Try.func62, Try.ntmps62
        go_wp2
        go_ret
        exact ⟨rfl, rfl⟩
  · have hb : ((i : Int) == torn) = false := by simpa using ht
    by_cases hi : i < keep.length
    · have hs : keeps keep torn cut i = if keep[i] then 512 else 0 := by unfold keeps; rw [if_neg ht]; simp [hi]
      rw [hs]
      rcases hk with rfl | ⟨b, off, rfl, hc⟩
      · simp at hi
      have h4 := hc i hi
      clear hc hs ht
      generalize keep[i] = q at *
      generalize keep.length = m at *
      cases q
      · go_enter Try.func62, Try.ntmps62
        go_wp2
        go_ret
        exact ⟨rfl, rfl⟩
      · go_enter Try.func62, Try.ntmps62
        go_wp2
        go_ret
        exact ⟨rfl, rfl⟩
    · have hs : keeps keep torn cut i = 0 := by unfold keeps; rw [if_neg ht]; simp [List.getD, List.getElem?_eq_none (by omega : keep.length ≤ i)]
      rw [hs]
      clear hs ht hk
      generalize keep.length = m at *
      go_enter Try.func62, Try.ntmps62
      go_wp2
      go_ret
      exact ⟨rfl, rfl⟩
/-- The disk behind k writes. -/
def Dk.upto (d : Dk) (c : Nat → Nat) (k : Nat) : Dk := { d with last := settleIn c (d.pend.take k) 0 d.last }
theorem Dk.upto_next {d : Dk} {c : Nat → Nat} {k : Nat} (h : k < d.pend.length) : (d.upto c k).lasts d.pend[k].1 (d.pend[k].2.take (c k)) = d.upto c (k + 1) := by
  unfold Dk.upto Dk.lasts
  simp only
  rw [List.take_succ_eq_append_getElem h, settleIn_snoc]
  rw [List.length_take, Nat.min_eq_left (Nat.le_of_lt h), Nat.zero_add]
theorem Dk.upto_all {d : Dk} (c : Nat → Nat) {k : Nat} (h : d.pend.length ≤ k) : { d.upto c k with pend := [] } = d.settled c := by
  unfold Dk.upto Dk.settled
  simp only
  rw [List.take_of_length_le h]
theorem Dk.upto_zero (d : Dk) (c : Nat → Nat) : d.upto c 0 = d := by unfold Dk.upto; rw [List.take_zero]; rfl
/-- None is pending any more. -/
theorem pd_settled {w : World} {db lb nb : Nat} {pv : Value} {d : Dk} (h : PDisk w db lb nb pv d) :
    PDisk (((w.alloc (.map #[] 0)).setCell ⟨db, 2, none⟩ (.slice none 0 0)).setCell ⟨db, 3, none⟩ (.map (some w.heap.size))) db lb w.heap.size (.slice none 0 0) { d with pend := [] } := by
  have hdb := h.blk.lt
  have hlb := h.lm.lt
  have b1 := ((h.blk.alloc (.map #[] 0)).set (i := 2) (.slice none 0 0)).set (i := 3) (.map (some w.heap.size))
  have dl : lb ≠ db := by rintro rfl; exact h.blk.not_map h.lm
  refine ⟨b1, ?_, ?_, World.ownsRow_nil _ _ _ _, by omega, by simp [Value.ownBlock], ⟨h.ok.last, fun x hx => (by cases hx), fun x hx => (by cases hx), h.ok.arm1, h.ok.arm2, h.ok.pages⟩⟩
  · exact ((h.lm.alloc _).same (set_block dl)).same (set_block dl)
  · refine (((MapIs.made w).same (set_block (by omega))).same (set_block (by omega))).congr (fun k => rfl)

set_option maxHeartbeats 1000000 in
theorem settle_sync (db lb nb : Nat) (pv : Value) (d : Dk) (c : Nat → Nat) (hcb : ∀ i, c i ≤ 512) (w : World) (h : PDisk w db lb nb pv d) (hm : d.pend.length < 1000000)
    (hclo : ∀ (i : Nat) (w' : World), Chg (· = lb) w w' → Calls Try.prog 74 #[.int .i64 (i : Int)] w' fun e w'' => e = .returned (.int .i64 (c i : Int)) ∧ w'' = w') :
    Calls Try.prog 61 #[.pointer (some ⟨db, 0, none⟩), .func (.func 74) #[] #[]] w fun e w' => e = .returned (.tuple #[]) ∧ ∃ nb', PDisk w' db lb nb' (.slice none 0 0) (d.settled c) ∧ (∀ F : Nat → Prop, F db → F lb → Chg F w w') ∧ w.heap.size ≤ nb' ∧ nb' < w'.heap.size := by
  obtain ⟨pp, pc, rfl, hpc⟩ := own_form h.pd
  obtain ⟨c0, c1, c2, c3, c4, c5, fz⟩ := h.cells
  have HP := hid h
  have HC := hid hclo
  have hmm := @run_makeMap Try.prog
  have z := zeroWrite'
  have HZ : Hid (zero512.length = 512) := zero512_len
  have HCB := hid hcb
  have HM := hid hm
  clear h hclo hcb hm
  go_enter Try.func61, Try.ntmps61
  go_wp2
  go_loopw [11] (fun i wr => ∃ k : Nat, i = .int .i64 (k : Int) ∧ k ≤ d.pend.length ∧ PDisk wr db lb nb (.slice pp d.pend.length pc) (d.upto c k) ∧ Chg (· = lb) w wr) (fun i _ => d.pend.length - (RowKit.intOf i).toNat)
  case atStart => exact ⟨0, rfl, Nat.zero_le _, by rw [Dk.upto_zero]; exact HP.out, Chg.refl _ _⟩
  case round =>
    obtain ⟨k, rfl, hk, hR, hC⟩ := hrel
    have HR := hid hR
    have HCH := hid hC
    by_cases hx : k < d.pend.length
    · have hx' : k < (d.upto c k).pend.length := hx
      obtain ⟨g, cap, hpv, h1, h2, h3, h4, h5⟩ := hR.wroteAt hx'
      simp only [Value.slice.injEq] at hpv
      obtain ⟨rfl, hq0, rfl⟩ := hpv
      clear hq0 h1
      have hN : Hid ((d.upto c k).lasts d.pend[k].1 (d.pend[k].2.take (c k)) = d.upto c (k + 1)) := Dk.upto_next hx
      have hlen : d.pend[k].2.length = 512 := HP.out.ok.pend _ (List.getElem_mem hx)
      have hck := HCB.out k
      have HW : Hid (wr.rangeAt g (k * 513) (wc d.pend[k].1 d.pend[k].2)) := h5
      have HI : Hid ((Try.prog.info? 110).map (·.size) = some (wc d.pend[k].1 d.pend[k].2).length) := wc_info hlen
      have HE := hid hlen
      have HCk := hid (HC.out k)
      clear hR hC h3 h4 h5 hlen h2 c0 c1 c2 c3 c4 c5 fz
      generalize d.pend[k].1 = pn at *
      generalize d.pend[k].2 = pb at *
      clear hx'
      generalize c k = ck at *
      have HRd : Hid (PDisk (wr.alloc (.cells (wc pn pb).toArray 110)).drew db lb nb (.slice (some ⟨g, 0, none⟩) d.pend.length pc) (d.upto c k)) := (HR.out.alloc _).drew
      have HCd : Hid (Chg (· = lb) w (wr.alloc (.cells (wc pn pb).toArray 110)).drew) := (HCH.out.alloc _).drew
      have HK1 := hid (HCk.out _ HCd.out)
      have hvb : (wr.alloc (.cells (wc pn pb).toArray 110)).cell? ⟨wr.heap.size, 0, none⟩ = some (.int .i64 pn) := (Blk.new wr (wc pn pb) 110).cell 0
      have hby : Byts (wr.alloc (.cells (wc pn pb).toArray 110)).drew (some ⟨wr.heap.size, 1, none⟩) (pb.take ck) := by
        refine Or.inr ⟨_, _, rfl, fun i hi => ?_⟩
        have hi' : i < pb.length := by rw [List.length_take] at hi; omega
        have := (Blk.new wr (wc pn pb) 110).cell (1 + i)
        rw [List.getElem_take]
        refine (show (wr.alloc (.cells (wc pn pb).toArray 110)).cell? ⟨wr.heap.size, 1 + i, none⟩ = _ from this).trans ?_
        rw [Nat.add_comm 1 i]
        show (bcells pb)[i]? = _
        exact bcells_at hi'
      have HL := last_any db lb nb _ (d.upto c k) pn (some ⟨wr.heap.size, 1, none⟩) (pb.take ck) 512 _ HRd.out (by rw [List.length_take]; omega) hby
      rw [show (pb.take ck).length = ck by rw [List.length_take, HE.out]; omega, hN.out] at HL
      have HLL := hid HL
      have HCL : Hid (∀ w', (∀ F : Nat → Prop, F lb → Chg F (wr.alloc (.cells (wc pn pb).toArray 110)).drew w') → Chg (· = lb) w w') := fun w' C => HCd.out.trans (C (· = lb) rfl) (fun j hj e => e)
      have HV : Hid (∀ w', (∀ F : Nat → Prop, F lb → Chg F (wr.alloc (.cells (wc pn pb).toArray 110)).drew w') → w'.cell? ⟨wr.heap.size, 0, none⟩ = some (.int .i64 pn)) := fun w' C => (C (· = lb) rfl).cell hvb (fun e => by have := HR.out.lm.lt; have e' : wr.heap.size = lb := e; omega)
      have hck' : (ck : Int) ≤ 512 := by omega
      clear HL hby hck
      go_wp2_with (first
        | (refine wpList_load_mid rfl 110 _ rfl _ _ rfl (wc pn pb) _ ?hc Try.underlying110 rfl ?hi ?_; (case hi => exact HI.out); (case hc => exact HW.out); try go_frame)
        | (refine wl_new_write rfl _ _ rfl _ _ _ _ _ rfl ?hg rfl ?hi ?hj ?_; (case hg => rfl); (case hi => exact HE.out); (case hj => exact HZ.out); try go_frame)
        | fail)
      go_region_held_law (fun w' => w'.cell? ⟨wr.heap.size, 0, none⟩ = some (.int .i64 pn)) (first | exact hvb | exact HV5.out)
        ((first
          | (go_at_call 74; with_reducible refine HK1.out.mono ?_; rintro e w4 ⟨rfl, hw⟩; subst hw)
          | (go_at_call 66; with_reducible refine HLL.out.mono ?_; rintro e w5 ⟨rfl, P5, C5⟩; have HP5 := hid P5; have HC5 := hid (HCL.out w5 C5); have HV5 := hid (HV.out w5 C5); clear P5 C5)
          | fail))
      have hkb : (k : Int) < 4611686018427387904 := by have := HM.out; omega
      go_wp2
      go_roundw
      case rel => exact ⟨k + 1, by go_num, by omega, HP5.out, HC5.out⟩
      case measure => simp [RowKit.intOf]; omega
    · obtain rfl : k = d.pend.length := by omega
      have HS : Hid (PDisk (((wr.alloc (.map #[] 0)).setCell ⟨db, 2, none⟩ (.slice none 0 0)).setCell ⟨db, 3, none⟩ (.map (some wr.heap.size))) db lb wr.heap.size (.slice none 0 0) (d.settled c)) := by
        have q := pd_settled HR.out
        rw [Dk.upto_all c (Nat.le_refl _)] at q
        exact q
      have HSZ : Hid (w.heap.size ≤ wr.heap.size) := HCH.out.size
      obtain ⟨a0, a1, a2, a3, a4, a5, af⟩ := (HR.out.alloc (.map #[] 0)).cells
      clear hR hC c0 c1 c2 c3 c4 c5 fz hx hk
      go_wp2
      refine end0 Try.results61 rfl ?_
      refine ⟨rfl, wr.heap.size, HS.out, fun F f1 f2 => ?_, HSZ.out, ?_⟩
      · exact (((HCH.out.mono (fun j hj e => by rw [e]; exact f2)).alloc _).setCell (Or.inl f1) _).setCell (Or.inl f1) _
      · rw [set_size, set_size]; simp

set_option maxHeartbeats 1000000 in
theorem settle_mend (db lb nb : Nat) (pv : Value) (d : Dk) (tb cb kb : Nat) (c : Nat → Nat) (hcb : ∀ i, c i ≤ 512) (w : World) (h : PDisk w db lb nb pv d) (hm : d.pend.length < 1000000)
    (hclo : ∀ (i : Nat) (w' : World), Chg (· = lb) w w' → Calls Try.prog 62 #[.int .i64 (i : Int), .pointer (some ⟨tb, 0, none⟩), .pointer (some ⟨cb, 0, none⟩), .pointer (some ⟨kb, 0, none⟩)] w' fun e w'' => e = .returned (.int .i64 (c i : Int)) ∧ w'' = w') :
    Calls Try.prog 61 #[.pointer (some ⟨db, 0, none⟩), .func (.func 62) #[] #[.pointer (some ⟨tb, 0, none⟩), .pointer (some ⟨cb, 0, none⟩), .pointer (some ⟨kb, 0, none⟩)]] w fun e w' => e = .returned (.tuple #[]) ∧ ∃ nb', PDisk w' db lb nb' (.slice none 0 0) (d.settled c) ∧ (∀ F : Nat → Prop, F db → F lb → Chg F w w') ∧ w.heap.size ≤ nb' ∧ nb' < w'.heap.size := by
  obtain ⟨pp, pc, rfl, hpc⟩ := own_form h.pd
  obtain ⟨c0, c1, c2, c3, c4, c5, fz⟩ := h.cells
  have HP := hid h
  have HC := hid hclo
  have hmm := @run_makeMap Try.prog
  have z := zeroWrite'
  have HZ : Hid (zero512.length = 512) := zero512_len
  have HCB := hid hcb
  have HM := hid hm
  clear h hclo hcb hm
  go_enter Try.func61, Try.ntmps61
  go_wp2
  go_loopw [11] (fun i wr => ∃ k : Nat, i = .int .i64 (k : Int) ∧ k ≤ d.pend.length ∧ PDisk wr db lb nb (.slice pp d.pend.length pc) (d.upto c k) ∧ Chg (· = lb) w wr) (fun i _ => d.pend.length - (RowKit.intOf i).toNat)
  case atStart => exact ⟨0, rfl, Nat.zero_le _, by rw [Dk.upto_zero]; exact HP.out, Chg.refl _ _⟩
  case round =>
    obtain ⟨k, rfl, hk, hR, hC⟩ := hrel
    have HR := hid hR
    have HCH := hid hC
    by_cases hx : k < d.pend.length
    · have hx' : k < (d.upto c k).pend.length := hx
      obtain ⟨g, cap, hpv, h1, h2, h3, h4, h5⟩ := hR.wroteAt hx'
      simp only [Value.slice.injEq] at hpv
      obtain ⟨rfl, hq0, rfl⟩ := hpv
      clear hq0 h1
      have hN : Hid ((d.upto c k).lasts d.pend[k].1 (d.pend[k].2.take (c k)) = d.upto c (k + 1)) := Dk.upto_next hx
      have hlen : d.pend[k].2.length = 512 := HP.out.ok.pend _ (List.getElem_mem hx)
      have hck := HCB.out k
      have HW : Hid (wr.rangeAt g (k * 513) (wc d.pend[k].1 d.pend[k].2)) := h5
      have HI : Hid ((Try.prog.info? 110).map (·.size) = some (wc d.pend[k].1 d.pend[k].2).length) := wc_info hlen
      have HE := hid hlen
      have HCk := hid (HC.out k)
      clear hR hC h3 h4 h5 hlen h2 c0 c1 c2 c3 c4 c5 fz
      generalize d.pend[k].1 = pn at *
      generalize d.pend[k].2 = pb at *
      clear hx'
      generalize c k = ck at *
      have HRd : Hid (PDisk (wr.alloc (.cells (wc pn pb).toArray 110)).drew db lb nb (.slice (some ⟨g, 0, none⟩) d.pend.length pc) (d.upto c k)) := (HR.out.alloc _).drew
      have HCd : Hid (Chg (· = lb) w (wr.alloc (.cells (wc pn pb).toArray 110)).drew) := (HCH.out.alloc _).drew
      have HK1 := hid (HCk.out _ HCd.out)
      have hvb : (wr.alloc (.cells (wc pn pb).toArray 110)).cell? ⟨wr.heap.size, 0, none⟩ = some (.int .i64 pn) := (Blk.new wr (wc pn pb) 110).cell 0
      have hby : Byts (wr.alloc (.cells (wc pn pb).toArray 110)).drew (some ⟨wr.heap.size, 1, none⟩) (pb.take ck) := by
        refine Or.inr ⟨_, _, rfl, fun i hi => ?_⟩
        have hi' : i < pb.length := by rw [List.length_take] at hi; omega
        have := (Blk.new wr (wc pn pb) 110).cell (1 + i)
        rw [List.getElem_take]
        refine (show (wr.alloc (.cells (wc pn pb).toArray 110)).cell? ⟨wr.heap.size, 1 + i, none⟩ = _ from this).trans ?_
        rw [Nat.add_comm 1 i]
        show (bcells pb)[i]? = _
        exact bcells_at hi'
      have HL := last_any db lb nb _ (d.upto c k) pn (some ⟨wr.heap.size, 1, none⟩) (pb.take ck) 512 _ HRd.out (by rw [List.length_take]; omega) hby
      rw [show (pb.take ck).length = ck by rw [List.length_take, HE.out]; omega, hN.out] at HL
      have HLL := hid HL
      have HCL : Hid (∀ w', (∀ F : Nat → Prop, F lb → Chg F (wr.alloc (.cells (wc pn pb).toArray 110)).drew w') → Chg (· = lb) w w') := fun w' C => HCd.out.trans (C (· = lb) rfl) (fun j hj e => e)
      have HV : Hid (∀ w', (∀ F : Nat → Prop, F lb → Chg F (wr.alloc (.cells (wc pn pb).toArray 110)).drew w') → w'.cell? ⟨wr.heap.size, 0, none⟩ = some (.int .i64 pn)) := fun w' C => (C (· = lb) rfl).cell hvb (fun e => by have := HR.out.lm.lt; have e' : wr.heap.size = lb := e; omega)
      have hck' : (ck : Int) ≤ 512 := by omega
      clear HL hby hck
      go_wp2_with (first
        | (refine wpList_load_mid rfl 110 _ rfl _ _ rfl (wc pn pb) _ ?hc Try.underlying110 rfl ?hi ?_; (case hi => exact HI.out); (case hc => exact HW.out); try go_frame)
        | (refine wl_new_write rfl _ _ rfl _ _ _ _ _ rfl ?hg rfl ?hi ?hj ?_; (case hg => rfl); (case hi => exact HE.out); (case hj => exact HZ.out); try go_frame)
        | fail)
      go_region_held_law (fun w' => w'.cell? ⟨wr.heap.size, 0, none⟩ = some (.int .i64 pn)) (first | exact hvb | exact HV5.out)
        ((first
          | (go_at_call 62; with_reducible refine HK1.out.mono ?_; rintro e w4 ⟨rfl, hw⟩; subst hw)
          | (go_at_call 66; with_reducible refine HLL.out.mono ?_; rintro e w5 ⟨rfl, P5, C5⟩; have HP5 := hid P5; have HC5 := hid (HCL.out w5 C5); have HV5 := hid (HV.out w5 C5); clear P5 C5)
          | fail))
      have hkb : (k : Int) < 4611686018427387904 := by have := HM.out; omega
      go_wp2
      go_roundw
      case rel => exact ⟨k + 1, by go_num, by omega, HP5.out, HC5.out⟩
      case measure => simp [RowKit.intOf]; omega
    · obtain rfl : k = d.pend.length := by omega
      have HS : Hid (PDisk (((wr.alloc (.map #[] 0)).setCell ⟨db, 2, none⟩ (.slice none 0 0)).setCell ⟨db, 3, none⟩ (.map (some wr.heap.size))) db lb wr.heap.size (.slice none 0 0) (d.settled c)) := by
        have q := pd_settled HR.out
        rw [Dk.upto_all c (Nat.le_refl _)] at q
        exact q
      have HSZ : Hid (w.heap.size ≤ wr.heap.size) := HCH.out.size
      obtain ⟨a0, a1, a2, a3, a4, a5, af⟩ := (HR.out.alloc (.map #[] 0)).cells
      clear hR hC c0 c1 c2 c3 c4 c5 fz hx hk
      go_wp2
      refine end0 Try.results61 rfl ?_
      refine ⟨rfl, wr.heap.size, HS.out, fun F f1 f2 => ?_, HSZ.out, ?_⟩
      · exact (((HCH.out.mono (fun j hj e => by rw [e]; exact f2)).alloc _).setCell (Or.inl f1) _).setCell (Or.inl f1) _
      · rw [set_size, set_size]; simp
end Go.Proofs.Ytnecigbncggogaa
