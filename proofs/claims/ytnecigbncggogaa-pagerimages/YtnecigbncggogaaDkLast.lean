/- What (*Disk).last does: bytes last in the first bytes of a page. No conditions. -/
import Derived.Test.YtnecigbncggogaaDkHas
import Derived.Deep.RegionHeldLaw
namespace Go.Proofs.Ytnecigbncggogaa
open Go.RowKit
set_option linter.unusedVariables false
set_option maxRecDepth 20000

/-- A slice of bytes in memory. -/
def Byts (w : World) (p : Option Addr) (l : List UInt8) : Prop :=
  l = [] ∨ ∃ b off, p = some ⟨b, off, none⟩ ∧ ∀ i (h : i < l.length), w.cell? ⟨b, off + i, none⟩ = some (.int .u8 (l[i].toNat : Int))
theorem Byts.src {w : World} {p : Option Addr} {l : List UInt8} (h : Byts w p l) : 0 < (bcells l).length → ∃ ad, p = some ad ∧ ∀ j v, (bcells l)[j]? = some v → w.cell? (ad.add j) = some v := by
  intro hp
  rcases h with rfl | ⟨b, off, rfl, hc⟩
  · simp [bcells] at hp
  · refine ⟨_, rfl, fun j v hv => ?_⟩
    have hj : j < l.length := by have := (List.getElem?_eq_some_iff.1 hv).1; rwa [bcells_len] at this
    rw [Addr.add_mid, hc j hj, ← hv, bcells_at hj]
theorem Byts.same {w w' : World} {p : Option Addr} {l : List UInt8} (h : Byts w p l) (e : ∀ b off, p = some ⟨b, off, none⟩ → w'.heap[b]? = w.heap[b]?) : Byts w' p l := by
  rcases h with h | ⟨b, off, hp, hc⟩
  · exact Or.inl h
  · exact Or.inr ⟨b, off, hp, fun i hi => (World.cell?_of_block (w := w) (a := ⟨b, off + i, none⟩) (e b off hp)).trans (hc i hi)⟩
theorem Byts.below {w w' : World} {p : Option Addr} {l : List UInt8} (h : Byts w p l) (B : Below w.heap.size w w') : Byts w' p l := by
  rcases h with h | ⟨b, off, hp, hc⟩
  · exact Or.inl h
  · exact Or.inr ⟨b, off, hp, fun i hi => (World.cell?_of_block (w := w) (a := ⟨b, off + i, none⟩) (B.block b (cell_lt (hc i hi)))).trans (hc i hi)⟩
theorem Byts.alloc {w : World} {p : Option Addr} {l : List UInt8} (h : Byts w p l) (o : Obj) : Byts (w.alloc o) p l := h.below ((Below.refl _ _).alloc (Nat.le_refl _) o)
theorem lastF_put (L : Int → List UInt8) (n : Int) (b : List UInt8) (hb : b ≠ zero512) (k : Int) : (if k = n then some (.agg (pg b)) else lastF L k) = lastF (putP L n b) k := by
  unfold lastF putP
  by_cases h : k = n
  · rw [if_pos h, if_pos h, if_neg hb]
  · rw [if_neg h, if_neg h]
theorem lastF_del (L : Int → List UInt8) (n : Int) (k : Int) : (if k = n then none else lastF L k) = lastF (putP L n zero512) k := by
  unfold lastF putP
  by_cases h : k = n
  · rw [if_pos h, if_pos h, if_pos rfl]
  · rw [if_neg h, if_neg h]
def Dk.lasts (d : Dk) (n : Int) (b : List UInt8) : Dk := { d with last := putP d.last n (over b (d.last n)) }
theorem Dk.ok.lasts {d : Dk} (h : d.ok) (n : Int) {b : List UInt8} (hb : b.length ≤ 512) : (d.lasts n b).ok := by
  refine ⟨fun k => ?_, h.pend, h.page, h.arm1, h.arm2, h.pages⟩
  show (putP d.last n (over b (d.last n)) k).length = 512
  unfold putP
  split
  · rw [over_len (by rw [h.last]; exact hb)]; exact h.last n
  · exact h.last k
/-- The map of what lasts turned. -/
theorem PDisk.turned {w : World} {db lb nb : Nat} {pv : Value} {d d' : Dk} {o : Obj} (h : PDisk w db lb nb pv d) (m : MapIs (World.putBlock w lb o) lb (lastF d'.last)) (e1 : dcells lb nb pv d' = dcells lb nb pv d) (e2 : d'.pend = d.pend) (hok : d'.ok) : PDisk (World.putBlock w lb o) db lb nb pv d' := by
  have e : ∀ k, k ≠ lb → (World.putBlock w lb o).heap[k]? = w.heap[k]? := fun k hk => putBlock_other hk
  refine ⟨?_, m, ?_, ?_, h.ne, h.np, hok⟩
  · rw [e1]; exact h.blk.same (e db (by rintro rfl; exact h.blk.not_map h.lm))
  · rw [e2]; exact h.nm.same (e nb (fun e => h.ne e.symm))
  · rw [e2]; exact own_same h.pd (fun g hg => e g (by rintro rfl; exact own_not_map h.pd hg h.lm))

set_option maxHeartbeats 400000 in
theorem last_zero (db lb nb : Nat) (pv : Value) (d : Dk) (n : Int) (sp : Option Addr) (b : List UInt8) (cap : Nat) (w : World) (h : PDisk w db lb nb pv d) (hb : b.length ≤ 512) (hs : Byts w sp b) (hq : over b (d.last n) = zero512) :
    Calls Try.prog 66 #[.pointer (some ⟨db, 0, none⟩), .int .i64 n, .slice sp b.length cap] w fun e w' => e = .returned (.tuple #[]) ∧ PDisk w' db lb nb pv (d.lasts n b) ∧ (∀ F : Nat → Prop, F lb → Chg F w w') := by
  have hlen : (d.last n).length = 512 := h.ok.last n
  have HV : Hid ((over b (d.last n)).length = 512) := by show _ = _; rw [over_len (by omega), hlen]
  have HE : Hid ((d.last n).length = 512) := hlen
  have HZ : Hid (zero512.length = 512) := zero512_len
  have HP := hid h
  have HS := hid hs
  have HK := hid (h.ok.lasts n hb)
  have HN := hid hb
  obtain ⟨c0, c1, c2, c3, c4, c5, fz⟩ := h.cells
  have HL : Hid (MapIs w lb (lastF d.last)) := h.lm
  have HG : Hid ((lastF d.last n).getD (.agg (pg zero512)) = .agg (pg (d.last n))) := lastF_getD _ _
  have HQ : Hid ((over b (d.last n) == zero512) = true) := by show _ = _; simpa using hq
  have HQ' := hid hq
  have HD : Hid (d.lasts n b = { d with last := putP d.last n (over b (d.last n)) }) := rfl
  have z := zeroPage
  clear h hs hlen hq hb
  generalize d.lasts n b = d' at *
  generalize ho : over b (d.last n) = o at *
  have HOV := hid ho
  clear ho
  go_enter Try.func66, Try.ntmps66
  go_wp2_with (first
    | (at_lookup; refine wl_lookup rfl _ _ 80 false rfl HL.out Try.underlying80 Try.underlying3 (zeroPage _) n rfl rfl (.agg (pg (d.last n))) (by rw [if_neg (by decide)]; exact HG.out) ?_; try go_frame)
    | (refine wl_new_page rfl _ _ rfl _ _ _ rfl ?hg rfl ?hi ?hj ?_; (case hg => rfl); (case hi => exact HE.out); (case hj => exact HZ.out); try go_frame)
    | (refine wl_copy_page rfl _ _ rfl _ _ _ _ _ rfl rfl (d.last n) b ?hb ?hl ?hn ?h5 ?hs ?_; (case hb => exact Pg.new w _); (case hl => exact HE.out); (case hn => rfl); (case h5 => exact HN.out); (case hs => exact (HS.out.alloc _).src); intro w2 B2 C2 S2; have HB2 := hid (HOV.out ▸ B2); have HC2 := hid ((Chg.refl (· = lb) w).alloc (.cells (pg (d.last n)) 93)); have HC3 := hid C2; have HP2 := hid ((HP.out.alloc (.cells (pg (d.last n)) 93)).chg (C2 (· = w.heap.size) rfl) (fun k hk e => by have := HP.out.lt hk; omega)); obtain ⟨c0, c1, c2, c3, c4, c5, fz⟩ := HP2.out.cells; clear B2 C2; try go_frame)
    | (refine wl_load_page rfl _ rfl _ _ rfl o ?hc ?hi ?_; (case hi => exact HV.out); (case hc => exact HB2.out.range); try go_frame)
    | (refine wl_build_page rfl rfl ?_; try go_frame)
    | (refine wl_eq_page rfl _ _ _ rfl _ _ ?h1 ?h2 rfl rfl true ?h3 ?_; (case h1 => exact HV.out); (case h2 => exact HZ.out); (case h3 => exact HQ.out); try go_frame)
    | (at_delete; refine wl_delete rfl _ _ 80 _ rfl HP2.out.lm Try.underlying80 Try.underlying3 n rfl rfl ?_; intro ob M3; have HM3 := hid M3; clear M3; try go_frame)
    | fail)
  refine ret0 Try.results66 rfl ?_
  refine ⟨rfl, ?_, fun F hF => ?_⟩
  · rw [HD.out]
    refine HP2.out.turned ?_ rfl rfl (HD.out ▸ HK.out)
    refine HM3.out.congr (fun k => ?_)
    rw [HQ'.out]
    exact lastF_del _ _ _
  · exact (((Chg.refl F w).alloc _).trans (HC3.out (· = w.heap.size) rfl) (fun j hj e => by omega)).putBlock (Or.inl hF) _
set_option maxHeartbeats 400000 in
theorem last_some (db lb nb : Nat) (pv : Value) (d : Dk) (n : Int) (sp : Option Addr) (b : List UInt8) (cap : Nat) (w : World) (h : PDisk w db lb nb pv d) (hb : b.length ≤ 512) (hs : Byts w sp b) (hq : over b (d.last n) ≠ zero512) :
    Calls Try.prog 66 #[.pointer (some ⟨db, 0, none⟩), .int .i64 n, .slice sp b.length cap] w fun e w' => e = .returned (.tuple #[]) ∧ PDisk w' db lb nb pv (d.lasts n b) ∧ (∀ F : Nat → Prop, F lb → Chg F w w') := by
  have hlen : (d.last n).length = 512 := h.ok.last n
  have HV : Hid ((over b (d.last n)).length = 512) := by show _ = _; rw [over_len (by omega), hlen]
  have HE : Hid ((d.last n).length = 512) := hlen
  have HZ : Hid (zero512.length = 512) := zero512_len
  have HP := hid h
  have HS := hid hs
  have HK := hid (h.ok.lasts n hb)
  have HN := hid hb
  obtain ⟨c0, c1, c2, c3, c4, c5, fz⟩ := h.cells
  have HL : Hid (MapIs w lb (lastF d.last)) := h.lm
  have HG : Hid ((lastF d.last n).getD (.agg (pg zero512)) = .agg (pg (d.last n))) := lastF_getD _ _
  have HQ : Hid ((over b (d.last n) == zero512) = false) := by show _ = _; simpa using hq
  have HQ' := hid hq
  have HD : Hid (d.lasts n b = { d with last := putP d.last n (over b (d.last n)) }) := rfl
  have z := zeroPage
  clear h hs hlen hq hb
  generalize d.lasts n b = d' at *
  generalize ho : over b (d.last n) = o at *
  have HOV := hid ho
  clear ho
  go_enter Try.func66, Try.ntmps66
  go_wp2_with (first
    | (at_lookup; refine wl_lookup rfl _ _ 80 false rfl HL.out Try.underlying80 Try.underlying3 (zeroPage _) n rfl rfl (.agg (pg (d.last n))) (by rw [if_neg (by decide)]; exact HG.out) ?_; try go_frame)
    | (refine wl_new_page rfl _ _ rfl _ _ _ rfl ?hg rfl ?hi ?hj ?_; (case hg => rfl); (case hi => exact HE.out); (case hj => exact HZ.out); try go_frame)
    | (refine wl_copy_page rfl _ _ rfl _ _ _ _ _ rfl rfl (d.last n) b ?hb ?hl ?hn ?h5 ?hs ?_; (case hb => exact Pg.new w _); (case hl => exact HE.out); (case hn => rfl); (case h5 => exact HN.out); (case hs => exact (HS.out.alloc _).src); intro w2 B2 C2 S2; have HB2 := hid (HOV.out ▸ B2); have HC2 := hid ((Chg.refl (· = lb) w).alloc (.cells (pg (d.last n)) 93)); have HC3 := hid C2; have HP2 := hid ((HP.out.alloc (.cells (pg (d.last n)) 93)).chg (C2 (· = w.heap.size) rfl) (fun k hk e => by have := HP.out.lt hk; omega)); obtain ⟨c0, c1, c2, c3, c4, c5, fz⟩ := HP2.out.cells; clear B2 C2; try go_frame)
    | (refine wl_load_page rfl _ rfl _ _ rfl o ?hc ?hi ?_; (case hi => exact HV.out); (case hc => exact HB2.out.range); try go_frame)
    | (refine wl_build_page rfl rfl ?_; try go_frame)
    | (refine wl_eq_page rfl _ _ _ rfl _ _ ?h1 ?h2 rfl rfl false ?h3 ?_; (case h1 => exact HV.out); (case h2 => exact HZ.out); (case h3 => exact HQ.out); try go_frame)
    | fail)
  obtain ⟨ob, hrun, M3⟩ := run_update HP2.out.drew.lm (t := 80) Try.underlying80 Try.underlying3 n (.agg (bcells o).toArray)
  have hu := Try.underlying93
  have hi : (Try.prog.info? 93).map (·.size) = some (bcells o).length := bc_info HV.out
  have HM3 := hid M3
  have hrg : w2.rangeAt w.heap.size 0 (bcells o) := HB2.out.range
  clear M3
  have hne : w.heap.size ≠ lb := by have := HP.out.lt (Or.inr (Or.inl rfl)); omega
  have HKP : Hid ((World.putBlock w2.drew lb ob).cell? ⟨db, 1, none⟩ = some (.map (some lb)) ∧ (World.putBlock w2.drew lb ob).rangeAt w.heap.size 0 (bcells o)) := by
    refine ⟨?_, fun j v hv => ?_⟩
    · exact (World.cell?_of_block (w := w2.drew) (a := ⟨db, 1, none⟩) (putBlock_other (by rintro rfl; exact HP2.out.blk.not_map HP2.out.lm))).trans c1
    · exact (World.cell?_of_block (w := w2.drew) (a := ⟨w.heap.size, 0 + j, none⟩) (putBlock_other hne)).trans (hrg j v hv)
  clear hne
  go_region_held_law (fun w' => w'.cell? ⟨db, 1, none⟩ = some (.map (some lb)) ∧ w'.rangeAt w.heap.size 0 (bcells o)) (first | exact HKP.out | go_keep_ranges) (fail)
  go_wp2
  refine end0 Try.results66 rfl ?_
  refine ⟨rfl, ?_, fun F hF => ?_⟩
  · rw [HD.out]
    refine HP2.out.drew.turned ?_ rfl rfl (HD.out ▸ HK.out)
    refine HM3.out.congr (fun k => ?_)
    exact lastF_put _ _ _ HQ'.out _
  · exact (((Chg.refl F w).alloc _).trans (HC3.out (· = w.heap.size) rfl) (fun j hj e => by omega)).drew.putBlock (Or.inl hF) _
theorem last_any (db lb nb : Nat) (pv : Value) (d : Dk) (n : Int) (sp : Option Addr) (b : List UInt8) (cap : Nat) (w : World) (h : PDisk w db lb nb pv d) (hb : b.length ≤ 512) (hs : Byts w sp b) :
    Calls Try.prog 66 #[.pointer (some ⟨db, 0, none⟩), .int .i64 n, .slice sp b.length cap] w fun e w' => e = .returned (.tuple #[]) ∧ PDisk w' db lb nb pv (d.lasts n b) ∧ (∀ F : Nat → Prop, F lb → Chg F w w') := by
  by_cases hq : over b (d.last n) = zero512
  · exact last_zero db lb nb pv d n sp b cap w h hb hs hq
  · exact last_some db lb nb pv d n sp b cap w h hb hs hq
end Go.Proofs.Ytnecigbncggogaa
