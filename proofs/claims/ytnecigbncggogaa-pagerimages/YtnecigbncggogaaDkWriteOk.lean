/- What (*Disk).Write does where the write goes. No conditions. -/
import Derived.Test.YtnecigbncggogaaDkWrite
import Derived.Deep.RegionHeldLaw
namespace Go.Proofs.Ytnecigbncggogaa
open Go.RowKit
set_option linter.unusedVariables false
set_option maxRecDepth 20000

set_option maxHeartbeats 400000 in
theorem write_ok (db lb nb : Nat) (pv : Value) (d : Dk) (n : Int) (sp : Option Addr) (b : List UInt8) (cap : Nat) (w : World) (h : PDisk w db lb nb pv d) (hr : d.reach n = 0) (hb : b.length = 512) (hs : Byts w sp b) (hbk : ∀ g off, sp = some ⟨g, off, none⟩ → g ≠ db) (ha : d.arm ≠ 0) (hm : d.pend.length < 1000000) :
    Calls Try.prog 38 #[.pointer (some ⟨db, 0, none⟩), .int .i64 n, .slice sp 512 cap] w fun e w' => e = .returned (.int .i64 0) ∧
      ∃ pv', PDisk w' db lb nb pv' (d.stepped.push n b) ∧ (∀ F : Nat → Prop, F db → F nb → (∀ k, pv.ownBlock = some k → F k) → Chg F w w') ∧ (∀ k, pv'.ownBlock = some k → pv.ownBlock = some k ∨ (w.heap.size ≤ k ∧ k < w'.heap.size)) := by
  have hp5 : d.stepped.pend = d.pend := by unfold Dk.stepped; split <;> (try split) <;> rfl
  have hpd := h.pd
  rw [← hp5] at hpd
  obtain ⟨pp, pc, rfl, hpc⟩ := own_form hpd
  clear hpd
  have R := reach_any db lb nb _ d n w h
  have S := step_any db lb nb _ d w h
  have hrr := Dk.reach_ok hr
  rw [hr] at R
  rw [if_neg ha] at S
  have hs' : ∀ w', (∀ F : Nat → Prop, F db → Chg F w w') → Byts w' sp b := by
    intro w' C
    rcases hs with hs | ⟨g, off, hp, hc⟩
    · exact Or.inl hs
    · exact Or.inr ⟨g, off, hp, fun i hi => (C (· = db) rfl).cell (hc i hi) (hbk g off hp)⟩
  have HS := hid hs'
  have HPG : Hid (0 ≤ n ∧ n < (d.stepped.pages : Int)) := by show _ ∧ _; rw [Dk.stepped_pages]; exact hrr.2
  have HW : Hid (d.stepped.pend.length < 1000000) := by show _ < _; rw [hp5]; exact hm
  have HE := hid hb
  have HZ : Hid (zero512.length = 512) := zero512_len
  have z := zeroWrite'
  have hlt := h.blk.lt
  have HLT : Hid (∀ k, mine db lb nb (.slice pp d.stepped.pend.length pc) k → k < w.heap.size) := fun k hk => h.lt hk
  clear h hr ha hs hbk hs' hrr hp5 hm hb hpc
  generalize d.stepped = d' at *
  go_enter Try.func38, Try.ntmps38
  go_wp2_with (first
    | (go_at_call 70; with_reducible refine R.mono ?_; rintro e w3 ⟨rfl, hw⟩; subst hw)
    | (go_at_call 71; with_reducible refine S.mono ?_; rintro e w4 ⟨rfl, P4, C4, S4⟩; have HP4 := hid P4; have HC4 := hid C4; have HS4 := hid (HS.out w4 C4); have HZ4 := hid S4; clear P4 C4 S4)
    | (refine wl_build_write rfl _ rfl n rfl ?_; try go_frame)
    | (refine wl_new_write rfl _ _ rfl _ _ _ _ _ rfl ?hg rfl ?hi ?hj ?_; (case hg => rfl); (case hi => exact HZ.out); (case hj => exact HZ.out); try go_frame)
    | (refine wl_copy_write rfl _ _ rfl _ _ _ _ rfl rfl n b ?hb ?hl ?hs ?_; (case hb => exact Blk.new _ _ _); (case hl => exact HE.out); (case hs => exact HS4.out.alloc _); intro w5 B5 C5 S5; have HB5 := hid B5; have HC5 := hid C5; have HZ5 := hid S5; clear B5 C5 S5; have HP5 := hid ((HP4.out.alloc (.cells (wc n zero512).toArray 110)).chg (HC5.out (· = w4.heap.size) rfl) (fun k hk e => by have := HP4.out.lt hk; omega)); obtain ⟨c0, c1, c2, c3, c4, c5, fz⟩ := HP5.out.cells; try go_frame)
    | fail)
  obtain ⟨ob, hrun, M6⟩ := run_update HP5.out.drew.nm (t := 81) Try.underlying81 Try.underlying3 n (.int .i64 (d'.pend.length : Int))
  have HM6 := hid M6
  have hdn : db ≠ nb := by rintro rfl; exact HP5.out.blk.not_map HP5.out.nm
  have e6 : ∀ k, k ≠ nb → (World.putBlock w5.drew nb ob).heap[k]? = w5.heap[k]? := fun k hk => putBlock_other (w := w5.drew) hk
  have HKP : Hid ((World.putBlock w5.drew nb ob).cell? ⟨db, 3, none⟩ = some (.map (some nb)) ∧ (World.putBlock w5.drew nb ob).cell? ⟨db, 2, none⟩ = some (.slice pp d'.pend.length pc)) :=
    ⟨(World.cell?_of_block (w := w5) (a := ⟨db, 3, none⟩) (e6 db hdn)).trans c3, (World.cell?_of_block (w := w5) (a := ⟨db, 2, none⟩) (e6 db hdn)).trans c2⟩
  have HE6 := hid e6
  clear M6 e6 hdn
  go_region_held_law (fun w' => w'.cell? ⟨db, 3, none⟩ = some (.map (some nb)) ∧ w'.cell? ⟨db, 2, none⟩ = some (.slice pp d'.pend.length pc)) (first | exact HKP.out | exact ⟨c3, c2⟩) (fail)
  have HC6 : Hid (∀ F : Nat → Prop, F db → F nb → Chg F w3 (World.putBlock w5.drew nb ob)) := fun F h1 h2 =>
    (((HC4.out F h1).alloc (.cells (wc n zero512).toArray 110)).trans (HC5.out (· = w4.heap.size) rfl) (fun j hj e => by have := HZ4.out; omega)).drew.putBlock (Or.inl h2) _
  have HNW : Hid (w4.heap.size ≠ nb ∧ w4.heap.size ≠ db) := ⟨by have := HP4.out.lt (Or.inr (Or.inr (Or.inl rfl))); omega, by have := HP4.out.lt (Or.inl rfl); omega⟩
  have HB6 : Hid (Blk (World.putBlock w5.drew nb ob) w4.heap.size (wc n b) 110) := HB5.out.same (HE6.out _ HNW.out.1)
  have HD6 : Hid (Blk (World.putBlock w5.drew nb ob) db (dcells lb nb (.slice pp d'.pend.length pc) d') 84) := HP5.out.blk.same (HE6.out _ (by rintro rfl; exact HP5.out.blk.not_map HP5.out.nm))
  have HL6 : Hid (MapIs (World.putBlock w5.drew nb ob) lb (lastF d'.last)) := HP5.out.lm.same (HE6.out _ HP5.out.ne)
  have HN6 : Hid (MapIs (World.putBlock w5.drew nb ob) nb (newF (d'.pend ++ [(n, b)]))) := HM6.out.congr (newF_snoc _ n b)
  have HO6 : Hid ((World.putBlock w5.drew nb ob).ownsRow 0 110 513 (.slice pp d'.pend.length pc) d'.pend.length (wcells d'.pend)) := own_same HP5.out.pd (fun k hk => HE6.out k (by rintro rfl; exact own_not_map HP5.out.pd hk HP5.out.nm))
  have HX : Hid (lb ≠ nb ∧ (Value.slice pp d'.pend.length pc).ownBlock ≠ some db ∧ d'.ok) := ⟨HP5.out.ne, HP5.out.np, HP5.out.ok⟩
  have HSZ : Hid ((World.putBlock w5.drew nb ob).heap.size = w3.heap.size + 1) := by
    show _ = _
    rw [putBlock_size]
    show w5.heap.size = _
    rw [HZ5.out, ← HZ4.out]
    simp
  have HWN : Hid (w4.heap.size = w3.heap.size) := HZ4.out
  have HOW : Hid ((Value.slice pp d'.pend.length pc).ownBlock ≠ some w4.heap.size) := fun e => by have := (HP4.out.pd.lt _ e).2; omega
  clear HE6 HM6 hrun HKP HP5 HB5 HC5 HZ5 HP4 HC4 HS4 HZ4 c0 c1 c2 c3 c4 c5 fz R S
  generalize World.putBlock w5.drew nb ob = w6 at *
  obtain ⟨c0, c1, c2, c3, c4, c5⟩ : w6.cell? ⟨db, 0, none⟩ = some (.int .i64 (d'.pages : Int)) ∧ w6.cell? ⟨db, 1, none⟩ = some (.map (some lb)) ∧ w6.cell? ⟨db, 2, none⟩ = some (.slice pp d'.pend.length pc) ∧ w6.cell? ⟨db, 3, none⟩ = some (.map (some nb)) ∧ w6.cell? ⟨db, 4, none⟩ = some (.int .i64 d'.arm) ∧ w6.cell? ⟨db, 5, none⟩ = some (.bool d'.down) := ⟨HD6.out.cell 0, HD6.out.cell 1, HD6.out.cell 2, HD6.out.cell 3, HD6.out.cell 4, HD6.out.cell 5⟩
  have fz : w6.frozen? ⟨db, 2, none⟩ = false := HD6.out.frozen 2
  have HK6 : Hid (w6.rangeAt w4.heap.size 0 (wc n b)) := HB6.out.whole
  generalize w4.heap.size = wb at *
  go_wp2
  have hbs := fun w => run_slice1 (wc n b) (wc_len HE.out) w
  have hu := Try.underlying110
  have hi : (Try.prog.info? 110).map (·.size) = some (wc n b).length := wc_info HE.out
  have hld : ∀ w' : World, w'.rangeAt wb 0 (wc n b) → (Instr.loadAt 110 (.pointer (some ⟨wb, 0, none⟩))).run Try.prog w' = .ok (.agg (wc n b).toArray) w' := fun w' hr => run_loadAt_mid w' wb 0 110 (wc n b) _ hr Try.underlying110 rfl hi
  obtain ⟨i0, hj, hz0, hz1, hz2⟩ := info_parts infoWrite
  have hl6 := HD6.out.lt
  have c2' : (w6.drew.alloc (.cells (wc n b).toArray 110)).cell? ⟨db, 2, none⟩ = some (.slice pp d'.pend.length pc) := (World.cell?_of_block (w := w6) (a := ⟨db, 2, none⟩) (Below.heap_alloc w6.drew _ _ hl6)).trans c2
  have HA1 : Hid ((Value.agg (#[.int .i64 0] ++ pg zero512)).cells.size = 513) := by show (#[Value.int .i64 0] ++ pg zero512).size = 513; rw [Array.size_append, pg_size, zero512_len]; rfl
  have HA4 : Hid (∀ j u, (wc n b)[j]? = some u → (w6.drew.alloc (.cells (wc n b).toArray 110)).cell? ((⟨w6.heap.size, 0, none⟩ : Addr).add j) = some u) := fun j u hu => by
    rw [Addr.add_mid]
    exact (Blk.new w6.drew (wc n b) 110).whole j u hu
  have HA5 : Hid (d'.pend.length + 1 ≤ maxLen) := by have := HW.out; show _ ≤ _; unfold maxLen; omega
  have HA6 : Hid ((d'.pend.length + 1) * 520 ≤ 140737488355328) := by have := HW.out; show _ ≤ _; omega
  have HA7 : Hid ((w6.drew.alloc (.cells (wc n b).toArray 110)).heap.size = w6.heap.size + 1) := by show _ = _; simp
  have HWB : Hid (wb < (w6.drew.alloc (.cells (wc n b).toArray 110)).heap.size) := by have := HB6.out.lt; have := HA7.out; show _ < _; omega
  have HDB : Hid (db < (w6.drew.alloc (.cells (wc n b).toArray 110)).heap.size) := by have := HA7.out; show _ < _; omega
  refine wp_region_held_drew (S := fun w' => w'.rangeAt wb 0 (wc n b)) (by kernel_rfl) HK6.out (fun hHeld => ?_)
  refine wpAnyH_take (i := 5) (v := .agg (wc n b).toArray) rfl (by kernel_rfl) (by kernel_rfl) (by kernel_rfl) (fun _ _ _ h => h) (yieldsIf_load_mid (by rfl) _ _ rfl _ _ rfl (wc n b) _ (fun _ h => h) Try.underlying110 rfl hi) (by assumption) ?_
  try go_frame
  refine wpAnyH_take (i := 0) (v := .pointer (some ⟨db, 0, none⟩)) rfl (by kernel_rfl) (by kernel_rfl) (by kernel_rfl) (fun _ _ _ h => h) (Or.inl ⟨by rfl, fun w' hS' => by go_simp⟩) (by assumption) ?_
  try go_frame
  refine wpAnyH_take (i := 1) (v := .pointer (some ⟨db, 0, none⟩)) rfl (by kernel_rfl) (by kernel_rfl) (by kernel_rfl) (fun _ _ _ h => h) (Or.inl ⟨by rfl, fun w' hS' => by go_simp⟩) (by assumption) ?_
  try go_frame
  refine wpAnyH_take (i := 2) (v := .pointer (some ⟨db, 0, none⟩)) rfl (by kernel_rfl) (by kernel_rfl) (by kernel_rfl) (fun _ _ _ h => h) (Or.inl ⟨by rfl, fun w' hS' => by go_simp⟩) (by assumption) ?_
  try go_frame
  refine wpAnyH_take (i := 3) (v := .pointer (some ⟨db, 2, none⟩)) rfl (by kernel_rfl) (by kernel_rfl) (by kernel_rfl) (fun _ _ _ h => h) (Or.inl ⟨by rfl, fun w' hS' => by go_simp⟩) (by assumption) ?_
  try go_frame
  refine wpAnyH_ready (rs := [4, 6]) (by kernel_rfl) (by simp) ?_
  refine AllReadyH.cons rfl (fun K hK => ?_) (AllReadyH.cons rfl (fun K hK => ?_) AllReadyH.nil)
  · go_simp
    refine hK.out _ _ HK6.out (fun hH => ?_)
    try go_frame
    refine wpAnyH_ready (rs := [6]) (by kernel_rfl) (by simp) ?_
    refine AllReadyH.cons rfl (fun K hK => ?_) AllReadyH.nil
    refine step_slice1 rfl _ rfl (wc n b) rfl (wc_len HE.out) ?_
    refine hK.out _ _ (World.rangeAt_alloc (w := w6.drew) HK6.out _) (fun hH => ?_)
    try go_frame
    refine wpAnyH_ready (rs := [7]) (by kernel_rfl) (by simp) ?_
    refine AllReadyH.cons rfl (fun K hK => ?_) AllReadyH.nil
    refine step_append_lies _ rfl _ _ 82 rfl 0 110 i0 _ 513 520 Try.underlying82 hj hz0 hz1 hz2 HA1.out (by decide) (.slice pp d'.pend.length pc) d'.pend.length (wcells d'.pend) rfl (World.ownsRow.alloc (w := w6.drew) HO6.out _) ⟨w6.heap.size, 0, none⟩ 1 1 (wc n b) rfl (wc_len HE.out) HA4.out (wc_one n b) (by decide) HA5.out HA6.out (Nat.zero_le _) (w6.heap.size + 1) HA7.out ?_
    intro g7 cap7 w7 O7 G7 A7 L7
    have HK7 : Hid (w7.rangeAt wb 0 (wc n b)) := range_block (World.rangeAt_alloc (w := w6.drew) HK6.out _) (G7.block wb HWB.out (fun e => HOW.out e.symm))
    have hg7 := (G7.block db HDB.out (fun e => HX.out.2.1 e.symm)).trans (Below.heap_alloc w6.drew _ _ hl6)
    have c7 : w7.cell? ⟨db, 2, none⟩ = some (.slice pp d'.pend.length pc) := (World.cell?_of_block (w := w6) (a := ⟨db, 2, none⟩) hg7).trans c2
    have f7 : w7.frozen? ⟨db, 2, none⟩ = false := (World.frozen?_of_block (w := w6) (a := ⟨db, 2, none⟩) hg7).trans fz
    have HO7 := hid O7
    have HG7 := hid G7
    have HA7' := hid A7
    have HL7 := hid L7
    clear O7 G7 A7 L7 hg7
    refine hK.out _ _ HK7.out (fun hH => ?_)
    try go_frame
    refine wpAnyH_take (i := 8) (v := .pointer (some ⟨db, 0, none⟩)) rfl (by kernel_rfl) (by kernel_rfl) (by kernel_rfl) (fun _ _ _ h => h) (Or.inl ⟨by rfl, fun w' hS' => by go_simp⟩) (by assumption) ?_
    try go_frame
    refine wpAnyH_take (i := 9) (v := .pointer (some ⟨db, 2, none⟩)) rfl (by kernel_rfl) (by kernel_rfl) (by kernel_rfl) (fun _ _ _ h => h) (Or.inl ⟨by rfl, fun w' hS' => by go_simp⟩) (by assumption) ?_
    try go_frame
    refine wpAnyH_ready (rs := [10]) (by kernel_rfl) (by simp) ?_
    refine AllReadyH.cons rfl (fun K hK => ?_) AllReadyH.nil
    go_simp
    refine hK.out _ _ (range_set HK7.out HNW.out.2) (fun hH => ?_)
    refine wpAnyH_done (by kernel_rfl) ?_ _
    go_wp2
    go_ret
    have hpd := pd_push HD6.out HL6.out HN6.out HO6.out HX.out.1 HX.out.2.1 HX.out.2.2 HE.out HPG.out.1 HPG.out.2 HO7.out HG7.out HA7'.out HL7.out
    refine ⟨rfl, _, hpd, fun F f1 f2 f3 => ?_, fun k hk => ?_⟩
    · exact ((((HC6.out F f1 f2).drew.alloc _).grown HG7.out (fun k hk => Or.inl (f3 k hk))).setCell (Or.inl f1) _)
    · simp only [Value.ownBlock, Option.some.injEq] at hk
      subst hk
      rcases HA7'.out with h | h
      · exact Or.inl h
      · right; rw [set_size]; have := HL7.out; have := HSZ.out; omega
  · refine step_slice1 rfl _ rfl (wc n b) rfl (wc_len HE.out) ?_
    refine hK.out _ _ (World.rangeAt_alloc (w := w6.drew) HK6.out _) (fun hH => ?_)
    try go_frame
    refine wpAnyH_ready (rs := [4]) (by kernel_rfl) (by simp) ?_
    refine AllReadyH.cons rfl (fun K hK => ?_) AllReadyH.nil
    go_simp
    refine hK.out _ _ (World.rangeAt_alloc (w := w6.drew) HK6.out _) (fun hH => ?_)
    try go_frame
    refine wpAnyH_ready (rs := [7]) (by kernel_rfl) (by simp) ?_
    refine AllReadyH.cons rfl (fun K hK => ?_) AllReadyH.nil
    refine step_append_lies _ rfl _ _ 82 rfl 0 110 i0 _ 513 520 Try.underlying82 hj hz0 hz1 hz2 HA1.out (by decide) (.slice pp d'.pend.length pc) d'.pend.length (wcells d'.pend) rfl (World.ownsRow.alloc (w := w6.drew) HO6.out _) ⟨w6.heap.size, 0, none⟩ 1 1 (wc n b) rfl (wc_len HE.out) HA4.out (wc_one n b) (by decide) HA5.out HA6.out (Nat.zero_le _) (w6.heap.size + 1) HA7.out ?_
    intro g7 cap7 w7 O7 G7 A7 L7
    have HK7 : Hid (w7.rangeAt wb 0 (wc n b)) := range_block (World.rangeAt_alloc (w := w6.drew) HK6.out _) (G7.block wb HWB.out (fun e => HOW.out e.symm))
    have hg7 := (G7.block db HDB.out (fun e => HX.out.2.1 e.symm)).trans (Below.heap_alloc w6.drew _ _ hl6)
    have c7 : w7.cell? ⟨db, 2, none⟩ = some (.slice pp d'.pend.length pc) := (World.cell?_of_block (w := w6) (a := ⟨db, 2, none⟩) hg7).trans c2
    have f7 : w7.frozen? ⟨db, 2, none⟩ = false := (World.frozen?_of_block (w := w6) (a := ⟨db, 2, none⟩) hg7).trans fz
    have HO7 := hid O7
    have HG7 := hid G7
    have HA7' := hid A7
    have HL7 := hid L7
    clear O7 G7 A7 L7 hg7
    refine hK.out _ _ HK7.out (fun hH => ?_)
    try go_frame
    refine wpAnyH_take (i := 8) (v := .pointer (some ⟨db, 0, none⟩)) rfl (by kernel_rfl) (by kernel_rfl) (by kernel_rfl) (fun _ _ _ h => h) (Or.inl ⟨by rfl, fun w' hS' => by go_simp⟩) (by assumption) ?_
    try go_frame
    refine wpAnyH_take (i := 9) (v := .pointer (some ⟨db, 2, none⟩)) rfl (by kernel_rfl) (by kernel_rfl) (by kernel_rfl) (fun _ _ _ h => h) (Or.inl ⟨by rfl, fun w' hS' => by go_simp⟩) (by assumption) ?_
    try go_frame
    refine wpAnyH_ready (rs := [10]) (by kernel_rfl) (by simp) ?_
    refine AllReadyH.cons rfl (fun K hK => ?_) AllReadyH.nil
    go_simp
    refine hK.out _ _ (range_set HK7.out HNW.out.2) (fun hH => ?_)
    refine wpAnyH_done (by kernel_rfl) ?_ _
    go_wp2
    go_ret
    have hpd := pd_push HD6.out HL6.out HN6.out HO6.out HX.out.1 HX.out.2.1 HX.out.2.2 HE.out HPG.out.1 HPG.out.2 HO7.out HG7.out HA7'.out HL7.out
    refine ⟨rfl, _, hpd, fun F f1 f2 f3 => ?_, fun k hk => ?_⟩
    · exact ((((HC6.out F f1 f2).drew.alloc _).grown HG7.out (fun k hk => Or.inl (f3 k hk))).setCell (Or.inl f1) _)
    · simp only [Value.ownBlock, Option.some.injEq] at hk
      subst hk
      rcases HA7'.out with h | h
      · exact Or.inl h
      · right; rw [set_size]; have := HL7.out; have := HSZ.out; omega
end Go.Proofs.Ytnecigbncggogaa
