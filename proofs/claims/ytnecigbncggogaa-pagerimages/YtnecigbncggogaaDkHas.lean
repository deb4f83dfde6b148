/- What (*Disk).has does: what a page has. No conditions. -/
import Derived.Test.YtnecigbncggogaaDkDisk
namespace Go.Proofs.Ytnecigbncggogaa
open Go.RowKit
set_option linter.unusedVariables false
set_option maxRecDepth 20000

theorem zeroInt (w : World) : (zeroValue 3).run Try.prog w = .ok (.int .i64 0) w := by kernel_rfl
theorem wcells_cons (x : Int × List UInt8) (l : List (Int × List UInt8)) : wcells (x :: l) = (.int .i64 x.1 :: bcells x.2) ++ wcells l := rfl
theorem wcells_len : ∀ l : List (Int × List UInt8), (∀ x ∈ l, x.2.length = 512) → (wcells l).length = l.length * 513
  | [], _ => rfl
  | x :: r, h => by
    rw [wcells_cons, List.length_append, wcells_len r (fun y hy => h y (List.mem_cons_of_mem _ hy)), List.length_cons, bcells_len, h x (List.mem_cons_self ..), List.length_cons]
    omega
theorem wcells_at : ∀ (l : List (Int × List UInt8)) (i : Nat) (h : i < l.length) (j : Nat), (∀ x ∈ l, x.2.length = 512) → j < 513 → (wcells l)[i * 513 + j]? = (Value.int .i64 l[i].1 :: bcells l[i].2)[j]?
  | x :: r, 0, h, j, hx, hj => by
    rw [wcells_cons, Nat.zero_mul, Nat.zero_add, List.getElem?_append_left (by rw [List.length_cons, bcells_len, hx x (List.mem_cons_self ..)]; omega)]
    rfl
  | x :: r, i + 1, h, j, hx, hj => by
    have e : (Value.int .i64 x.1 :: bcells x.2).length = 513 := by rw [List.length_cons, bcells_len, hx x (List.mem_cons_self ..)]
    rw [wcells_cons, List.getElem?_append_right (by rw [e]; omega), e, show (i + 1) * 513 + j - 513 = i * 513 + j by omega]
    exact wcells_at r i (by simpa using h) j (fun y hy => hx y (List.mem_cons_of_mem _ hy)) hj
/-- A pending write in memory. -/
theorem PDisk.wrote {w : World} {db lb nb : Nat} {pv : Value} {d : Dk} (h : PDisk w db lb nb pv d) (hp : d.pend ≠ []) :
    ∃ g cap, pv = .slice (some ⟨g, 0, none⟩) d.pend.length cap ∧ d.pend.length ≤ cap ∧ cap ≤ maxLen ∧ ∀ (i : Nat) (hi : i < d.pend.length) (j : Nat), j < 513 → w.cell? ⟨g, i * 513 + j, none⟩ = (Value.int .i64 d.pend[i].1 :: bcells d.pend[i].2)[j]? := by
  rcases h.pd.2 with ⟨_, h0⟩ | ⟨g, cap, cur, hv, _, hh, hle, hm, hs, ht⟩
  · exact absurd (List.length_eq_zero_iff.1 h0) hp
  · refine ⟨g, cap, hv, hle, hm, fun i hi j hj => ?_⟩
    rw [← wcells_at d.pend i hi j h.ok.pend hj, ← ht, cell_of_row w g _ cur _ _ hh, List.getElem?_take, if_pos (by have := Nat.mul_le_mul_right 513 (show i + 1 ≤ d.pend.length from hi); omega), Array.getElem?_toList]
theorem PDisk.wroteAt {w : World} {db lb nb : Nat} {pv : Value} {d : Dk} (h : PDisk w db lb nb pv d) {i : Nat} (hi : i < d.pend.length) :
    ∃ g cap, pv = .slice (some ⟨g, 0, none⟩) d.pend.length cap ∧ d.pend.length ≤ cap ∧ cap ≤ maxLen ∧ w.cell? ⟨g, i * 513, none⟩ = some (.int .i64 d.pend[i].1) ∧ w.rangeAt g (i * 513 + 1) (bcells d.pend[i].2) ∧ w.rangeAt g (i * 513) (Value.int .i64 d.pend[i].1 :: bcells d.pend[i].2) := by
  have hl : (bcells d.pend[i].2).length = 512 := by rw [bcells_len]; exact h.ok.pend _ (List.getElem_mem hi)
  obtain ⟨g, cap, hv, h1, h2, hc⟩ := h.wrote (by rintro e; rw [e] at hi; simp at hi)
  refine ⟨g, cap, hv, h1, h2, by have := hc i hi 0 (by omega); simpa using this, fun j v hj => ?_, fun j v hj => ?_⟩
  · have hj' : j < 512 := by rw [← hl]; exact (List.getElem?_eq_some_iff.1 hj).1
    rw [Nat.add_assoc, Nat.add_comm 1 j, hc i hi (j + 1) (by omega)]
    simpa using hj
  · have hj' : j < 513 := by have := (List.getElem?_eq_some_iff.1 hj).1; rw [List.length_cons, hl] at this; omega
    rw [hc i hi j hj']
    exact hj
theorem lastF_getD (L : Int → List UInt8) (n : Int) : (lastF L n).getD (.agg (pg zero512)) = .agg (pg (L n)) := by
  unfold lastF
  split
  · rename_i h; rw [h]; rfl
  · rfl
theorem MapIs.alloc {w : World} {b : Nat} {f : Int → Option Value} (h : MapIs w b f) (o : Obj) : MapIs (w.alloc o) b f := h.same (Below.heap_alloc _ _ _ h.lt)
set_option maxHeartbeats 1000000 in
theorem has_pend (db lb nb : Nat) (pv : Value) (d : Dk) (n : Int) (i : Nat) (w : World) (h : PDisk w db lb nb pv d) (hi : newest d.pend n = some i) :
    Calls Try.prog 55 #[.pointer (some ⟨db, 0, none⟩), .int .i64 n] w fun e w' => e = .returned (.agg (pg (d.has n))) ∧ w' = w.alloc (.cells (pg (d.has n)) 93) := by
  obtain ⟨hl, hb⟩ := newest_some n d.pend i hi
  obtain ⟨g, cap, rfl, h1, h2, h3, h4, h5⟩ := h.wroteAt hl
  have hb' : d.has n = d.pend[i].2 := hb _
  rw [hb']
  have hlen : d.pend[i].2.length = 512 := h.ok.pend _ (List.getElem_mem hl)
  obtain ⟨c0, c1, c2, c3, c4, c5, fz⟩ := (h.alloc (.cells (pg zero512) 93)).cells
  have HM : Hid (MapIs (w.alloc (.cells (pg zero512) 93)) nb (newF d.pend)) := h.nm.alloc _
  have HF : Hid ((newF d.pend n).getD (.int .i64 0) = .int .i64 (i : Int) ∧ (newF d.pend n).isSome = true) := by
    show _ ∧ _
    unfold newF
    rw [hi]
    exact ⟨rfl, rfl⟩
  have HR : Hid ((w.alloc (.cells (pg zero512) 93)).rangeAt g (i * 513 + 1) (bcells d.pend[i].2)) := World.rangeAt_alloc h4 _
  have z := zeroPage
  have HE : Hid (d.pend[i].2.length = 512) := hlen
  have HZ : Hid (zero512.length = 512) := zero512_len
  clear h hi h3 h5 h2 hlen
  generalize d.pend[i].2 = b at *
  clear hb hb' h4
  generalize d.pend.length = m at *
  go_enter Try.func55, Try.ntmps55
  go_wp2_with (first
    | (at_lookup; refine wl_lookup rfl _ _ 81 true rfl HM.out Try.underlying81 Try.underlying3 (zeroInt _) n rfl rfl (.tuple #[.int .i64 (i : Int), .bool true]) (by rw [HF.out.1, HF.out.2]; rfl) ?_)
    | (refine wl_load_page rfl _ rfl _ _ rfl b ?hc ?hi ?_; (case hi => exact HE.out); (case hc => exact HR.out))
    | (refine wl_new_page rfl _ _ rfl _ _ _ rfl ?hg rfl ?hi ?hj ?_; (case hg => rfl); (case hi => exact HE.out); (case hj => exact HZ.out))
    | (refine bodyPost_ret (results_cell_row Try.results55 _ _ _ 93 (pg b) (0, 0) _ rfl ?hg Try.underlying93 rfl ?hi) rfl ?_; (case hg => exact heap_alloc_new w _); (case hi => exact pg_info HE.out); exact ⟨rfl, rfl⟩)
    | fail)
set_option maxHeartbeats 1000000 in
theorem has_last (db lb nb : Nat) (pv : Value) (d : Dk) (n : Int) (w : World) (h : PDisk w db lb nb pv d) (hi : newest d.pend n = none) :
    Calls Try.prog 55 #[.pointer (some ⟨db, 0, none⟩), .int .i64 n] w fun e w' => e = .returned (.agg (pg (d.has n))) ∧ w' = w.alloc (.cells (pg (d.has n)) 93) := by
  have hb' : d.has n = d.last n := newest_none n d.pend hi _
  rw [hb']
  have HE : Hid ((d.last n).length = 512) := h.ok.last n
  have HZ : Hid (zero512.length = 512) := zero512_len
  obtain ⟨c0, c1, c2, c3, c4, c5, fz⟩ := (h.alloc (.cells (pg zero512) 93)).cells
  have HM : Hid (MapIs (w.alloc (.cells (pg zero512) 93)) nb (newF d.pend)) := h.nm.alloc _
  have HL : Hid (MapIs (w.alloc (.cells (pg zero512) 93)) lb (lastF d.last)) := h.lm.alloc _
  have HF : Hid ((newF d.pend n).getD (.int .i64 0) = .int .i64 0 ∧ (newF d.pend n).isSome = false) := by
    show _ ∧ _
    unfold newF
    rw [hi]
    exact ⟨rfl, rfl⟩
  have HG : Hid ((lastF d.last n).getD (.agg (pg zero512)) = .agg (pg (d.last n))) := lastF_getD _ _
  have z := zeroPage
  clear h hi
  go_enter Try.func55, Try.ntmps55
  go_wp2_with (first
    | (at_lookup; refine wl_lookup rfl _ _ 81 true rfl HM.out Try.underlying81 Try.underlying3 (zeroInt _) n rfl rfl (.tuple #[.int .i64 0, .bool false]) (by rw [HF.out.1, HF.out.2]; rfl) ?_)
    | (at_lookup; refine wl_lookup rfl _ _ 80 false rfl HL.out Try.underlying80 Try.underlying3 (zeroPage _) n rfl rfl (.agg (pg (d.last n))) (by rw [if_neg (by decide)]; exact HG.out) ?_)
    | (refine wl_new_page rfl _ _ rfl _ _ _ rfl ?hg rfl ?hi ?hj ?_; (case hg => rfl); (case hi => exact HE.out); (case hj => exact HZ.out))
    | (refine bodyPost_ret (results_cell_row Try.results55 _ _ _ 93 (pg (d.last n)) (0, 0) _ rfl ?hg Try.underlying93 rfl ?hi) rfl ?_; (case hg => exact heap_alloc_new w _); (case hi => exact pg_info HE.out); exact ⟨rfl, rfl⟩)
    | fail)
theorem has_any (db lb nb : Nat) (pv : Value) (d : Dk) (n : Int) (w : World) (h : PDisk w db lb nb pv d) :
    Calls Try.prog 55 #[.pointer (some ⟨db, 0, none⟩), .int .i64 n] w fun e w' => e = .returned (.agg (pg (d.has n))) ∧ w' = w.alloc (.cells (pg (d.has n)) 93) := by
  cases hi : newest d.pend n with
  | none => exact has_last db lb nb pv d n w h hi
  | some i => exact has_pend db lb nb pv d n i w h hi
end Go.Proofs.Ytnecigbncggogaa
