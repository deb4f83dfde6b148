/- A set of pages in memory, the project's or the document's; what has, Free, Left, Take, Give do. No conditions. -/
import Derived.Test.YtehfbdhkicdfiaaFrPlain
import Derived.Lib.SliceRun
import Derived.Laws.MakeOwn
namespace Go.Proofs.Ytehfbdhkicdfiaa
open Go.RowKit
set_option linter.unusedVariables false
set_option maxRecDepth 20000

/-- A set at a block: its row lies at another block. -/
structure FSt (w : World) (sb g : Nat) (u : List Bool) : Prop where
  hd : ∃ cap, w.cell? ⟨sb, 0, none⟩ = some (.slice (some ⟨g, 0, none⟩) u.length cap)
  row : ∃ cur, w.heap[g]? = some (.cells cur 4 (0, 0)) ∧ cur.toList.take u.length = u.map Value.bool
  ne : g ≠ sb
  len : u.length ≤ 4096
theorem FSt.lt {w : World} {sb g : Nat} {u : List Bool} (h : FSt w sb g u) : g < w.heap.size := by
  obtain ⟨cur, hb, _⟩ := h.row
  exact (Array.getElem?_eq_some_iff.1 hb).1
theorem FSt.slt {w : World} {sb g : Nat} {u : List Bool} (h : FSt w sb g u) : sb < w.heap.size := by
  obtain ⟨cap, hc⟩ := h.hd
  exact cell_lt hc
theorem FSt.at {w : World} {sb g : Nat} {u : List Bool} (h : FSt w sb g u) {i : Nat} (hi : i < u.length) : w.cell? ⟨g, i, none⟩ = some (.bool u[i]) := by
  obtain ⟨cur, hb, ht⟩ := h.row
  rw [cell_of_row w g i cur _ _ hb]
  have : (u.map Value.bool)[i]? = some (.bool u[i]) := by simp [hi]
  rw [← ht, List.getElem?_take, if_pos hi, Array.getElem?_toList] at this
  exact this
theorem FSt.frozen {w : World} {sb g : Nat} {u : List Bool} (h : FSt w sb g u) (i : Nat) : w.frozen? ⟨g, i, none⟩ = false := by
  obtain ⟨cur, hb, _⟩ := h.row
  exact frozen_of_row w g i _ _ hb
theorem FSt.same {w w' : World} {sb g : Nat} {u : List Bool} (h : FSt w sb g u) (e1 : w'.heap[sb]? = w.heap[sb]?) (e2 : w'.heap[g]? = w.heap[g]?) : FSt w' sb g u := by
  obtain ⟨⟨cap, hc⟩, ⟨cur, hb, ht⟩, hn, hl⟩ := h
  exact ⟨⟨cap, (World.cell?_of_block (w := w) (a := ⟨sb, 0, none⟩) e1).trans hc⟩, ⟨cur, e2.trans hb, ht⟩, hn, hl⟩
theorem FSt.chg {F : Nat → Prop} {w w' : World} {sb g : Nat} {u : List Bool} (h : FSt w sb g u) (c : Chg F w w') (h1 : ¬ F sb) (h2 : ¬ F g) : FSt w' sb g u :=
  h.same (c.block sb h.slt h1) (c.block g h.lt h2)
theorem FSt.below {w w' : World} {sb g : Nat} {u : List Bool} (h : FSt w sb g u) (c : Below w.heap.size w w') : FSt w' sb g u :=
  h.same (c.block sb h.slt) (c.block g h.lt)
theorem take_set {α : Type} (l : List α) (n i : Nat) (v : α) : (l.set i v).take n = (l.take n).set i v := List.take_set
/-- One truth value turned. -/
theorem FSt.set {w : World} {sb g : Nat} {u : List Bool} (h : FSt w sb g u) (i : Nat) (b : Bool) : FSt (w.setCell ⟨g, i, none⟩ (.bool b)) sb g (u.set i b) := by
  obtain ⟨⟨cap, hc⟩, ⟨cur, hb, ht⟩, hn, hl⟩ := h
  refine ⟨⟨cap, ?_⟩, ⟨cur.setIfInBounds i (.bool b), ?_, ?_⟩, hn, by simpa using hl⟩
  · rw [List.length_set]
    exact (World.cell?_of_block (w := w) (a := ⟨sb, 0, none⟩) (Below.heap_setCell _ _ _ _ (Ne.symm hn))).trans hc
  · exact heap_setCell_same w g i cur _ (.bool b) hb
  · rw [List.length_set, Array.toList_setIfInBounds, take_set, ht, List.map_set]
theorem set_chg (w : World) (g i : Nat) (v : Value) : Chg (· = g) w (w.setCell ⟨g, i, none⟩ v) := (Chg.refl (· = g) w).setCell (p := ⟨g, i, none⟩) (Or.inl rfl) v
theorem set_sz (w : World) (a : Addr) (v : Value) : (w.setCell a v).heap.size = w.heap.size := by simp [World.setCell]

set_option maxHeartbeats 1000000 in
theorem has_any (sb g : Nat) (u : List Bool) (n : Int) (w : World) (h : FSt w sb g u) :
    Calls Try.prog 20 #[.pointer (some ⟨sb, 0, none⟩), .int .i64 n] w fun e w' => e = .returned (.bool (hs u n)) ∧ w' = w := by
  obtain ⟨cap, hc⟩ := h.hd
  clear h
  have HS : Hid (hs u n = (decide (2 ≤ n) && decide (n < (u.length : Int)))) := rfl
  generalize hs u n = q at *
  generalize u.length = L at *
  by_cases h1 : 2 ≤ n
  · by_cases h2 : n < (L : Int)
    · go_enter Try.func20, Try.ntmps20
      go_wp2
      go_ret
      exact ⟨by rw [HS.out, decide_eq_true (by omega), decide_eq_true (by omega)]; rfl, rfl⟩
    · go_enter Try.func20, Try.ntmps20
      go_wp2
      go_ret
      exact ⟨by rw [HS.out, decide_eq_true (by omega), decide_eq_false (by omega)]; rfl, rfl⟩
  · go_enter Try.func20, Try.ntmps20
    go_wp2
    go_ret
    exact ⟨by rw [HS.out, decide_eq_false (by omega)]; rfl, rfl⟩
set_option maxHeartbeats 1000000 in
theorem free_any (sb g : Nat) (u : List Bool) (n : Int) (w : World) (h : FSt w sb g u) :
    Calls Try.prog 17 #[.pointer (some ⟨sb, 0, none⟩), .int .i64 n] w fun e w' => e = .returned (.bool (fr u n)) ∧ w' = w := by
  obtain ⟨cap, hc⟩ := h.hd
  have P := hid (has_any sb g u n w h)
  by_cases h1 : hs u n = true
  · obtain ⟨k, rfl⟩ : ∃ k : Nat, n = (k : Int) := ⟨n.toNat, by have := hs_true.1 h1; omega⟩
    have hb := hs_true.1 h1
    have hk : k < u.length := by omega
    have hv := h.at hk
    have HF : Hid (fr u k = !u[k]) := fr_of (by omega) hk
    rw [h1] at P
    clear h h1 hb
    generalize fr u k = q at *
    generalize u[k] = b at *
    generalize u.length = L at *
    go_enter Try.func17, Try.ntmps17
    go_wp2_with (first
      | (go_at_call 20; with_reducible refine P.out.mono ?_; rintro e w3 ⟨rfl, hw⟩; subst hw)
      | fail)
    go_ret
    exact ⟨by rw [HF.out]; rfl, rfl⟩
  · have h1' : hs u n = false := by simpa using h1
    have HF := hid (fr_out h1')
    rw [h1'] at P
    clear h h1 h1'
    generalize fr u n = q at *
    go_enter Try.func17, Try.ntmps17
    go_wp2_with (first
      | (go_at_call 20; with_reducible refine P.out.mono ?_; rintro e w3 ⟨rfl, hw⟩; subst hw)
      | fail)
    go_ret
    exact ⟨by rw [HF.out]; rfl, rfl⟩
set_option maxHeartbeats 1000000 in
theorem give_any (sb g : Nat) (u : List Bool) (n : Int) (w : World) (h : FSt w sb g u) :
    Calls Try.prog 10 #[.pointer (some ⟨sb, 0, none⟩), .int .i64 n] w fun e w' => e = .returned (.bool (giveB u n)) ∧ FSt w' sb g (giveU u n) ∧ Chg (· = g) w w' ∧ w'.heap.size = w.heap.size := by
  obtain ⟨cap, hc⟩ := h.hd
  have P := hid (has_any sb g u n w h)
  have H := hid h
  by_cases h1 : hs u n = true
  · obtain ⟨k, rfl⟩ : ∃ k : Nat, n = (k : Int) := ⟨n.toNat, by have := hs_true.1 h1; omega⟩
    have hb := hs_true.1 h1
    have hk : k < u.length := by omega
    have hv := h.at hk
    have hf := h.frozen k
    have HG : Hid (giveB u k = u[k]) := by show _ = _; unfold giveB; rw [h1]; simp [hk]
    have HU : Hid (giveU u k = if u[k] then u.set k false else u) := by show _ = _; unfold giveU; rw [HG.out]; simp
    rw [h1] at P
    clear h h1 hb
    generalize giveB u k = q at *
    generalize giveU u k = v at *
    cases hb2 : u[k]
    · rw [hb2] at hv HG HU
      clear hb2
      go_enter Try.func10, Try.ntmps10
      go_wp2_with (first
        | (go_at_call 20; with_reducible refine P.out.mono ?_; rintro e w3 ⟨rfl, hw⟩; subst hw)
        | fail)
      go_ret
      exact ⟨by rw [HG.out]; rfl, by rw [HU.out]; exact H.out, Chg.refl _ _, rfl⟩
    · rw [hb2] at hv HG HU
      clear hb2
      go_enter Try.func10, Try.ntmps10
      go_wp2_with (first
        | (go_at_call 20; with_reducible refine P.out.mono ?_; rintro e w3 ⟨rfl, hw⟩; subst hw)
        | fail)
      go_ret
      exact ⟨by rw [HG.out]; rfl, by rw [HU.out]; exact H.out.set k false, set_chg _ _ _ _, set_sz _ _ _⟩
  · have h1' : hs u n = false := by simpa using h1
    have HG : Hid (giveB u n = false) := by show _ = _; unfold giveB; rw [h1']; rfl
    have HU : Hid (giveU u n = u) := by show _ = _; unfold giveU; rw [HG.out]; rfl
    rw [h1'] at P
    clear h h1 h1'
    generalize giveB u n = q at *
    generalize giveU u n = v at *
    go_enter Try.func10, Try.ntmps10
    go_wp2_with (first
      | (go_at_call 20; with_reducible refine P.out.mono ?_; rintro e w3 ⟨rfl, hw⟩; subst hw)
      | fail)
    go_ret
    exact ⟨by rw [HG.out]; rfl, by rw [HU.out]; exact H.out, Chg.refl _ _, rfl⟩
set_option maxHeartbeats 1000000 in
theorem left_any (sb g : Nat) (u : List Bool) (w : World) (h : FSt w sb g u) :
    Calls Try.prog 15 #[.pointer (some ⟨sb, 0, none⟩)] w fun e w' => e = .returned (.int .i64 (left u : Int)) ∧ w' = w := by
  obtain ⟨cap, hc⟩ := h.hd
  have H := hid h
  have hL := h.len
  have hLi : (u.length : Int) ≤ 4096 := by omega
  clear h
  go_enter Try.func15, Try.ntmps15
  go_wp2
  go_loopw [3, 10] (fun c i wr => ∃ k : Nat, i = .int .i64 (k : Int) ∧ k ≤ u.length ∧ c = .int .i64 (leftTo u k : Int) ∧ wr = w) (fun _ i _ => u.length - (RowKit.intOf i).toNat)
  case atStart => exact ⟨0, rfl, Nat.zero_le _, rfl, rfl⟩
  case round =>
    obtain ⟨k, rfl, hk, rfl, rfl⟩ := hrel
    by_cases hx : k < u.length
    · have P := hid (free_any sb g u k wr H.out)
      have HS := hid (leftTo_succ u k)
      have hle := leftTo_le u k
      have hle2 : (leftTo u k : Int) ≤ 4096 := by omega
      generalize leftTo u k = c at *
      cases hf : fr u (k : Int)
      · rw [hf] at P HS
        go_wp2_with (first
          | (go_at_call 17; with_reducible refine P.out.mono ?_; rintro e w3 ⟨rfl, hw⟩; subst hw)
          | fail)
        go_roundw
        case rel => exact ⟨k + 1, by go_num, by omega, by rw [HS.out]; rfl, trivial⟩
        case measure => simp [RowKit.intOf]; omega
      · rw [hf] at P HS
        go_wp2_with (first
          | (go_at_call 17; with_reducible refine P.out.mono ?_; rintro e w3 ⟨rfl, hw⟩; subst hw)
          | fail)
        go_roundw
        case rel => exact ⟨k + 1, by go_num, by omega, by rw [HS.out]; simp, trivial⟩
        case measure => simp [RowKit.intOf]; omega
    · obtain rfl : k = u.length := by omega
      go_wp2
      go_ret
      exact ⟨rfl, rfl⟩
set_option maxHeartbeats 1000000 in
theorem take_any (sb g : Nat) (u : List Bool) (w : World) (h : FSt w sb g u) :
    Calls Try.prog 8 #[.pointer (some ⟨sb, 0, none⟩)] w fun e w' => e = .returned (.tuple #[.int .i64 (takeN u), .bool (takeB u)]) ∧ FSt w' sb g (takeU u) ∧ Chg (· = g) w w' ∧ w'.heap.size = w.heap.size := by
  obtain ⟨cap, hc⟩ := h.hd
  have H := hid h
  have hL := h.len
  have hLi : (u.length : Int) ≤ 4096 := by omega
  clear h
  go_enter Try.func8, Try.ntmps8
  go_wp2
  go_loopw [10] (fun i wr => ∃ k : Nat, i = .int .i64 (k : Int) ∧ k ≤ u.length ∧ leastTo u k = none ∧ wr = w) (fun i _ => u.length - (RowKit.intOf i).toNat)
  case atStart => exact ⟨0, rfl, Nat.zero_le _, rfl, rfl⟩
  case round =>
    obtain ⟨k, rfl, hk, h0, rfl⟩ := hrel
    have H0 := hid h0
    clear h0
    by_cases hx : k < u.length
    · have P := hid (free_any sb g u k wr H.out)
      have hv := H.out.at hx
      have hfz := H.out.frozen k
      cases hf : fr u (k : Int)
      · rw [hf] at P
        have HN := hid (leastTo_next H0.out hf)
        clear hf
        go_wp2_with (first
          | (go_at_call 17; with_reducible refine P.out.mono ?_; rintro e w3 ⟨rfl, hw⟩; subst hw)
          | fail)
        go_roundw
        case rel => exact ⟨k + 1, by go_num, by omega, HN.out, trivial⟩
        case measure => simp [RowKit.intOf]; omega
      · rw [hf] at P
        have HN := hid (least_found hx H0.out hf)
        clear hf
        go_wp2_with (first
          | (go_at_call 17; with_reducible refine P.out.mono ?_; rintro e w3 ⟨rfl, hw⟩; subst hw)
          | fail)
        refine bodyPost_ret (by simp [results, Try.results8, go_sem]; try rfl) rfl ?_
        exact ⟨by simp only [takeN, takeB, HN.out]; rfl, by simp only [takeU, HN.out]; exact H.out.set k true, set_chg _ _ _ _, set_sz _ _ _⟩
    · obtain rfl : k = u.length := by omega
      go_wp2
      refine bodyPost_ret (by simp [results, Try.results8, go_sem]; try rfl) rfl ?_
      have HN : least u = none := H0.out
      exact ⟨by simp only [takeN, takeB, HN]; rfl, by simp only [takeU, HN]; exact H.out, Chg.refl _ _, rfl⟩
end Go.Proofs.Ytehfbdhkicdfiaa
