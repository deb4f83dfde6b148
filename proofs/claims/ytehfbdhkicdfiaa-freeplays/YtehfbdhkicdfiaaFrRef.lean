/- What the document's has, Free, Left, Take, Give of a set of pages do. No conditions. -/
import Derived.Test.YtehfbdhkicdfiaaFrMem
namespace Go.Proofs.Ytehfbdhkicdfiaa
open Go.RowKit
set_option linter.unusedVariables false
set_option maxRecDepth 20000

set_option maxHeartbeats 1000000 in
theorem rhas_any (sb g : Nat) (u : List Bool) (n : Int) (w : World) (h : FSt w sb g u) :
    Calls Try.prog 21 #[.pointer (some ⟨sb, 0, none⟩), .int .i64 n] w fun e w' => e = .returned (.bool (hs u n)) ∧ w' = w := by
  obtain ⟨cap, hc⟩ := h.hd
  clear h
  have HS : Hid (hs u n = (decide (2 ≤ n) && decide (n < (u.length : Int)))) := rfl
  generalize hs u n = q at *
  generalize u.length = L at *
  by_cases h1 : 2 ≤ n
  · by_cases h2 : n < (L : Int)
    · go_enter Try.func21, Try.ntmps21
      go_wp2
      go_ret
      exact ⟨by rw [HS.out, decide_eq_true (by omega), decide_eq_true (by omega)]; rfl, rfl⟩
    · go_enter Try.func21, Try.ntmps21
      go_wp2
      go_ret
      exact ⟨by rw [HS.out, decide_eq_true (by omega), decide_eq_false (by omega)]; rfl, rfl⟩
  · go_enter Try.func21, Try.ntmps21
    go_wp2
    go_ret
    exact ⟨by rw [HS.out, decide_eq_false (by omega)]; rfl, rfl⟩
set_option maxHeartbeats 1000000 in
theorem rfree_any (sb g : Nat) (u : List Bool) (n : Int) (w : World) (h : FSt w sb g u) :
    Calls Try.prog 18 #[.pointer (some ⟨sb, 0, none⟩), .int .i64 n] w fun e w' => e = .returned (.bool (fr u n)) ∧ w' = w := by
  obtain ⟨cap, hc⟩ := h.hd
  have P := hid (rhas_any sb g u n w h)
  by_cases h1 : hs u n = true
  · obtain ⟨k, rfl⟩ : ∃ k : Nat, n = (k : Int) := ⟨n.toNat, by have := hs_true.1 h1; omega⟩
    have hb := hs_true.1 h1
    have hk : k < u.length := by omega
    have hv := h.at hk
    have HF : Hid (fr u k = !u[k]) := fr_of (by omega) hk
    rw [h1] at P
    clear h h1 hb
    generalize fr u k = q at *
    generalize u[k] = b at *
    generalize u.length = L at *
    go_enter Try.func18, Try.ntmps18
    go_wp2_with (first
      | (go_at_call 21; with_reducible refine P.out.mono ?_; rintro e w3 ⟨rfl, hw⟩; subst hw)
      | fail)
    go_ret
    exact ⟨by rw [HF.out]; rfl, rfl⟩
  · have h1' : hs u n = false := by simpa using h1
    have HF := hid (fr_out h1')
    rw [h1'] at P
    clear h h1 h1'
    generalize fr u n = q at *
    go_enter Try.func18, Try.ntmps18
    go_wp2_with (first
      | (go_at_call 21; with_reducible refine P.out.mono ?_; rintro e w3 ⟨rfl, hw⟩; subst hw)
      | fail)
    go_ret
    exact ⟨by rw [HF.out]; rfl, rfl⟩
set_option maxHeartbeats 1000000 in
theorem rgive_any (sb g : Nat) (u : List Bool) (n : Int) (w : World) (h : FSt w sb g u) :
    Calls Try.prog 11 #[.pointer (some ⟨sb, 0, none⟩), .int .i64 n] w fun e w' => e = .returned (.bool (giveB u n)) ∧ FSt w' sb g (giveU u n) ∧ Chg (· = g) w w' ∧ w'.heap.size = w.heap.size := by
  obtain ⟨cap, hc⟩ := h.hd
  have P := hid (rhas_any sb g u n w h)
  have H := hid h
  by_cases h1 : hs u n = true
  · obtain ⟨k, rfl⟩ : ∃ k : Nat, n = (k : Int) := ⟨n.toNat, by have := hs_true.1 h1; omega⟩
    have hb := hs_true.1 h1
    have hk : k < u.length := by omega
    have hv := h.at hk
    have hf := h.frozen k
    have HG : Hid (giveB u k = u[k]) := by show _ = _; unfold giveB; rw [h1]; simp [hk]
    have HU : Hid (giveU u k = if u[k] then u.set k false else u) := by show _ = _; unfold giveU; rw [HG.out]; simp
    rw [h1] at P
    clear h h1 hb
    generalize giveB u k = q at *
    generalize giveU u k = v at *
    cases hb2 : u[k]
    · rw [hb2] at hv HG HU
      clear hb2
      go_enter Try.func11, Try.ntmps11
      go_wp2_with (first
        | (go_at_call 21; with_reducible refine P.out.mono ?_; rintro e w3 ⟨rfl, hw⟩; subst hw)
        | fail)
      go_ret
      exact ⟨by rw [HG.out]; rfl, by rw [HU.out]; exact H.out, Chg.refl _ _, rfl⟩
    · rw [hb2] at hv HG HU
      clear hb2
      go_enter Try.func11, Try.ntmps11
      go_wp2_with (first
        | (go_at_call 21; with_reducible refine P.out.mono ?_; rintro e w3 ⟨rfl, hw⟩; subst hw)
        | fail)
      go_ret
      exact ⟨by rw [HG.out]; rfl, by rw [HU.out]; exact H.out.set k false, set_chg _ _ _ _, set_sz _ _ _⟩
  · have h1' : hs u n = false := by simpa using h1
    have HG : Hid (giveB u n = false) := by show _ = _; unfold giveB; rw [h1']; rfl
    have HU : Hid (giveU u n = u) := by show _ = _; unfold giveU; rw [HG.out]; rfl
    rw [h1'] at P
    clear h h1 h1'
    generalize giveB u n = q at *
    generalize giveU u n = v at *
    go_enter Try.func11, Try.ntmps11
    go_wp2_with (first
      | (go_at_call 21; with_reducible refine P.out.mono ?_; rintro e w3 ⟨rfl, hw⟩; subst hw)
      | fail)
    go_ret
    exact ⟨by rw [HG.out]; rfl, by rw [HU.out]; exact H.out, Chg.refl _ _, rfl⟩
set_option maxHeartbeats 1000000 in
theorem rleft_any (sb g : Nat) (u : List Bool) (w : World) (h : FSt w sb g u) :
    Calls Try.prog 16 #[.pointer (some ⟨sb, 0, none⟩)] w fun e w' => e = .returned (.int .i64 (left u : Int)) ∧ w' = w := by
  obtain ⟨cap, hc⟩ := h.hd
  have H := hid h
  have hL := h.len
  have hLi : (u.length : Int) ≤ 4096 := by omega
  clear h
  go_enter Try.func16, Try.ntmps16
  go_wp2
  go_loopw [3, 4] (fun c i wr => ∃ k : Nat, i = .int .i64 (k : Int) ∧ k ≤ u.length ∧ c = .int .i64 (leftTo u k : Int) ∧ wr = w) (fun _ i _ => u.length - (RowKit.intOf i).toNat)
  case atStart => exact ⟨0, rfl, Nat.zero_le _, rfl, rfl⟩
  case round =>
    obtain ⟨k, rfl, hk, rfl, rfl⟩ := hrel
    by_cases hx : k < u.length
    · have P := hid (rfree_any sb g u k wr H.out)
      have HS := hid (leftTo_succ u k)
      have hle := leftTo_le u k
      have hle2 : (leftTo u k : Int) ≤ 4096 := by omega
      generalize leftTo u k = c at *
      cases hf : fr u (k : Int)
      · rw [hf] at P HS
        go_wp2_with (first
          | (go_at_call 18; with_reducible refine P.out.mono ?_; rintro e w3 ⟨rfl, hw⟩; subst hw)
          | fail)
        go_roundw
        case rel => exact ⟨k + 1, by go_num, by omega, by rw [HS.out]; rfl, trivial⟩
        case measure => simp [RowKit.intOf]; omega
      · rw [hf] at P HS
        go_wp2_with (first
          | (go_at_call 18; with_reducible refine P.out.mono ?_; rintro e w3 ⟨rfl, hw⟩; subst hw)
          | fail)
        go_roundw
        case rel => exact ⟨k + 1, by go_num, by omega, by rw [HS.out]; simp, trivial⟩
        case measure => simp [RowKit.intOf]; omega
    · obtain rfl : k = u.length := by omega
      go_wp2
      go_ret
      exact ⟨rfl, rfl⟩
set_option maxHeartbeats 1000000 in
theorem rtake_any (sb g : Nat) (u : List Bool) (w : World) (h : FSt w sb g u) :
    Calls Try.prog 9 #[.pointer (some ⟨sb, 0, none⟩)] w fun e w' => e = .returned (.tuple #[.int .i64 (takeN u), .bool (takeB u)]) ∧ FSt w' sb g (takeU u) ∧ Chg (· = g) w w' ∧ w'.heap.size = w.heap.size := by
  obtain ⟨cap, hc⟩ := h.hd
  have H := hid h
  have hL := h.len
  have hLi : (u.length : Int) ≤ 4096 := by omega
  clear h
  go_enter Try.func9, Try.ntmps9
  go_wp2
  go_loopw [4] (fun i wr => ∃ k : Nat, i = .int .i64 (k : Int) ∧ 2 ≤ k ∧ leastTo u k = none ∧ wr = w) (fun i _ => u.length - (RowKit.intOf i).toNat)
  case atStart => exact ⟨2, rfl, Nat.le_refl _, leastTo_next (leastTo_next (leastTo_zero u) (fr_low (by omega))) (fr_low (by omega)), rfl⟩
  case round =>
    obtain ⟨k, rfl, hk, h0, rfl⟩ := hrel
    have H0 := hid h0
    clear h0
    by_cases hx : k < u.length
    · have hv := H.out.at hx
      have hfz := H.out.frozen k
      have hfr := fr_of hk hx
      cases hf : u[k]
      · rw [hf] at hv hfr
        have HN := hid (least_found hx H0.out hfr)
        clear hf hfr
        go_wp2
        refine bodyPost_ret (by simp [results, Try.results9, go_sem]; try rfl) rfl ?_
        exact ⟨by simp only [takeN, takeB, HN.out]; rfl, by simp only [takeU, HN.out]; exact H.out.set k true, set_chg _ _ _ _, set_sz _ _ _⟩
      · rw [hf] at hv hfr
        have HN := hid (leastTo_next H0.out hfr)
        clear hf hfr
        go_wp2
        go_roundw
        case rel => exact ⟨k + 1, by go_num, by omega, HN.out, trivial⟩
        case measure => simp [RowKit.intOf]; omega
    · have HN : Hid (least u = none) := by
        show _ = _
        refine leastTo_none.2 fun n hn => ?_
        exact leastTo_none.1 H0.out n (by omega)
      go_wp2
      refine bodyPost_ret (by simp [results, Try.results9, go_sem]; try rfl) rfl ?_
      exact ⟨by simp only [takeN, takeB, HN.out]; rfl, by simp only [takeU, HN.out]; exact H.out, Chg.refl _ _, rfl⟩
end Go.Proofs.Ytehfbdhkicdfiaa
