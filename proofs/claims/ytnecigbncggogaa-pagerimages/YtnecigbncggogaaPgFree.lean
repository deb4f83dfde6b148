/- Plain mathematics of a pager over a disk with power: what each page has behind each step. No program is named here. No conditions. -/
import Derived.Test.YtnecigbncggogaaDkWorks
import Derived.Test.YtnecigbncggogaaPgHead
namespace Go.Proofs.Ytnecigbncggogaa
set_option linter.unusedVariables false

theorem settle_full (m : Int) : ∀ (l : List (Int × List UInt8)) (i : Nat) (L : Int → List UInt8), (∀ k, (L k).length = 512) → (∀ x ∈ l, x.2.length = 512) → settleIn (fun _ => 512) l i L m = hasIn m (L m) l
  | [], i, L, hL, hl => rfl
  | x :: r, i, L, hL, hl => by
    have hx := hl x (List.mem_cons_self ..)
    have e : over (x.2.take 512) (L x.1) = x.2 := by
      rw [List.take_of_length_le (by omega), over_all (by rw [hx, hL])]
    show settleIn (fun _ => 512) r (i + 1) (putP L x.1 (over (x.2.take 512) (L x.1))) m = _
    rw [e, settle_full m r (i + 1) _ (fun k => by unfold putP; split <;> first | exact hx | exact hL k) (fun y hy => hl y (List.mem_cons_of_mem _ hy))]
    show hasIn m (if m = x.1 then x.2 else L m) r = hasIn m (if x.1 = m then x.2 else L m) r
    by_cases hm : m = x.1
    · rw [if_pos hm, if_pos hm.symm]
    · rw [if_neg hm, if_neg (fun h => hm h.symm)]
theorem Dk.has_push (d : Dk) (n m : Int) (b : List UInt8) : (d.push n b).has m = putP d.has n b m := by
  show hasIn m (d.last m) (d.pend ++ [(n, b)]) = _
  rw [hasIn_append]
  show (if n = m then b else hasIn m (d.last m) d.pend) = (if m = n then b else _)
  by_cases h : m = n
  · rw [if_pos h, if_pos h.symm]
  · rw [if_neg h, if_neg (fun e => h e.symm)]
    rfl
theorem Dk.has_settled {d : Dk} (h : d.ok) (m : Int) : (d.settled (fun _ => 512)).has m = d.has m := settle_full m d.pend 0 d.last h.last h.pend
/-- A disk with power, of so many pages, with so many pending writes at most: what each page has. -/
structure Fr (d : Dk) (P : Nat) (H : Int → List UInt8) (c : Nat) : Prop where
  free : d.free
  ok : d.ok
  pages : d.pages = P
  has : ∀ m, d.has m = H m
  pend : d.pend.length ≤ c
theorem Fr.wr {d : Dk} {P c : Nat} {H : Int → List UInt8} (h : Fr d P H c) {n : Int} {b : List UInt8} (h0 : 0 ≤ n) (h1 : n < P) (hb : b.length = 512) : d.wrErr n b = 0 ∧ Fr (d.wr n b) P (putP H n b) (c + 1) := by
  obtain ⟨e1, e2⟩ := h.free.wr (b := b) h0 (by rw [h.pages]; exact h1) hb
  refine ⟨e1, ?_⟩
  have hok := h.ok.wr n b
  rw [e2] at hok ⊢
  refine ⟨h.free.push n b, hok, h.pages, fun m => ?_, ?_⟩
  · rw [Dk.has_push]
    unfold putP
    rw [h.has]
  · show (d.pend ++ [(n, b)]).length ≤ _
    have := h.pend
    simp; omega
theorem Fr.sy {d : Dk} {P c : Nat} {H : Int → List UInt8} (h : Fr d P H c) : d.syErr = 0 ∧ Fr d.sy P H 0 := by
  obtain ⟨e1, e2⟩ := h.free.sy
  refine ⟨e1, ?_⟩
  have hok := h.ok.sy
  rw [e2] at hok ⊢
  exact ⟨h.free.settled _, hok, h.pages, fun m => (Dk.has_settled h.ok m).trans (h.has m), Nat.zero_le _⟩
theorem Fr.more {d : Dk} {P c e : Nat} {H : Int → List UInt8} (h : Fr d P H c) (he : c ≤ e) : Fr d P H e := ⟨h.free, h.ok, h.pages, h.has, Nat.le_trans h.pend he⟩
theorem Fr.congr {d : Dk} {P c : Nat} {H G : Int → List UInt8} (h : Fr d P H c) (e : ∀ m, H m = G m) : Fr d P G c := ⟨h.free, h.ok, h.pages, fun m => (h.has m).trans (e m), h.pend⟩
theorem Fr.range {d : Dk} {P c : Nat} {H : Int → List UInt8} (h : Fr d P H c) (n : Int) : d.rangeErr n = decide (2 ≤ n ∧ n < (P : Int)) := by unfold Dk.rangeErr; rw [h.pages]
theorem Fr.pw {d : Dk} {P c : Nat} {H : Int → List UInt8} (h : Fr d P H c) {n : Int} {b : List UInt8} (h0 : 2 ≤ n) (h1 : n < P) (hb : b.length = 508) : d.pwErr n b = 0 ∧ Fr (d.pw n b) P (putP H n (sealed b)) (c + 1) := by
  have hr : d.rangeErr n = true := by rw [h.range]; simp; omega
  have e := h.wr (n := n) (b := sealed b) (by omega) h1 (by rw [sealed_len, hb])
  unfold Dk.pwErr Dk.pw
  simp only [hr, hb, Bool.true_eq_false, ne_eq, not_true_eq_false, if_false]
  exact e
theorem Fr.rd {d : Dk} {P c : Nat} {H : Int → List UInt8} (h : Fr d P H c) {n : Int} (h0 : 2 ≤ n) (h1 : n < P) : d.rdErr n = if right (H n) = false then 10 else 0 := by
  have hr : d.rangeErr n = true := by rw [h.range]; simp; omega
  unfold Dk.rdErr
  simp only [hr, h.free.down, h.has, Bool.true_eq_false, Bool.false_eq_true, if_false]
theorem Fr.cm {d : Dk} {P c : Nat} {H : Int → List UInt8} (h : Fr d P H c) (hP : 2 ≤ P) (g r : Nat) : d.cmErr g r = 0 ∧ Fr (d.cm g r) P (putP H ((g % 2 : Nat) : Int) (headPage g r)) 0 := by
  obtain ⟨e1, f1⟩ := h.sy
  obtain ⟨e2, f2⟩ := f1.wr (n := ((g % 2 : Nat) : Int)) (b := headPage g r) (by omega) (by omega) (headPage_len g r)
  obtain ⟨e3, f3⟩ := f2.sy
  unfold Dk.cmErr Dk.cm
  simp only [e1, e2, ne_eq, not_true_eq_false, if_false]
  exact ⟨e3, f3⟩
def H0 : Int → List UInt8 := putP (putP (fun _ => zero512) 0 (headPage 0 0)) 1 (headPage 1 0)
theorem Fr.fmt {P : Nat} (hP : 3 ≤ P) (h4 : P ≤ 4096) : (Dk.fresh P).fmtErr = 0 ∧ Fr (Dk.fresh P).fmt P H0 0 := by
  have h : Fr (Dk.fresh P) P (fun _ => zero512) 0 := ⟨Dk.fresh_free P, Dk.fresh_ok h4, rfl, fun _ => rfl, Nat.le_refl _⟩
  obtain ⟨e1, f1⟩ := h.wr (n := 0) (b := headPage 0 0) (by omega) (by omega) (headPage_len _ _)
  obtain ⟨e2, f2⟩ := f1.wr (n := 1) (b := headPage 1 0) (by omega) (by omega) (headPage_len _ _)
  obtain ⟨e3, f3⟩ := f2.sy
  have hn : ¬ (Dk.fresh P).pages < 3 := by show ¬ P < 3; omega
  unfold Dk.fmtErr Dk.fmt
  rw [if_neg hn, if_neg hn]
  simp only [e1, e2, ne_eq, not_true_eq_false, if_false]
  exact ⟨e3, f3⟩
theorem Fr.newest {d : Dk} {P c : Nat} {H : Int → List UInt8} (h : Fr d P H c) : d.newestHead = newer (readHead (H 0) 0 P) (readHead (H 1) 1 P) := by
  unfold Dk.newestHead
  rw [h.has, h.has, h.pages]
theorem Fr.openErr {d : Dk} {P c : Nat} {H : Int → List UInt8} (h : Fr d P H c) (hP : 3 ≤ P) {x : Nat × Nat} (hx : newer (readHead (H 0) 0 P) (readHead (H 1) 1 P) = some x) : d.openErr = 0 ∧ d.newestHead = some x := by
  have e := h.newest.trans hx
  unfold Dk.openErr
  rw [if_neg (by rw [h.pages]; omega), h.free.down, if_neg (by decide), e, if_neg (by simp)]
  exact ⟨rfl, rfl⟩
theorem rootOk_zero (P : Nat) : rootOk 0 P = true := by simp [rootOk]
/-- The two heads of a disk: the newest, and the one ahead of it. -/
def Heads (H : Int → List UInt8) (P g r : Nat) : Prop := H ((g % 2 : Nat) : Int) = headPage g r ∧ ∃ r', H (((g + 1) % 2 : Nat) : Int) = headPage (g - 1) r' ∧ rootOk r P = true ∧ rootOk r' P = true ∧ 1 ≤ g
theorem heads_newest {H : Int → List UInt8} {P g r : Nat} (h : Heads H P g r) (hP : P ≤ 4096) (hg : g ≤ 4611686018427387904) : newer (readHead (H 0) 0 P) (readHead (H 1) 1 P) = some (g, r) := by
  obtain ⟨h1, r', h2, k1, k2, hg1⟩ := h
  by_cases hp : g % 2 = 0
  · have hp' : (g + 1) % 2 = 1 := by omega
    rw [hp] at h1
    rw [hp'] at h2
    have e1 : readHead (H 0) 0 P = some (g, r) := by
      rw [show H 0 = headPage g r from h1]
      exact readHead_page hg hp k1 hP
    have e2 : readHead (H 1) 1 P = some (g - 1, r') := by
      rw [show H 1 = headPage (g - 1) r' from h2]
      exact readHead_page (by omega) (by omega) k2 hP
    rw [e1, e2]
    simp only [newer]
    rw [if_neg (by omega)]
  · have hp0 : g % 2 = 1 := by omega
    have hp' : (g + 1) % 2 = 0 := by omega
    rw [hp0] at h1
    rw [hp'] at h2
    have e1 : readHead (H 1) 1 P = some (g, r) := by
      rw [show H 1 = headPage g r from h1]
      exact readHead_page hg hp0 k1 hP
    have e2 : readHead (H 0) 0 P = some (g - 1, r') := by
      rw [show H 0 = headPage (g - 1) r' from h2]
      exact readHead_page (by omega) (by omega) k2 hP
    rw [e1, e2]
    simp only [newer]
    rw [if_pos (by omega)]
theorem heads_zero (P : Nat) : Heads H0 P 1 0 := ⟨rfl, 0, rfl, rootOk_zero P, rootOk_zero P, Nat.le_refl _⟩
theorem heads_next {H : Int → List UInt8} {P g r : Nat} (h : Heads H P g r) {n : Nat} (hn : rootOk n P = true) : Heads (putP H (((g + 1) % 2 : Nat) : Int) (headPage (g + 1) n)) P (g + 1) n := by
  obtain ⟨h1, r', h2, k1, k2, hg1⟩ := h
  refine ⟨?_, r, ?_, hn, k1, by omega⟩
  · unfold putP
    rw [if_pos rfl]
  · have e : (g + 1 + 1) % 2 = g % 2 := by omega
    unfold putP
    rw [e, if_neg (by omega), Nat.add_sub_cancel]
    exact h1
theorem heads_other {H : Int → List UInt8} {P g r : Nat} (h : Heads H P g r) {n : Int} (hn : 2 ≤ n) (b : List UInt8) : Heads (putP H n b) P g r := by
  obtain ⟨h1, r', h2, k⟩ := h
  refine ⟨?_, r', ?_, k⟩
  · unfold putP
    rw [if_neg (by omega)]
    exact h1
  · unfold putP
    rw [if_neg (by omega)]
    exact h2
set_option maxRecDepth 100000 in
theorem zero_not_right : right zero512 = false := by decide +kernel
theorem sealed_take {l : List UInt8} (h : l.length = 508) : (sealed l).take 508 = l := by rw [sealed, List.take_left' h]
/-- A page of which one byte was turned is not right. -/
theorem turned_not_right {l : List UInt8} (h : l.length = 508) (i : Nat) (hi : i < 512) (e : UInt8) (he : (sealed l)[i]? ≠ some e) : right ((sealed l).set i e) = false := by
  have hlen : (sealed l).length = 512 := by rw [sealed_len, h]
  unfold right
  rw [beq_eq_false_iff_ne]
  intro hh
  by_cases h1 : i < 508
  · have e1 : ((sealed l).set i e) = l.set i e ++ le 4 (crc l) := by
      unfold sealed
      rw [List.set_append_left _ _ (by omega)]
    rw [e1, List.take_left' (by rw [List.length_set]; exact h)] at hh
    unfold sealed at hh
    have h2 := List.append_cancel_left hh
    have h3 := le_inj (k := 4) (by have := crc_lt (l.set i e); have e4 : (256 : Nat) ^ 4 = 4294967296 := by decide
                                   omega) (by have := crc_lt l; have e4 : (256 : Nat) ^ 4 = 4294967296 := by decide
                                              omega) h2
    have h4 := crc_set l i (by omega) e h3
    refine he ?_
    unfold sealed
    rw [List.getElem?_append_left (by omega), List.getElem?_eq_getElem (by omega), h4]
  · have e1 : ((sealed l).set i e).take 508 = l := by
      rw [List.take_set, List.set_eq_of_length_le (by rw [List.length_take]; omega)]
      exact sealed_take h
    rw [e1] at hh
    refine he ?_
    have : ((sealed l).set i e)[i]? = some e := by rw [List.getElem?_set_self (by omega)]
    rw [← hh] at this
    exact this
end Go.Proofs.Ytnecigbncggogaa
