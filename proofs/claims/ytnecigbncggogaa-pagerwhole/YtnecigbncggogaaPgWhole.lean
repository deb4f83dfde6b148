/- Plain mathematics of a commit whose power fails: the old root or the new one, wherever a write is torn. No program is named here. No conditions. -/
import Derived.Test.YtnecigbncggogaaPgFree
namespace Go.Proofs.Ytnecigbncggogaa
set_option linter.unusedVariables false

/-! ### The bytes of a head of small numbers -/
theorem le8_small {g : Nat} (h : g < 256) : le 8 g = UInt8.ofNat g :: [0, 0, 0, 0, 0, 0, 0] := by
  have e : g / 256 = 0 := by omega
  simp [le, e, Nat.mod_eq_of_lt h]
theorem le4_small {g : Nat} (h : g < 256) : le 4 g = UInt8.ofNat g :: [0, 0, 0] := by
  have e : g / 256 = 0 := by omega
  simp [le, e, Nat.mod_eq_of_lt h]
def kB : List UInt8 := headLoad 0 0
theorem kB_len : kB.length = 508 := headLoad_len 0 0
set_option maxRecDepth 100000 in
theorem head_sets {g r : Nat} (hg : g < 256) (hr : r < 256) : headLoad g r = (((kB.set 4 (UInt8.ofNat g)).set 12 (UInt8.ofNat r)).set 496 (UInt8.ofNat g)).set 504 (UInt8.ofNat r) := by
  unfold kB headLoad hrec
  rw [le8_small hg, le4_small hr, le8_small (show 0 < 256 by decide), le4_small (show 0 < 256 by decide)]
  rfl
/-- The places at which heads differ. -/
def odd4 (i : Nat) : Prop := i = 4 ∨ i = 12 ∨ i = 496 ∨ i = 504
theorem hp_load (g r : Nat) {i : Nat} (hi : i < 508) : (headPage g r)[i]? = (headLoad g r)[i]? := by
  unfold headPage sealed
  rw [List.getElem?_append_left (by rw [headLoad_len]; exact hi)]
theorem hp_same {g r : Nat} (hg : g < 256) (hr : r < 256) {i : Nat} (hi : i < 508) (ho : ¬ odd4 i) : (headPage g r)[i]? = kB[i]? := by
  unfold odd4 at ho
  rw [hp_load g r hi, head_sets hg hr, List.getElem?_set_ne (by omega), List.getElem?_set_ne (by omega), List.getElem?_set_ne (by omega), List.getElem?_set_ne (by omega)]
theorem hp_4 {g r : Nat} (hg : g < 256) (hr : r < 256) : (headPage g r)[4]? = some (UInt8.ofNat g) := by
  rw [hp_load g r (by decide), head_sets hg hr, List.getElem?_set_ne (by decide), List.getElem?_set_ne (by decide), List.getElem?_set_ne (by decide), List.getElem?_set_self (by rw [kB_len]; decide)]
theorem hp_12 {g r : Nat} (hg : g < 256) (hr : r < 256) : (headPage g r)[12]? = some (UInt8.ofNat r) := by
  rw [hp_load g r (by decide), head_sets hg hr, List.getElem?_set_ne (by decide), List.getElem?_set_ne (by decide), List.getElem?_set_self (by rw [List.length_set, kB_len]; decide)]
theorem hp_496 {g r : Nat} (hg : g < 256) (hr : r < 256) : (headPage g r)[496]? = some (UInt8.ofNat g) := by
  rw [hp_load g r (by decide), head_sets hg hr, List.getElem?_set_ne (by decide), List.getElem?_set_self (by rw [List.length_set, List.length_set, kB_len]; decide)]
theorem ofNat_inj {a b : Nat} (ha : a < 256) (hb : b < 256) (h : UInt8.ofNat a = UInt8.ofNat b) : a = b := by
  have := congrArg UInt8.toNat h
  rw [UInt8.toNat_ofNat', UInt8.toNat_ofNat'] at this
  omega
/-- What lies in the page of the next head, whatever was torn there. -/
structure At (g : Nat) (X : List UInt8) : Prop where
  len : X.length = 512
  same : ∀ i, i < 508 → ¬ odd4 i → X[i]? = kB[i]?
  front : X[4]? = some (UInt8.ofNat (g - 1)) ∨ X[4]? = some (UInt8.ofNat (g + 1))
  back : X[496]? = some (UInt8.ofNat (g - 1)) ∨ X[496]? = some (UInt8.ofNat (g + 1))
  order : X[496]? = some (UInt8.ofNat (g + 1)) → X[4]? = some (UInt8.ofNat (g + 1))
/-- It is not the next head. -/
def NH (g : Nat) (X : List UInt8) : Prop := ∀ r, r < 256 → X ≠ headPage (g + 1) r
def torn (n : Nat) (N X : List UInt8) : List UInt8 := over (N.take n) X
theorem torn_at {n : Nat} {N X : List UInt8} (hN : N.length = 512) (hX : X.length = 512) (i : Nat) : (torn n N X)[i]? = if i < n then N[i]? else X[i]? := by
  unfold torn over
  by_cases h : i < n
  · rw [if_pos h]
    by_cases h2 : i < 512
    · rw [List.getElem?_append_left (by rw [List.length_take]; omega), List.getElem?_take_of_lt h]
    · rw [List.getElem?_append_right (by rw [List.length_take]; omega), List.getElem?_drop, List.getElem?_eq_none (by rw [List.length_take]; omega), List.getElem?_eq_none (by omega)]
  · rw [if_neg h, List.getElem?_append_right (by rw [List.length_take]; omega), List.getElem?_drop]
    congr 1
    rw [List.length_take]; omega
theorem torn_len {n : Nat} {N X : List UInt8} (hN : N.length = 512) (hX : X.length = 512) : (torn n N X).length = 512 := by
  unfold torn
  rw [over_len (by rw [List.length_take]; omega), hX]
theorem At.head {g r : Nat} (h1 : 1 ≤ g) (hg : g < 200) (hr : r < 256) : At g (headPage (g - 1) r) :=
  ⟨headPage_len _ _, fun i hi ho => hp_same (by omega) hr hi ho, Or.inl (hp_4 (by omega) hr), Or.inl (hp_496 (by omega) hr), fun h => by
    rw [hp_496 (by omega) hr, Option.some.injEq] at h
    have := ofNat_inj (by omega) (by omega) h
    omega⟩
theorem NH.head {g r : Nat} (h1 : 1 ≤ g) (hg : g < 200) (hr : r < 256) : NH g (headPage (g - 1) r) := by
  intro q hq e
  have h4 := hp_4 (g := g - 1) (r := r) (by omega) hr
  rw [e, hp_4 (by omega) hq, Option.some.injEq] at h4
  have := ofNat_inj (by omega) (by omega) h4
  omega
theorem At.torn {g n r : Nat} {X : List UInt8} (h : At g X) (hg : g < 200) (hr : r < 256) : At g (torn n (headPage (g + 1) r) X) := by
  have e := fun i => torn_at (n := n) (headPage_len (g + 1) r) h.len i
  refine ⟨torn_len (headPage_len _ _) h.len, fun i hi ho => ?_, ?_, ?_, ?_⟩
  · rw [e]
    split
    · exact hp_same (by omega) hr hi ho
    · exact h.same i hi ho
  · rw [e]
    split
    · exact Or.inr (hp_4 (by omega) hr)
    · exact h.front
  · rw [e]
    split
    · exact Or.inr (hp_496 (by omega) hr)
    · exact h.back
  · rw [e, e]
    intro q
    by_cases h1 : 4 < n
    · rw [if_pos h1]
      exact hp_4 (by omega) hr
    · rw [if_neg (by omega)] at q
      rw [if_neg h1]
      exact h.order q
/-- What is torn is the new head, or still none. -/
theorem torn_head {g n r q : Nat} {X : List UInt8} (h : At g X) (hn : NH g X) (hg : g < 200) (hr : r < 256) (hq : q < 256) (e : torn n (headPage (g + 1) r) X = headPage (g + 1) q) : q = r := by
  have t := fun i => torn_at (n := n) (headPage_len (g + 1) r) h.len i
  by_cases h1 : 12 < n
  · have t12 := t 12
    rw [if_pos h1, hp_12 (by omega) hr, e, hp_12 (by omega) hq, Option.some.injEq] at t12
    exact ofNat_inj hq hr t12
  · exfalso
    refine hn q hq ?_
    rw [← e]
    have t496 := t 496
    rw [if_neg (by omega), e, hp_496 (by omega) hq] at t496
    have x4 := h.order t496.symm
    refine List.ext_getElem? (fun i => ?_)
    rw [t]
    split
    · rename_i hi
      by_cases h4 : i = 4
      · subst h4
        rw [x4, hp_4 (by omega) hr]
      · have ho : ¬ odd4 i := by unfold odd4; omega
        rw [h.same i (by omega) ho, hp_same (by omega) hr (by omega) ho]
    · rfl
theorem kB_zero : ∀ i, 5 ≤ i ∧ i < 12 ∨ 13 ≤ i ∧ i < 16 → kB[i]? = some 0 := by
  intro i hi
  have : i = 5 ∨ i = 6 ∨ i = 7 ∨ i = 8 ∨ i = 9 ∨ i = 10 ∨ i = 11 ∨ i = 13 ∨ i = 14 ∨ i = 15 := by omega
  rcases this with rfl | rfl | rfl | rfl | rfl | rfl | rfl | rfl | rfl | rfl <;> rfl
theorem gen_of_at {g : Nat} {X : List UInt8} (h : At g X) : ∃ a : UInt8, X[4]? = some a ∧ genOf X = a.toNat := by
  obtain ⟨a, ha⟩ : ∃ a, X[4]? = some a := by rcases h.front with f | f <;> exact ⟨_, f⟩
  have z := fun i hi => (h.same i (by omega) (by unfold odd4; omega)).trans (kB_zero i (Or.inl hi))
  refine ⟨a, ha, ?_⟩
  have e : (X.drop 4).take 8 = [a, 0, 0, 0, 0, 0, 0, 0] := by
    refine List.ext_getElem? (fun i => ?_)
    by_cases hi : i < 8
    · rw [List.getElem?_take_of_lt hi, List.getElem?_drop]
      have : i = 0 ∨ i = 1 ∨ i = 2 ∨ i = 3 ∨ i = 4 ∨ i = 5 ∨ i = 6 ∨ i = 7 := by omega
      rcases this with rfl | rfl | rfl | rfl | rfl | rfl | rfl | rfl
      · exact ha
      · exact z 5 (by omega)
      · exact z 6 (by omega)
      · exact z 7 (by omega)
      · exact z 8 (by omega)
      · exact z 9 (by omega)
      · exact z 10 (by omega)
      · exact z 11 (by omega)
    · rw [List.getElem?_eq_none (by rw [List.length_take]; omega), List.getElem?_eq_none (by simp; omega)]
  unfold genOf
  rw [e]
  simp [unle]
/-- The page of the next head is no newer head. -/
theorem old_reads {g P : Nat} {X : List UInt8} (h : At g X) (hn : NH g X) (h1 : 1 ≤ g) (hg : g < 200) (hP : P ≤ 256) (slot : Nat) : ∀ x, readHead X slot P = some x → x.1 < g := by
  intro x hx
  obtain ⟨e1, e2, e3, _, _, hr⟩ := readHead_some (show readHead X slot P = some (x.1, x.2) from hx)
  obtain ⟨a, ha, hgen⟩ := gen_of_at h
  have hx2 : x.2 < 256 := by
    simp only [rootOk, decide_eq_true_eq] at hr
    omega
  rw [hgen] at e2
  rcases h.front with f | f
  · rw [ha, Option.some.injEq] at f
    rw [e2, f, UInt8.toNat_ofNat']
    omega
  · rw [ha, Option.some.injEq] at f
    exfalso
    have e4 : x.1 = g + 1 := by
      rw [e2, f, UInt8.toNat_ofNat']
      omega
    rw [e4] at e1
    exact hn x.2 hx2 e1
theorem newer_right {a b : Option (Nat × Nat)} {x : Nat × Nat} (hb : b = some x) (ha : ∀ y, a = some y → y.1 < x.1) : newer a b = some x := by
  subst hb
  cases a with
  | none => rfl
  | some y =>
    simp only [newer]
    rw [if_pos (ha y rfl)]
theorem newer_left {a b : Option (Nat × Nat)} {x : Nat × Nat} (ha : a = some x) (hb : ∀ y, b = some y → y.1 < x.1) : newer a b = some x := by
  subst ha
  cases b with
  | none => rfl
  | some y =>
    simp only [newer]
    rw [if_neg (by have := hb y rfl; omega)]
/-! ### What lasts -/
/-- What lasts between two commits: the newest head, what lies in the page of the next one, a page that was committed. -/
structure Inv (d : Dk) (g r : Nat) (S : List UInt8) : Prop where
  free : d.free
  ok : d.ok
  pages : d.pages = 9
  pend : d.pend = []
  g1 : 1 ≤ g
  root : rootOk r 9 = true
  cur : d.last ((g % 2 : Nat) : Int) = headPage g r
  at_ : At g (d.last (((g + 1) % 2 : Nat) : Int))
  nh : NH g (d.last (((g + 1) % 2 : Nat) : Int))
  page : d.last 3 = S
theorem Inv.has {d : Dk} {g r : Nat} {S : List UInt8} (h : Inv d g r S) (n : Int) : d.has n = d.last n := by
  unfold Dk.has
  rw [h.pend]
  rfl
theorem Inv.newest {d : Dk} {g r : Nat} {S : List UInt8} (h : Inv d g r S) (hg : g < 200) : d.openErr = 0 ∧ d.newestHead = some (g, r) := by
  have hN : d.newestHead = some (g, r) := by
    unfold Dk.newestHead
    rw [h.has, h.has, h.pages]
    have hc := h.cur
    have ha := h.at_
    have hn := h.nh
    by_cases hp : g % 2 = 0
    · have hp' : (g + 1) % 2 = 1 := by omega
      rw [hp] at hc
      rw [hp'] at ha hn
      refine newer_left ?_ (old_reads ha hn h.g1 hg (by decide) 1)
      rw [show d.last 0 = headPage g r from hc]
      exact readHead_page (by omega) hp h.root (by decide)
    · have hp0 : g % 2 = 1 := by omega
      have hp' : (g + 1) % 2 = 0 := by omega
      rw [hp0] at hc
      rw [hp'] at ha hn
      refine newer_right ?_ (old_reads ha hn h.g1 hg (by decide) 0)
      rw [show d.last 1 = headPage g r from hc]
      exact readHead_page (by omega) hp0 h.root (by decide)
  refine ⟨?_, hN⟩
  unfold Dk.openErr
  rw [if_neg (by rw [h.pages]; decide), h.free.down, if_neg (by decide), hN, if_neg (by simp)]
/-- A disk with power, whatever steps are left: what lasts, what is pending. -/
structure Up (d : Dk) (L : Int → List UInt8) (p : List (Int × List UInt8)) : Prop where
  down : d.down = false
  pages : d.pages = 9
  last : d.last = L
  pend : d.pend = p
  ok : d.ok
/-- .. without. -/
structure Off (d : Dk) (L : Int → List UInt8) (p : List (Int × List UInt8)) : Prop where
  down : d.down = true
  pages : d.pages = 9
  last : d.last = L
  pend : d.pend = p
  ok : d.ok
theorem Up.stepped {d : Dk} {L : Int → List UInt8} {p : List (Int × List UInt8)} (h : Up d L p) (ha : d.arm ≠ 0) : Up d.stepped L p := by
  have hok := h.ok.stepped
  have e : d.stepped.last = d.last ∧ d.stepped.pend = d.pend ∧ d.stepped.down = d.down := by
    unfold Dk.stepped
    rw [if_neg ha]
    split <;> exact ⟨rfl, rfl, rfl⟩
  exact ⟨e.2.2.trans h.down, (Dk.stepped_pages d).trans h.pages, e.1.trans h.last, e.2.1.trans h.pend, hok⟩
theorem Up.fails {d : Dk} {L : Int → List UInt8} {p : List (Int × List UInt8)} (h : Up d L p) (ha : d.arm = 0) : Off d.stepped L p := by
  have hok := h.ok.stepped
  have e : d.stepped = { d with down := true } := by unfold Dk.stepped; rw [if_pos ha]
  rw [e] at hok ⊢
  exact ⟨rfl, h.pages, h.last, h.pend, hok⟩
theorem Up.wr {d : Dk} {L : Int → List UInt8} {p : List (Int × List UInt8)} (h : Up d L p) {n : Int} {b : List UInt8} (h0 : 0 ≤ n) (h1 : n < 9) (hb : b.length = 512) :
    (d.wrErr n b = 9 ∧ Off (d.wr n b) L p) ∨ (d.wrErr n b = 0 ∧ Up (d.wr n b) L (p ++ [(n, b)])) := by
  have hr : d.reach n = 0 := by unfold Dk.reach; rw [h.down, if_neg (by decide), if_neg (by rw [h.pages]; omega)]
  unfold Dk.wrErr Dk.wr
  simp only [hr, hb, ne_eq, not_true_eq_false, if_false]
  by_cases ha : d.arm = 0
  · rw [if_pos ha, if_pos ha]
    exact Or.inl ⟨rfl, h.fails ha⟩
  · rw [if_neg ha, if_neg ha]
    have s := h.stepped ha
    refine Or.inr ⟨rfl, s.down, s.pages, s.last, ?_, s.ok.push hb h0 (by rw [s.pages]; exact h1)⟩
    show d.stepped.pend ++ [(n, b)] = _
    rw [s.pend]
theorem Up.sy {d : Dk} {L : Int → List UInt8} {p : List (Int × List UInt8)} (h : Up d L p) :
    (d.syErr = 9 ∧ Off d.sy L p) ∨ (d.syErr = 0 ∧ Up d.sy (settleIn (fun _ => 512) p 0 L) []) := by
  unfold Dk.syErr Dk.sy
  simp only [h.down, Bool.false_eq_true, if_false]
  by_cases ha : d.arm = 0
  · rw [if_pos ha, if_pos ha]
    exact Or.inl ⟨rfl, h.fails ha⟩
  · rw [if_neg ha, if_neg ha]
    have s := h.stepped ha
    refine Or.inr ⟨rfl, s.down, s.pages, ?_, rfl, s.ok.settled _⟩
    show settleIn (fun _ => 512) d.stepped.pend 0 d.stepped.last = _
    rw [s.pend, s.last]
theorem Up.pw {d : Dk} {L : Int → List UInt8} {p : List (Int × List UInt8)} (h : Up d L p) {n : Int} {b : List UInt8} (h0 : 2 ≤ n) (h1 : n < 9) (hb : b.length = 508) :
    (d.pwErr n b = 9 ∧ Off (d.pw n b) L p) ∨ (d.pwErr n b = 0 ∧ Up (d.pw n b) L (p ++ [(n, sealed b)])) := by
  have hr : d.rangeErr n = true := by unfold Dk.rangeErr; rw [h.pages]; simp; omega
  have e := h.wr (n := n) (b := sealed b) (by omega) h1 (by rw [sealed_len, hb])
  unfold Dk.pwErr Dk.pw
  simp only [hr, hb, Bool.true_eq_false, ne_eq, not_true_eq_false, if_false]
  exact e
theorem keeps_512 (keep : List Bool) (tn cut : Int) (i : Nat) : keeps keep tn cut i ≤ 512 := by
  unfold keeps
  split
  · omega
  · split <;> omega
/-- Behind a failing of the power: what lasts, of the pending writes so much as is kept. -/
theorem mended_up (d : Dk) (L : Int → List UInt8) (p : List (Int × List UInt8)) (hl : d.last = L) (hp : d.pend = p) (keep : List Bool) (tn cut : Int) : (d.mended keep tn cut).last = settleIn (keeps keep tn cut) p 0 L ∧ (d.mended keep tn cut).pend = [] := by
  refine ⟨?_, rfl⟩
  show settleIn (keeps keep tn cut) d.pend 0 d.last = _
  rw [hl, hp]
theorem settle1 (c : Nat → Nat) (n : Int) (b : List UInt8) (L : Int → List UInt8) : settleIn c [(n, b)] 0 L = putP L n (torn (c 0) b (L n)) := rfl
theorem torn_all {b X : List UInt8} (hb : b.length = 512) (hX : X.length = 512) : torn 512 b X = b := by
  unfold torn
  rw [List.take_of_length_le (by omega), over_all (by omega)]
/-- The commit's steps over a disk with power: the ways in which they end. -/
theorem Up.cm {d : Dk} {L : Int → List UInt8} {p : List (Int × List UInt8)} (h : Up d L p) (g r : Nat) :
    (d.cmErr g r = 9 ∧ Off (d.cm g r) L p) ∨ (d.cmErr g r = 9 ∧ Off (d.cm g r) (settleIn (fun _ => 512) p 0 L) []) ∨ (d.cmErr g r = 9 ∧ Off (d.cm g r) (settleIn (fun _ => 512) p 0 L) [(((g % 2 : Nat) : Int), headPage g r)]) ∨
      (d.cmErr g r = 0 ∧ Up (d.cm g r) (putP (settleIn (fun _ => 512) p 0 L) ((g % 2 : Nat) : Int) (headPage g r)) []) := by
  unfold Dk.cmErr Dk.cm
  rcases h.sy with ⟨e1, u1⟩ | ⟨e1, u1⟩
  · simp only [e1, ne_eq, show ¬ ((9 : Int) = 0) by decide, not_false_eq_true, if_true]
    exact Or.inl ⟨trivial, u1⟩
  · simp only [e1, ne_eq, not_true_eq_false, if_false]
    rcases u1.wr (n := ((g % 2 : Nat) : Int)) (b := headPage g r) (by omega) (by omega) (headPage_len g r) with ⟨e2, u2⟩ | ⟨e2, u2⟩
    · simp only [e2, show ¬ ((9 : Int) = 0) by decide, not_false_eq_true, if_true]
      exact Or.inr (Or.inl ⟨trivial, u2⟩)
    · simp only [e2, not_true_eq_false, if_false]
      rcases u2.sy with ⟨e3, u3⟩ | ⟨e3, u3⟩
      · exact Or.inr (Or.inr (Or.inl ⟨e3, u3⟩))
      · refine Or.inr (Or.inr (Or.inr ⟨e3, ?_⟩))
        rw [List.nil_append, settle1, torn_all (headPage_len g r) (by rw [← u2.last]; exact u2.ok.last _)] at u3
        exact u3
/-- Pages that agree where it matters. -/
def Agree (L L' : Int → List UInt8) : Prop := L' 0 = L 0 ∧ L' 1 = L 1 ∧ L' 3 = L 3
theorem Agree.slot {L L' : Int → List UInt8} (h : Agree L L') (g : Nat) : L' ((g % 2 : Nat) : Int) = L ((g % 2 : Nat) : Int) := by
  have : g % 2 = 0 ∨ g % 2 = 1 := by omega
  rcases this with e | e
  · rw [e]; exact h.1
  · rw [e]; exact h.2.1
theorem settle_other (c : Nat → Nat) (q : Int) : ∀ (l : List (Int × List UInt8)) (i : Nat) (L : Int → List UInt8), (∀ x ∈ l, x.1 ≠ q) → settleIn c l i L q = L q
  | [], _, _, _ => rfl
  | x :: r, i, L, h => by
    show settleIn c r (i + 1) _ q = _
    rw [settle_other c q r (i + 1) _ (fun y hy => h y (List.mem_cons_of_mem _ hy))]
    unfold putP
    rw [if_neg (fun e => h x (List.mem_cons_self ..) e.symm)]
variable {d d3 : Dk} {g r n : Nat} {S : List UInt8} {keep : List Bool} {tn cut : Int}
theorem inv_of (h : Inv d g r S) (hok : d3.ok) (hp : d3.pages = 9) (ha : Agree d.last (d3.mended keep tn cut).last) : Inv (d3.mended keep tn cut) g r S :=
  ⟨Dk.mended_free _ _ _ _, hok.mended _ _ _, hp, rfl, h.g1, h.root, (ha.slot g).trans h.cur, by rw [ha.slot (g + 1)]; exact h.at_, by rw [ha.slot (g + 1)]; exact h.nh, ha.2.2.trans h.page⟩
/-- Nothing of a head was written. -/
theorem inv_keep (h : Inv d g r S) {L : Int → List UInt8} {p : List (Int × List UInt8)} (hl : d3.last = L) (hpd : d3.pend = p) (hok : d3.ok) (hp : d3.pages = 9) (ha : Agree d.last L) (hx : ∀ x ∈ p, x.1 ≠ 0 ∧ x.1 ≠ 1 ∧ x.1 ≠ 3) : Inv (d3.mended keep tn cut) g r S := by
  refine inv_of h hok hp ?_
  rw [(mended_up d3 L p hl hpd keep tn cut).1]
  exact ⟨(settle_other _ _ _ _ _ (fun x m => (hx x m).1)).trans ha.1, (settle_other _ _ _ _ _ (fun x m => (hx x m).2.1)).trans ha.2.1, (settle_other _ _ _ _ _ (fun x m => (hx x m).2.2)).trans ha.2.2⟩
theorem slot_ne3 (g : Nat) : ((g % 2 : Nat) : Int) ≠ 3 := by omega
/-- The new head lasts whole. -/
theorem inv_new (h : Inv d g r S) (hg : g < 190) (hr : r < 256) {L : Int → List UInt8} (hn : rootOk n 9 = true) (hl : (d3.mended keep tn cut).last = putP L (((g + 1) % 2 : Nat) : Int) (headPage (g + 1) n)) (hok : d3.ok) (hp : d3.pages = 9) (ha : Agree d.last L) : Inv (d3.mended keep tn cut) (g + 1) n S := by
  have hc : (d3.mended keep tn cut).last (((g + 1 + 1) % 2 : Nat) : Int) = headPage g r := by
    rw [hl]
    unfold putP
    rw [if_neg (by omega), show (g + 1 + 1) % 2 = g % 2 by omega, ha.slot g]
    exact h.cur
  refine ⟨Dk.mended_free _ _ _ _, hok.mended _ _ _, hp, rfl, by omega, hn, ?_, ?_, ?_, ?_⟩
  · rw [hl]
    unfold putP
    rw [if_pos rfl]
  · rw [hc]
    exact At.head (g := g + 1) (by omega) (by omega) hr
  · rw [hc]
    exact NH.head (g := g + 1) (by omega) (by omega) hr
  · rw [hl]
    unfold putP
    rw [if_neg (fun e => slot_ne3 (g + 1) e.symm), ha.2.2]
    exact h.page
theorem rootOk_small {r : Nat} (h : rootOk r 9 = true) : r < 256 := by
  simp only [rootOk, decide_eq_true_eq] at h
  omega
/-- The new head is pending: it lasts whole, or the old one counts. -/
theorem inv_torn (h : Inv d g r S) (hg : g < 190) {L : Int → List UInt8} (hn : rootOk n 9 = true) (hl : d3.last = L) (hpd : d3.pend = [((((g + 1) % 2 : Nat) : Int), headPage (g + 1) n)]) (hok : d3.ok) (hp : d3.pages = 9) (ha : Agree d.last L) :
    Inv (d3.mended keep tn cut) g r S ∨ (Inv (d3.mended keep tn cut) (g + 1) n S ∧ ∀ q : Int, 2 ≤ q → (d3.mended keep tn cut).has q = L q) := by
  have hm := (mended_up d3 L _ hl hpd keep tn cut).1
  rw [settle1] at hm
  have hn2 := rootOk_small hn
  have hr2 := rootOk_small h.root
  have hX : L (((g + 1) % 2 : Nat) : Int) = d.last (((g + 1) % 2 : Nat) : Int) := ha.slot (g + 1)
  by_cases e : torn (keeps keep tn cut 0) (headPage (g + 1) n) (L (((g + 1) % 2 : Nat) : Int)) = headPage (g + 1) n
  · right
    rw [e] at hm
    refine ⟨inv_new h hg hr2 hn hm hok hp ha, fun q hq => ?_⟩
    show (d3.mended keep tn cut).last q = _
    rw [hm]
    unfold putP
    rw [if_neg (by omega)]
  · left
    have ho : ∀ q : Int, q ≠ (((g + 1) % 2 : Nat) : Int) → (d3.mended keep tn cut).last q = L q := fun q hq => by
      rw [hm]
      unfold putP
      rw [if_neg hq]
    have hs : (d3.mended keep tn cut).last (((g + 1) % 2 : Nat) : Int) = torn (keeps keep tn cut 0) (headPage (g + 1) n) (d.last (((g + 1) % 2 : Nat) : Int)) := by
      rw [hm]
      unfold putP
      rw [if_pos rfl, hX]
    refine ⟨Dk.mended_free _ _ _ _, hok.mended _ _ _, hp, rfl, h.g1, h.root, ?_, ?_, ?_, ?_⟩
    · rw [ho _ (by omega), ha.slot g]
      exact h.cur
    · rw [hs]
      exact h.at_.torn (by omega) hn2
    · rw [hs]
      intro q hq e2
      have := torn_head h.at_ h.nh (by omega) hn2 hq e2
      subst this
      rw [hX] at e
      exact e e2
    · rw [ho 3 (fun e => slot_ne3 (g + 1) e.symm), ha.2.2]
      exact h.page
/-- The ways in which a commit ends. -/
theorem cm_ends (h : Inv d g r S) (hg : g < 190) (hn : rootOk n 9 = true) {d2 : Dk} {L : Int → List UInt8} {p : List (Int × List UInt8)} (u : Up d2 L p) (ha : Agree d.last L) (hx : ∀ x ∈ p, x.1 ≠ 0 ∧ x.1 ≠ 1 ∧ x.1 ≠ 3) :
    (d2.cmErr (g + 1) n = 9 ∧ (d2.cm (g + 1) n).down = true ∧ (Inv ((d2.cm (g + 1) n).mended keep tn cut) g r S ∨ (Inv ((d2.cm (g + 1) n).mended keep tn cut) (g + 1) n S ∧ ∀ q : Int, 2 ≤ q → ((d2.cm (g + 1) n).mended keep tn cut).has q = settleIn (fun _ => 512) p 0 L q))) ∨
    (d2.cmErr (g + 1) n = 0 ∧ Inv ((d2.cm (g + 1) n).mended keep tn cut) (g + 1) n S ∧ ∀ q : Int, 2 ≤ q → ((d2.cm (g + 1) n).mended keep tn cut).has q = settleIn (fun _ => 512) p 0 L q) := by
  have ha' : Agree d.last (settleIn (fun _ => 512) p 0 L) := ⟨(settle_other _ _ _ _ _ (fun x m => (hx x m).1)).trans ha.1, (settle_other _ _ _ _ _ (fun x m => (hx x m).2.1)).trans ha.2.1, (settle_other _ _ _ _ _ (fun x m => (hx x m).2.2)).trans ha.2.2⟩
  rcases u.cm (g + 1) n with ⟨e, o⟩ | ⟨e, o⟩ | ⟨e, o⟩ | ⟨e, o⟩
  · exact Or.inl ⟨e, o.down, Or.inl (inv_keep h o.last o.pend o.ok o.pages ha hx)⟩
  · exact Or.inl ⟨e, o.down, Or.inl (inv_keep h o.last o.pend o.ok o.pages ha' (fun x m => by cases m))⟩
  · exact Or.inl ⟨e, o.down, inv_torn h hg hn o.last o.pend o.ok o.pages ha'⟩
  · have hm : ((d2.cm (g + 1) n).mended keep tn cut).last = putP (settleIn (fun _ => 512) p 0 L) (((g + 1) % 2 : Nat) : Int) (headPage (g + 1) n) := (mended_up _ _ _ o.last o.pend keep tn cut).1
    refine Or.inr ⟨e, inv_new h hg (rootOk_small h.root) hn hm o.ok o.pages ha', fun q hq => ?_⟩
    show ((d2.cm (g + 1) n).mended keep tn cut).last q = _
    rw [hm]
    unfold putP
    rw [if_neg (by omega)]
theorem Inv.armed (h : Inv d g r S) (a : Int) (ha : a ≤ 9223372036854775807) : Up (d.armed a) d.last [] := ⟨h.free.down, h.pages, rfl, h.pend, h.ok.armed a ha⟩
/-- A commit without a page. -/
theorem whole_none (h : Inv d g r S) (hg : g < 190) (a : Int) (ha : a ≤ 9223372036854775807) (keep : List Bool) (tn cut : Int) :
    ((d.armed a).cmErr (g + 1) 0 = 9 ∧ ((d.armed a).cm (g + 1) 0).down = true ∧ (Inv (((d.armed a).cm (g + 1) 0).mended keep tn cut) g r S ∨ Inv (((d.armed a).cm (g + 1) 0).mended keep tn cut) (g + 1) 0 S)) ∨
    ((d.armed a).cmErr (g + 1) 0 = 0 ∧ Inv (((d.armed a).cm (g + 1) 0).mended keep tn cut) (g + 1) 0 S) := by
  rcases cm_ends (keep := keep) (tn := tn) (cut := cut) h hg (rootOk_zero 9) (h.armed a ha) ⟨rfl, rfl, rfl⟩ (fun x m => by cases m) with ⟨e, o, q | q⟩ | ⟨e, o, q⟩
  · exact Or.inl ⟨e, o, Or.inl q⟩
  · exact Or.inl ⟨e, o, Or.inr q.1⟩
  · exact Or.inr ⟨e, o⟩
/-- A commit with a page. -/
theorem whole_page (h : Inv d g r S) (hg : g < 190) (a : Int) (ha : a ≤ 9223372036854775807) (h2 : 2 ≤ n) (h9 : n < 9) (h3 : n ≠ 3) {b : List UInt8} (hb : b.length = 508) (keep : List Bool) (tn cut : Int) :
    ((d.armed a).pwErr (n : Int) b = 9 ∧ ((d.armed a).pw (n : Int) b).down = true ∧ Inv (((d.armed a).pw (n : Int) b).mended keep tn cut) g r S) ∨
    ((d.armed a).pwErr (n : Int) b = 0 ∧ ((d.armed a).pw (n : Int) b).pages = 9 ∧ ((d.armed a).pw (n : Int) b).pend.length ≤ 1 ∧
      ((((d.armed a).pw (n : Int) b).cmErr (g + 1) n = 9 ∧ (((d.armed a).pw (n : Int) b).cm (g + 1) n).down = true ∧ (Inv ((((d.armed a).pw (n : Int) b).cm (g + 1) n).mended keep tn cut) g r S ∨ (Inv ((((d.armed a).pw (n : Int) b).cm (g + 1) n).mended keep tn cut) (g + 1) n S ∧ ((((d.armed a).pw (n : Int) b).cm (g + 1) n).mended keep tn cut).has (n : Int) = sealed b))) ∨
       (((d.armed a).pw (n : Int) b).cmErr (g + 1) n = 0 ∧ Inv ((((d.armed a).pw (n : Int) b).cm (g + 1) n).mended keep tn cut) (g + 1) n S ∧ ((((d.armed a).pw (n : Int) b).cm (g + 1) n).mended keep tn cut).has (n : Int) = sealed b))) := by
  have hn : rootOk n 9 = true := by simp [rootOk]; omega
  have u := h.armed a ha
  have hL : ∀ k, (d.last k).length = 512 := h.ok.last
  have es : settleIn (fun _ => 512) [((n : Int), sealed b)] 0 d.last (n : Int) = sealed b := by
    rw [settle1, torn_all (by rw [sealed_len, hb]) (hL _)]
    unfold putP
    rw [if_pos rfl]
  rcases u.pw (n := (n : Int)) (by omega) (by omega) hb with ⟨e, o⟩ | ⟨e, o⟩
  · exact Or.inl ⟨e, o.down, inv_keep h o.last o.pend o.ok o.pages ⟨rfl, rfl, rfl⟩ (fun x m => by cases m)⟩
  · refine Or.inr ⟨e, o.pages, by rw [o.pend]; simp, ?_⟩
    have hx : ∀ x ∈ ([] ++ [((n : Int), sealed b)] : List (Int × List UInt8)), x.1 ≠ 0 ∧ x.1 ≠ 1 ∧ x.1 ≠ 3 := fun x m => by
      simp only [List.nil_append, List.mem_singleton] at m
      subst m
      exact ⟨by show (n : Int) ≠ 0; omega, by show (n : Int) ≠ 1; omega, by show (n : Int) ≠ 3; omega⟩
    rcases cm_ends (keep := keep) (tn := tn) (cut := cut) h hg hn o ⟨rfl, rfl, rfl⟩ hx with ⟨e1, o1, q | ⟨q, f⟩⟩ | ⟨e1, q, f⟩
    · exact Or.inl ⟨e1, o1, Or.inl q⟩
    · exact Or.inl ⟨e1, o1, Or.inr ⟨q, (f (n : Int) (by omega)).trans es⟩⟩
    · exact Or.inr ⟨e1, q, (f (n : Int) (by omega)).trans es⟩
end Go.Proofs.Ytnecigbncggogaa
