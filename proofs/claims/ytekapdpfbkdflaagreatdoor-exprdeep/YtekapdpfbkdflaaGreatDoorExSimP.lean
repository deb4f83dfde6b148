/- Plain mathematics of expressions: what is read is read behind a bracket, too, and one nesting deeper the same, or too deep. No program is named here. No conditions. -/
import Derived.Test.YtekapdpfbkdflaaGreatDoorExPlain
namespace Go.Proofs.YtekapdpfbkdflaaGreatDoor
set_option linter.unusedVariables false

/-- Places, all later by so much. -/
def shL (a : Nat) (l : Ts) : Ts := l.map fun x => (x.1, x.2 + a)
/-- Nothing stands there, or a bracket that closes. -/
def Clo (c : Ts) : Prop := c = [] ∨ ∃ x r, c = x :: r ∧ x.1.k = 5 ∧ x.1.s = [41]
theorem Clo.stn {c : Ts} (h : Clo c) {k : Int} {s : List UInt8} (hs : s ≠ [41]) : stn k s c = false := by
  rcases h with rfl | ⟨x, r, rfl, hk, hx⟩
  · rfl
  · have : (x.1.s == s) = false := by rw [hx]; exact beq_eq_false_iff_ne.2 (Ne.symm hs)
    simp [Go.Proofs.YtekapdpfbkdflaaGreatDoor.stn, this]
theorem oprs_txt : ∀ o ∈ oprs, o.txt ≠ [41] := by
  have h : (oprs.all fun o => !(o.txt == [41])) = true := rfl
  intro o ho
  have := List.all_eq_true.1 h o ho
  simpa using this
theorem Clo.op {c : Ts} (h : Clo c) (n : Int) : opAt n c = none := by
  unfold opAt
  rw [List.find?_eq_none]
  intro o ho
  rw [h.stn (oprs_txt o ho)]
  simp
theorem stn_sh (a : Nat) {c : Ts} (h : Clo c) {k : Int} {s : List UInt8} (hs : s ≠ [41]) (l : Ts) : stn k s (shL a l ++ c) = stn k s l := by
  cases l with
  | nil => exact h.stn hs
  | cons x r => rfl
theorem stn_sh1 (a : Nat) {c : Ts} {k : Int} {s : List UInt8} {l : Ts} (h : stn k s l = true) : stn k s (shL a l ++ c) = true := by
  obtain ⟨x, r, rfl, _⟩ := stn_pos h
  exact h
theorem tail_sh (a : Nat) {c : Ts} {l : Ts} (h : l ≠ []) : (shL a l ++ c).tail = shL a l.tail ++ c := by
  cases l with
  | nil => exact absurd rfl h
  | cons x r => rfl
theorem find_congr {α : Type} {p q : α → Bool} : ∀ {l : List α}, (∀ x ∈ l, p x = q x) → l.find? p = l.find? q
  | [], _ => rfl
  | x :: r, h => by
    rw [List.find?_cons, List.find?_cons, h x (List.mem_cons_self ..), find_congr (fun y hy => h y (List.mem_cons_of_mem _ hy))]
theorem opAt_sh (a : Nat) {c : Ts} (h : Clo c) (n : Int) (l : Ts) : opAt n (shL a l ++ c) = opAt n l := by
  unfold opAt
  exact find_congr fun o ho => by rw [stn_sh a h (oprs_txt o ho)]
theorem opAt_ne {n : Int} {l : Ts} {o : Opr} (h : opAt n l = some o) : l ≠ [] := by
  obtain ⟨x, r, rfl, _⟩ := stn_pos (opAt_some h).2.2
  simp
theorem stn_ne {k : Int} {s : List UInt8} {l : Ts} (h : stn k s l = true) : l ≠ [] := by
  obtain ⟨x, r, rfl, _⟩ := stn_pos h
  simp

/-- What the one reads, the other reads behind shifted words, or it is too deep. -/
def Sim {α : Type} (a : Nat) (c : Ts) (P Q : Ts → Rd α) : Prop := ∀ l e r, P l = .ok (e, r) → Q (shL a l ++ c) = .ok (e, shL a r ++ c) ∨ ∃ x, Q (shL a l ++ c) = .error (x, 21)
theorem sim_rowL {a : Nat} {c : Ts} (hc : Clo c) {n : Int} {P Q : Ts → Rd Ex} (hP : Sf P) (h : Sim a c P Q) : ∀ (f f' : Nat) (e : Ex) (l : Ts) (e' : Ex) (r : Ts), l.length ≤ f → l.length + c.length ≤ f' → rowL n P f e l = .ok (e', r) →
    rowL n Q f' e (shL a l ++ c) = .ok (e', shL a r ++ c) ∨ ∃ x, rowL n Q f' e (shL a l ++ c) = .error (x, 21) := by
  intro f
  induction f with
  | zero =>
    intro f' e l e' r hf hf' q
    obtain rfl : l = [] := List.length_eq_zero_iff.1 (by omega)
    simp only [rowL, Except.ok.injEq, Prod.mk.injEq] at q
    obtain ⟨rfl, rfl⟩ := q
    left
    cases f' with
    | zero => rfl
    | succ f' => rw [rowL, opAt_sh a hc, Clo.op (Or.inl rfl) n]
  | succ f ih =>
    intro f' e l e' r hf hf' q
    rw [rowL] at q
    cases ho : opAt n l with
    | none =>
      rw [ho] at q
      simp only [Except.ok.injEq, Prod.mk.injEq] at q
      obtain ⟨rfl, rfl⟩ := q
      left
      cases f' with
      | zero => rfl
      | succ f' => rw [rowL, opAt_sh a hc, ho]
    | some o =>
      have hl := opAt_ne ho
      have hll : 0 < l.length := List.length_pos_iff.2 hl
      obtain ⟨f', rfl⟩ : ∃ g, f' = g + 1 := ⟨f' - 1, by omega⟩
      rw [ho] at q
      simp only [] at q
      rw [rowL, opAt_sh a hc, ho]
      simp only []
      rw [tail_sh a hl]
      cases hp : P l.tail with
      | error x => rw [hp] at q; cases q
      | ok y =>
        obtain ⟨e1, r1⟩ := y
        rw [hp] at q
        simp only [] at q
        have hs := (hP _ _ hp).length_le
        have ht : l.tail.length = l.length - 1 := List.length_tail
        simp only [] at hs
        rcases h _ _ _ hp with g | ⟨x, g⟩
        · rw [g]
          exact ih f' _ _ _ _ (by omega) (by omega) q
        · rw [g]
          exact Or.inr ⟨x, rfl⟩
theorem sh_len (a : Nat) (l c : Ts) : (shL a l ++ c).length = l.length + c.length := by simp [shL]
theorem sim_row {a : Nat} {c : Ts} (hc : Clo c) {n : Int} {P Q : Ts → Rd Ex} (hP : Sf P) (h : Sim a c P Q) : Sim a c (rowP n P) (rowP n Q) := by
  intro l e r q
  unfold rowP at q ⊢
  cases hp : P l with
  | error x => rw [hp] at q; cases q
  | ok y =>
    obtain ⟨e1, r1⟩ := y
    rw [hp] at q
    simp only [] at q
    rcases h _ _ _ hp with g | ⟨x, g⟩
    · rw [g]
      simp only []
      exact sim_rowL hc hP h _ _ _ _ _ _ (Nat.le_refl _) (by rw [sh_len]; omega) q
    · rw [g]
      exact Or.inr ⟨x, rfl⟩
theorem sim_must (a : Nat) (c : Ts) {k : Int} {s : List UInt8} {l r : Ts} (h : mustP k s l = .ok r) : mustP k s (shL a l ++ c) = .ok (shL a r ++ c) := by
  unfold mustP at h ⊢
  split at h
  · rename_i hs
    cases h
    rw [if_pos (stn_sh1 a hs), tail_sh a (stn_ne hs)]
  · cases h
theorem sim_null {a : Nat} {c : Ts} (hc : Clo c) : Sim a c nullP nullP := by
  intro l e r q
  unfold nullP at q ⊢
  rw [stn_sh a hc (by decide)]
  left
  split at q
  · rename_i hs
    rw [if_pos hs, tail_sh a (stn_ne hs)]
    split at q
    · cases q
    · rename_i r' hr; cases q; rw [sim_must a c hr]
  · rename_i hs
    rw [if_neg hs]
    split at q
    · cases q
    · rename_i r' hr; cases q; rw [sim_must a c hr]
theorem sim_test {a : Nat} {c : Ts} (hc : Clo c) {P Q : Ts → Rd Ex} (h : Sim a c P Q) : Sim a c (testP P) (testP Q) := by
  intro l e r q
  unfold testP at q ⊢
  cases hp : P l with
  | error x => rw [hp] at q; cases q
  | ok y =>
    obtain ⟨e1, r1⟩ := y
    rw [hp] at q
    simp only [] at q
    rcases h _ _ _ hp with g | ⟨x, g⟩
    · rw [g]
      simp only []
      rw [stn_sh a hc (by decide), opAt_sh a hc]
      split at q
      · rename_i hs
        rw [if_pos hs, tail_sh a (stn_ne hs)]
        split at q
        · cases q
        · rename_i u hu
          obtain ⟨u1, u2⟩ := u
          cases q
          rcases sim_null hc _ _ _ hu with g | ⟨x, g⟩
          · rw [g]; exact Or.inl rfl
          · rw [g]; exact Or.inr ⟨x, rfl⟩
      · rename_i hs
        rw [if_neg hs]
        split at q
        · rename_i ho
          cases q
          exact Or.inl rfl
        · rename_i o ho
          rw [tail_sh a (opAt_ne ho)]
          split at q
          · cases q
          · rename_i u hu
            obtain ⟨u1, u2⟩ := u
            cases q
            rcases h _ _ _ hu with g | ⟨x, g⟩
            · rw [g]; exact Or.inl rfl
            · rw [g]; exact Or.inr ⟨x, rfl⟩
    · rw [g]
      exact Or.inr ⟨x, rfl⟩
def SimO (a : Nat) (c : Ts) (p q : Option (Ts → Rd Ex)) : Prop := ∀ g', q = some g' → ∃ g, p = some g ∧ Sim a c g g'
theorem sim_ahead {a : Nat} {c : Ts} (hc : Clo c) {n : Int} {P Q : Ts → Rd Ex} {p p' : Option (Ts → Rd Ex)} (h : Sim a c P Q) (hp : SimO a c p p') : Sim a c (aheadP n P p) (aheadP n Q p') := by
  intro l e r q
  unfold aheadP at q ⊢
  rw [opAt_sh a hc]
  cases ho : opAt n l with
  | none => rw [ho] at q; exact h _ _ _ q
  | some o =>
    rw [ho] at q
    simp only [] at q ⊢
    rw [tail_sh a (opAt_ne ho)]
    cases p' with
    | none => exact Or.inr ⟨_, rfl⟩
    | some g' =>
      obtain ⟨g, rfl, hg⟩ := hp g' rfl
      simp only [] at q ⊢
      split at q
      · cases q
      · rename_i u hu
        obtain ⟨u1, u2⟩ := u
        cases q
        rcases hg _ _ _ hu with k | ⟨x, k⟩
        · rw [k]; exact Or.inl rfl
        · rw [k]; exact Or.inr ⟨x, rfl⟩
theorem sim_opsL {a : Nat} {c : Ts} (hc : Clo c) {g g' : Ts → Rd Ex} (h : Sim a c g g') : ∀ (n : Nat) (acc : List Ex), Sim a c (opsL g n acc) (opsL g' n acc)
  | 0, acc, l, e, r, q => by cases q; exact Or.inl rfl
  | n + 1, acc, l, e, r, q => by
    unfold opsL at q ⊢
    rw [stn_sh a hc (by decide)]
    split at q
    · rename_i hs
      rw [if_pos hs, tail_sh a (stn_ne hs)]
      split at q
      · cases q
      · rename_i u hu
        obtain ⟨u1, u2⟩ := u
        rcases h _ _ _ hu with k | ⟨x, k⟩
        · rw [k]; exact sim_opsL hc h n _ _ _ _ q
        · rw [k]; exact Or.inr ⟨x, rfl⟩
    · cases q
theorem sim_in {a : Nat} {c : Ts} (hc : Clo c) {g g' : Ts → Rd Ex} (h : Sim a c g g') (k : Cal) : Sim a c (inP g k) (inP g' k) := by
  intro l e r q
  unfold inP at q ⊢
  rw [stn_sh a hc (by decide)]
  split at q
  · rename_i hs
    rw [if_pos hs]
    simp only [Bool.and_eq_true] at hs
    cases q
    rw [tail_sh a (stn_ne hs.2)]
    exact Or.inl rfl
  · rename_i hs
    rw [if_neg hs]
    unfold opsP at q ⊢
    split at q
    · cases q
    · rename_i u hu
      obtain ⟨u1, u2⟩ := u
      rcases h _ _ _ hu with k | ⟨x, k⟩
      · rw [k]; exact sim_opsL hc h _ _ _ _ _ q
      · rw [k]; exact Or.inr ⟨x, rfl⟩
theorem sim_brk {α : Type} {a : Nat} {c : Ts} {p p' : Option (Ts → Rd Ex)} {h : (Ts → Rd Ex) → Ts → Rd α} (hp : SimO a c p p') (hh : ∀ g g', Sim a c g g' → Sim a c (h g) (h g')) {l : Ts} (hl : l ≠ []) {e : α} {r : Ts} (q : brkP p h l = .ok (e, r)) :
    brkP p' h (shL a l ++ c) = .ok (e, shL a r ++ c) ∨ ∃ x, brkP p' h (shL a l ++ c) = .error (x, 21) := by
  unfold brkP at q ⊢
  cases p' with
  | none => exact Or.inr ⟨_, rfl⟩
  | some g' =>
    obtain ⟨g, rfl, hg⟩ := hp g' rfl
    simp only [] at q ⊢
    rw [tail_sh a hl]
    split at q
    · cases q
    · rename_i u hu
      obtain ⟨u1, u2⟩ := u
      split at q
      · cases q
      · rename_i r' hr
        cases q
        rcases hh _ _ hg _ _ _ hu with k | ⟨x, k⟩
        · rw [k]; simp only []; rw [sim_must a c hr]; exact Or.inl rfl
        · rw [k]; exact Or.inr ⟨x, rfl⟩
theorem sim_name {a : Nat} {c : Ts} {l r : Ts} {s : List UInt8} (q : nameP l = .ok (s, r)) : nameP (shL a l ++ c) = .ok (s, shL a r ++ c) := by
  cases l with
  | nil => cases q
  | cons x r' =>
    have e : shL a (x :: r') ++ c = (x.1, x.2 + a) :: (shL a r' ++ c) := rfl
    rw [e]
    by_cases h : x.1.k = 1 ∧ nmB x.1.s = true
    · rw [nameP, if_pos h] at q ⊢; cases q; rfl
    · rw [nameP, if_neg h] at q; cases q
theorem sim_col {a : Nat} {c : Ts} (hc : Clo c) : Sim a c colP colP := by
  intro l e r q
  left
  unfold colP at q ⊢
  split at q
  · cases q
  · rename_i z hz
    obtain ⟨z1, z2⟩ := z
    rw [sim_name hz]
    simp only [] at q ⊢
    rw [stn_sh a hc (by decide)]
    split at q
    · rename_i hs
      rw [if_pos hs, tail_sh a (stn_ne hs)]
      split at q
      · cases q
      · rename_i u hu
        obtain ⟨u1, u2⟩ := u
        cases q
        rw [sim_name hu]
    · rename_i hs
      rw [if_neg hs]
      cases q
      rfl
theorem litT_sh (a : Nat) (c : Ts) (x : Tk × Nat) (r : Ts) : litT (shL a (x :: r) ++ c) = litT (x :: r) := rfl
theorem calT_sh (a : Nat) {c : Ts} (hc : Clo c) (x : Tk × Nat) (r : Ts) : calT (shL a (x :: r) ++ c) = calT (x :: r) := by
  cases r with
  | cons y r => rfl
  | nil =>
    rcases hc with rfl | ⟨z, t, rfl, hk, hs⟩
    · rfl
    · show (if x.1.k = 1 ∧ z.1.k = 5 ∧ z.1.s = [40] then calN x.1.s else none) = none
      rw [if_neg]
      rintro ⟨_, _, h⟩
      rw [hs] at h
      cases h
theorem sim_item {a : Nat} {c : Ts} (hc : Clo c) {p p' : Option (Ts → Rd Ex)} (hp : SimO a c p p') : Sim a c (itemP p) (itemP p') := by
  intro l e r q
  unfold itemP at q ⊢
  rw [stn_sh a hc (by decide)]
  split at q
  · rename_i hs
    rw [if_pos hs]
    exact sim_brk hp (fun g g' h => h) (stn_ne hs) q
  · rename_i hs
    rw [if_neg hs]
    cases l with
    | nil => cases q
    | cons x r' =>
      rw [litT_sh, calT_sh a hc]
      split at q
      · rename_i v hv
        cases q
        rw [tail_sh a (by simp)]
        exact Or.inl rfl
      · rename_i hv
        split at q
        · rename_i k hk
          rw [tail_sh a (by simp)]
          have hne : (x :: r').tail ≠ [] := by
            cases r' with
            | nil => cases hk
            | cons y r'' => simp
          split at q
          · cases q
          · rename_i u hu
            obtain ⟨u1, u2⟩ := u
            cases q
            rcases sim_brk hp (fun g g' h => sim_in hc h k) hne hu with j | ⟨z, j⟩
            · rw [j]; exact Or.inl rfl
            · rw [j]; exact Or.inr ⟨z, rfl⟩
        · exact sim_col hc _ _ _ q
def SimL (a : Nat) (c : Ts) (p q : Lns) : Prop := Sim a c p.sg q.sg ∧ Sim a c p.nt q.nt ∧ Sim a c p.orr q.orr
def SimLO (a : Nat) (c : Ts) (p q : Option Lns) : Prop := ∀ y, q = some y → ∃ x, p = some x ∧ SimL a c x y
theorem simO_map {a : Nat} {c : Ts} {p q : Option Lns} {f : Lns → Ts → Rd Ex} (h : SimLO a c p q) (hf : ∀ x y, SimL a c x y → Sim a c (f x) (f y)) : SimO a c (p.map f) (q.map f) := by
  intro g' hg
  cases q with
  | none => cases hg
  | some y =>
    cases hg
    obtain ⟨x, rfl, hx⟩ := h y rfl
    exact ⟨f x, rfl, hf _ _ hx⟩
theorem sf_sign {p : Option Lns} (h : ∀ q, p = some q → SfL q) : Sf (signP p) := sf_ahead (sf_item (sfo_map fun q hq => (h q hq).2.2)) (sfo_map fun q hq => (h q hq).1)
theorem sf_cat {p : Option Lns} (h : ∀ q, p = some q → SfL q) : Sf (catP p) := sf_row (sf_row (sf_row (sf_sign h)))
theorem sf_not {p : Option Lns} (h : ∀ q, p = some q → SfL q) : Sf (notP p) := sf_ahead (sf_test (sf_cat h)) (sfo_map fun q hq => (h q hq).2.1)
theorem sim_mkL {a : Nat} {c : Ts} (hc : Clo c) {p q : Option Lns} (hs : ∀ y, p = some y → SfL y) (h : SimLO a c p q) : SimL a c (mkL p) (mkL q) := by
  have s1 : Sf (signP p) := sf_sign hs
  have h1 : Sim a c (signP p) (signP q) := sim_ahead hc (sim_item hc (simO_map h fun x y k => k.2.2)) (simO_map h fun x y k => k.1)
  have h2 : Sim a c (notP p) (notP q) := sim_ahead hc (sim_test hc (sim_row hc (sf_row (sf_row s1)) (sim_row hc (sf_row s1) (sim_row hc s1 h1)))) (simO_map h fun x y k => k.2.1)
  exact ⟨h1, h2, sim_row hc (sf_row (sf_not hs)) (sim_row hc (sf_not hs) h2)⟩
/-- Deeper it is the same, or too deep. -/
theorem sim_lns {a : Nat} {c : Ts} (hc : Clo c) : ∀ (d D : Nat), d ≤ D → SimL a c (lns D) (lns d) := by
  intro d
  induction d with
  | zero =>
    intro D _
    rw [lns_eq D, lns_eq 0]
    exact sim_mkL hc (fun y hy => sf_prv hy) (fun y hy => by cases hy)
  | succ d ih =>
    intro D hD
    obtain ⟨E, rfl⟩ : ∃ E, D = E + 1 := ⟨D - 1, by omega⟩
    exact sim_mkL hc (fun y hy => by cases hy; exact sf_lns E) (fun y hy => by cases hy; exact ⟨_, rfl, ih E (by omega)⟩)

/-! ### An item, and nothing behind it -/
/-- Nothing behind goes on with an expression. -/
def Stp (r : Ts) : Prop := (∀ n, opAt n r = none) ∧ stn 1 [105, 115] r = false
theorem Clo.stp {c : Ts} (h : Clo c) : Stp c := ⟨h.op, h.stn (by decide)⟩
theorem row_ok {n : Int} {P : Ts → Rd Ex} {l r : Ts} {e : Ex} (h : P l = .ok (e, r)) (hr : opAt n r = none) : rowP n P l = .ok (e, r) := by
  unfold rowP
  rw [h]
  simp only []
  cases hl : r.length with
  | zero => rfl
  | succ f => rw [rowL, hr]
theorem row_err {n : Int} {P : Ts → Rd Ex} {l : Ts} {z : Ts × Int} (h : P l = .error z) : rowP n P l = .error z := by
  unfold rowP
  rw [h]
theorem test_ok {P : Ts → Rd Ex} {l r : Ts} {e : Ex} (h : P l = .ok (e, r)) (hr : Stp r) : testP P l = .ok (e, r) := by
  unfold testP
  rw [h]
  simp only []
  rw [hr.2, hr.1 4]
  rfl
theorem test_err {P : Ts → Rd Ex} {l : Ts} {z : Ts × Int} (h : P l = .error z) : testP P l = .error z := by
  unfold testP
  rw [h]
theorem ahead_no {n : Int} {P : Ts → Rd Ex} {p : Option (Ts → Rd Ex)} {l : Ts} (h : opAt n l = none) : aheadP n P p l = P l := by
  unfold aheadP
  rw [h]
/-- From the row of sums on. -/
theorem up_sum {p : Option Lns} {l r : Ts} {e : Ex} (h3 : opAt 3 l = none) (h : rowP 6 (rowP 7 (signP p)) l = .ok (e, r)) (hr : Stp r) : (mkL p).nt l = .ok (e, r) ∧ (mkL p).orr l = .ok (e, r) := by
  have hn : notP p l = .ok (e, r) := by
    unfold notP
    rw [ahead_no h3]
    exact test_ok (row_ok h (hr.1 5)) hr
  exact ⟨hn, row_ok (row_ok hn (hr.1 2)) (hr.1 1)⟩
theorem up_ok {p : Option Lns} {l r : Ts} {e : Ex} (h3 : opAt 3 l = none) (h8 : opAt 8 l = none) (h : itemP (p.map (·.orr)) l = .ok (e, r)) (hr : Stp r) : (mkL p).sg l = .ok (e, r) ∧ (mkL p).nt l = .ok (e, r) ∧ (mkL p).orr l = .ok (e, r) := by
  have hs : signP p l = .ok (e, r) := by
    unfold signP
    rw [ahead_no h8]
    exact h
  have h2 := up_sum h3 (row_ok (row_ok hs (hr.1 7)) (hr.1 6)) hr
  exact ⟨hs, h2.1, h2.2⟩
theorem up_err {p : Option Lns} {l : Ts} {z : Ts × Int} (h3 : opAt 3 l = none) (h8 : opAt 8 l = none) (h : itemP (p.map (·.orr)) l = .error z) : (mkL p).sg l = .error z ∧ (mkL p).nt l = .error z ∧ (mkL p).orr l = .error z := by
  have hs : signP p l = .error z := by
    unfold signP
    rw [ahead_no h8]
    exact h
  have hn : notP p l = .error z := by
    unfold notP
    rw [ahead_no h3]
    exact test_err (row_err (row_err (row_err hs)))
  exact ⟨hs, hn, row_err (row_err hn)⟩
theorem opAt_head {n : Int} {x : Tk × Nat} {r : Ts} (h : ∀ o ∈ oprs, o.line = n → ¬ (x.1.k = o.tok ∧ x.1.s = o.txt)) : opAt n (x :: r) = none := by
  unfold opAt
  rw [List.find?_eq_none]
  intro o ho hq
  simp only [Bool.and_eq_true, beq_iff_eq, stn] at hq
  exact h o ho hq.1 ⟨hq.2.1, hq.2.2⟩
/-- At a bracket that opens. -/
theorem op_open {x : Tk × Nat} (r : Ts) (h : x.1.s = [40]) (n : Int) : opAt n (x :: r) = none := by
  have h' : (oprs.all fun o => !(o.txt == [40])) = true := rfl
  refine opAt_head fun o ho _ q => ?_
  have := List.all_eq_true.1 h' o ho
  rw [← q.2, h] at this
  simp at this
/-- In brackets. -/
theorem brk_ok {d : Nat} {x y : Tk × Nat} {l c : Ts} {e : Ex} (hx : x.1.k = 5 ∧ x.1.s = [40]) (hy : y.1.k = 5 ∧ y.1.s = [41]) (hc : Stp c) (h : (lns d).orr (l ++ y :: c) = .ok (e, y :: c)) :
    (lns (d + 1)).nt (x :: (l ++ y :: c)) = .ok (e, c) ∧ (lns (d + 1)).orr (x :: (l ++ y :: c)) = .ok (e, c) := by
  have hi : itemP ((some (lns d)).map (·.orr)) (x :: (l ++ y :: c)) = .ok (e, c) := by
    unfold itemP
    rw [if_pos (by simp [stn, hx])]
    unfold brkP
    simp only [Option.map_some, List.tail_cons]
    rw [h]
    simp only []
    unfold mustP
    rw [if_pos (by simp [stn, hy])]
    rfl
  have := up_ok (p := some (lns d)) (op_open _ hx.2 3) (op_open _ hx.2 8) hi hc
  exact ⟨this.2.1, this.2.2⟩
theorem brk_err {d : Nat} {x : Tk × Nat} {l : Ts} {z : Ts × Int} (hx : x.1.k = 5 ∧ x.1.s = [40]) (h : (lns d).orr l = .error z) :
    (lns (d + 1)).nt (x :: l) = .error z ∧ (lns (d + 1)).orr (x :: l) = .error z := by
  have hi : itemP ((some (lns d)).map (·.orr)) (x :: l) = .error z := by
    unfold itemP
    rw [if_pos (by simp [stn, hx])]
    unfold brkP
    simp only [Option.map_some, List.tail_cons]
    rw [h]
  have := up_err (p := some (lns d)) (op_open _ hx.2 3) (op_open _ hx.2 8) hi
  exact ⟨this.2.1, this.2.2⟩
/-- Brackets about a whole expression. -/
theorem one_pair {xs : Ts} {e : Ex} (h : (lns 32).orr xs = .ok (e, [])) (i j : Nat) : (lns 32).orr ((⟨5, [40], 0⟩, i) :: (shL 1 xs ++ [(⟨5, [41], 0⟩, j)])) = .ok (e, []) ∨ ∃ x, (lns 32).orr ((⟨5, [40], 0⟩, i) :: (shL 1 xs ++ [(⟨5, [41], 0⟩, j)])) = .error (x, 21) := by
  have hc : Clo [((⟨5, [41], 0⟩ : Tk), j)] := Or.inr ⟨_, _, rfl, rfl, rfl⟩
  rcases (sim_lns (a := 1) hc 31 32 (by omega)).2.2 _ _ _ h with g | ⟨x, g⟩
  · exact Or.inl (brk_ok (d := 31) ⟨rfl, rfl⟩ ⟨rfl, rfl⟩ (Clo.stp (Or.inl rfl)) g).2
  · exact Or.inr ⟨x, (brk_err (d := 31) ⟨rfl, rfl⟩ g).2⟩
theorem two_pairs {xs : Ts} {e : Ex} (h : (lns 32).orr xs = .ok (e, [])) (i i' j j' : Nat) : (lns 32).orr ((⟨5, [40], 0⟩, i) :: (⟨5, [40], 0⟩, i') :: (shL 2 xs ++ [(⟨5, [41], 0⟩, j), (⟨5, [41], 0⟩, j')])) = .ok (e, []) ∨ ∃ x, (lns 32).orr ((⟨5, [40], 0⟩, i) :: (⟨5, [40], 0⟩, i') :: (shL 2 xs ++ [(⟨5, [41], 0⟩, j), (⟨5, [41], 0⟩, j')])) = .error (x, 21) := by
  have hc : Clo [((⟨5, [41], 0⟩ : Tk), j), (⟨5, [41], 0⟩, j')] := Or.inr ⟨_, _, rfl, rfl, rfl⟩
  have hc2 : Clo [((⟨5, [41], 0⟩ : Tk), j')] := Or.inr ⟨_, _, rfl, rfl, rfl⟩
  rcases (sim_lns (a := 2) hc 30 32 (by omega)).2.2 _ _ _ h with g | ⟨x, g⟩
  · have g1 := (brk_ok (d := 30) (x := (⟨5, [40], 0⟩, i')) ⟨rfl, rfl⟩ ⟨rfl, rfl⟩ hc2.stp g).2
    have e1 : (⟨5, [40], 0⟩, i') :: (shL 2 xs ++ [((⟨5, [41], 0⟩ : Tk), j), (⟨5, [41], 0⟩, j')]) = ((⟨5, [40], 0⟩, i') :: (shL 2 xs ++ [((⟨5, [41], 0⟩ : Tk), j)])) ++ [(⟨5, [41], 0⟩, j')] := by simp
    rw [e1] at g1
    rw [e1]
    exact Or.inl (brk_ok (d := 31) ⟨rfl, rfl⟩ ⟨rfl, rfl⟩ (Clo.stp (Or.inl rfl)) g1).2
  · exact Or.inr ⟨x, (brk_err (d := 31) ⟨rfl, rfl⟩ (brk_err (d := 30) ⟨rfl, rfl⟩ g).2).2⟩
end Go.Proofs.YtekapdpfbkdflaaGreatDoor
