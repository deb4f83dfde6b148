/- Plain mathematics of expressions: what is read is read behind a bracket, too, and one nesting deeper the same, or too deep. No program is named here. No conditions. Plain mathematics of expressions: what is read is written within a bound of its words; and the words of a text in brackets. No program is named here. No conditions. -/
import Derived.Test.YtekapdpfbkdflaaGreatDoorExPlain
import Derived.Test.YtekapdpfbkdflaaGreatDoorExPrP
import Derived.Test.YtekapdpfbkdflaaGreatDoorExOkP
import Derived.Test.YtekapdpfbkdflaaGreatDoorExLeftP
import Derived.Test.YtekapdpfbkdflaaGreatDoorLxCatP
import Derived.Test.YtekapdpfbkdflaaGreatDoorLxTkR
import Derived.Lib.ItoaLen
namespace Go.Proofs.YtekapdpfbkdflaaGreatDoor
set_option linter.unusedVariables false

/-- Places, all later by so much. -/
def shL (a : Nat) (l : Ts) : Ts := l.map fun x => (x.1, x.2 + a)
/-- Nothing stands there, or a bracket that closes. -/
def Clo (c : Ts) : Prop := c = [] ∨ ∃ x r, c = x :: r ∧ x.1.k = 5 ∧ x.1.s = [41]
theorem Clo.stn {c : Ts} (h : Clo c) {k : Int} {s : List UInt8} (hs : s ≠ [41]) : stn k s c = false := by
  rcases h with rfl | ⟨x, r, rfl, hk, hx⟩
  · rfl
  · have : (x.1.s == s) = false := by rw [hx]; exact beq_eq_false_iff_ne.2 (Ne.symm hs)
    simp [Go.Proofs.YtekapdpfbkdflaaGreatDoor.stn, this]
theorem oprs_txt : ∀ o ∈ oprs, o.txt ≠ [41] := by
  have h : (oprs.all fun o => !(o.txt == [41])) = true := rfl
  intro o ho
  have := List.all_eq_true.1 h o ho
  simpa using this
theorem Clo.op {c : Ts} (h : Clo c) (n : Int) : opAt n c = none := by
  unfold opAt
  rw [List.find?_eq_none]
  intro o ho
  rw [h.stn (oprs_txt o ho)]
  simp
theorem stn_sh (a : Nat) {c : Ts} (h : Clo c) {k : Int} {s : List UInt8} (hs : s ≠ [41]) (l : Ts) : stn k s (shL a l ++ c) = stn k s l := by
  cases l with
  | nil => exact h.stn hs
  | cons x r => rfl
theorem stn_sh1 (a : Nat) {c : Ts} {k : Int} {s : List UInt8} {l : Ts} (h : stn k s l = true) : stn k s (shL a l ++ c) = true := by
  obtain ⟨x, r, rfl, _⟩ := stn_pos h
  exact h
theorem tail_sh (a : Nat) {c : Ts} {l : Ts} (h : l ≠ []) : (shL a l ++ c).tail = shL a l.tail ++ c := by
  cases l with
  | nil => exact absurd rfl h
  | cons x r => rfl
theorem find_congr {α : Type} {p q : α → Bool} : ∀ {l : List α}, (∀ x ∈ l, p x = q x) → l.find? p = l.find? q
  | [], _ => rfl
  | x :: r, h => by
    rw [List.find?_cons, List.find?_cons, h x (List.mem_cons_self ..), find_congr (fun y hy => h y (List.mem_cons_of_mem _ hy))]
theorem opAt_sh (a : Nat) {c : Ts} (h : Clo c) (n : Int) (l : Ts) : opAt n (shL a l ++ c) = opAt n l := by
  unfold opAt
  exact find_congr fun o ho => by rw [stn_sh a h (oprs_txt o ho)]
theorem opAt_ne {n : Int} {l : Ts} {o : Opr} (h : opAt n l = some o) : l ≠ [] := by
  obtain ⟨x, r, rfl, _⟩ := stn_pos (opAt_some h).2.2
  simp
theorem stn_ne {k : Int} {s : List UInt8} {l : Ts} (h : stn k s l = true) : l ≠ [] := by
  obtain ⟨x, r, rfl, _⟩ := stn_pos h
  simp

/-- What the one reads, the other reads behind shifted words, or it is too deep. -/
def Sim {α : Type} (a : Nat) (c : Ts) (P Q : Ts → Rd α) : Prop := ∀ l e r, P l = .ok (e, r) → Q (shL a l ++ c) = .ok (e, shL a r ++ c) ∨ ∃ x, Q (shL a l ++ c) = .error (x, 21)
theorem sim_rowL {a : Nat} {c : Ts} (hc : Clo c) {n : Int} {P Q : Ts → Rd Ex} (hP : Sf P) (h : Sim a c P Q) : ∀ (f f' : Nat) (e : Ex) (l : Ts) (e' : Ex) (r : Ts), l.length ≤ f → l.length + c.length ≤ f' → rowL n P f e l = .ok (e', r) →
    rowL n Q f' e (shL a l ++ c) = .ok (e', shL a r ++ c) ∨ ∃ x, rowL n Q f' e (shL a l ++ c) = .error (x, 21) := by
  intro f
  induction f with
  | zero =>
    intro f' e l e' r hf hf' q
    obtain rfl : l = [] := List.length_eq_zero_iff.1 (by omega)
    simp only [rowL, Except.ok.injEq, Prod.mk.injEq] at q
    obtain ⟨rfl, rfl⟩ := q
    left
    cases f' with
    | zero => rfl
    | succ f' => rw [rowL, opAt_sh a hc, Clo.op (Or.inl rfl) n]
  | succ f ih =>
    intro f' e l e' r hf hf' q
    rw [rowL] at q
    cases ho : opAt n l with
    | none =>
      rw [ho] at q
      simp only [Except.ok.injEq, Prod.mk.injEq] at q
      obtain ⟨rfl, rfl⟩ := q
      left
      cases f' with
      | zero => rfl
      | succ f' => rw [rowL, opAt_sh a hc, ho]
    | some o =>
      have hl := opAt_ne ho
      have hll : 0 < l.length := List.length_pos_iff.2 hl
      obtain ⟨f', rfl⟩ : ∃ g, f' = g + 1 := ⟨f' - 1, by omega⟩
      rw [ho] at q
      simp only [] at q
      rw [rowL, opAt_sh a hc, ho]
      simp only []
      rw [tail_sh a hl]
      cases hp : P l.tail with
      | error x => rw [hp] at q; cases q
      | ok y =>
        obtain ⟨e1, r1⟩ := y
        rw [hp] at q
        simp only [] at q
        have hs := (hP _ _ hp).length_le
        have ht : l.tail.length = l.length - 1 := List.length_tail
        simp only [] at hs
        rcases h _ _ _ hp with g | ⟨x, g⟩
        · rw [g]
          exact ih f' _ _ _ _ (by omega) (by omega) q
        · rw [g]
          exact Or.inr ⟨x, rfl⟩
theorem sh_len (a : Nat) (l c : Ts) : (shL a l ++ c).length = l.length + c.length := by simp [shL]
theorem sim_row {a : Nat} {c : Ts} (hc : Clo c) {n : Int} {P Q : Ts → Rd Ex} (hP : Sf P) (h : Sim a c P Q) : Sim a c (rowP n P) (rowP n Q) := by
  intro l e r q
  unfold rowP at q ⊢
  cases hp : P l with
  | error x => rw [hp] at q; cases q
  | ok y =>
    obtain ⟨e1, r1⟩ := y
    rw [hp] at q
    simp only [] at q
    rcases h _ _ _ hp with g | ⟨x, g⟩
    · rw [g]
      simp only []
      exact sim_rowL hc hP h _ _ _ _ _ _ (Nat.le_refl _) (by rw [sh_len]; omega) q
    · rw [g]
      exact Or.inr ⟨x, rfl⟩
theorem sim_must (a : Nat) (c : Ts) {k : Int} {s : List UInt8} {l r : Ts} (h : mustP k s l = .ok r) : mustP k s (shL a l ++ c) = .ok (shL a r ++ c) := by
  unfold mustP at h ⊢
  split at h
  · rename_i hs
    cases h
    rw [if_pos (stn_sh1 a hs), tail_sh a (stn_ne hs)]
  · cases h
theorem sim_null {a : Nat} {c : Ts} (hc : Clo c) : Sim a c nullP nullP := by
  intro l e r q
  unfold nullP at q ⊢
  rw [stn_sh a hc (by decide)]
  left
  split at q
  · rename_i hs
    rw [if_pos hs, tail_sh a (stn_ne hs)]
    split at q
    · cases q
    · rename_i r' hr; cases q; rw [sim_must a c hr]
  · rename_i hs
    rw [if_neg hs]
    split at q
    · cases q
    · rename_i r' hr; cases q; rw [sim_must a c hr]
theorem sim_test {a : Nat} {c : Ts} (hc : Clo c) {P Q : Ts → Rd Ex} (h : Sim a c P Q) : Sim a c (testP P) (testP Q) := by
  intro l e r q
  unfold testP at q ⊢
  cases hp : P l with
  | error x => rw [hp] at q; cases q
  | ok y =>
    obtain ⟨e1, r1⟩ := y
    rw [hp] at q
    simp only [] at q
    rcases h _ _ _ hp with g | ⟨x, g⟩
    · rw [g]
      simp only []
      rw [stn_sh a hc (by decide), opAt_sh a hc]
      split at q
      · rename_i hs
        rw [if_pos hs, tail_sh a (stn_ne hs)]
        split at q
        · cases q
        · rename_i u hu
          obtain ⟨u1, u2⟩ := u
          cases q
          rcases sim_null hc _ _ _ hu with g | ⟨x, g⟩
          · rw [g]; exact Or.inl rfl
          · rw [g]; exact Or.inr ⟨x, rfl⟩
      · rename_i hs
        rw [if_neg hs]
        split at q
        · rename_i ho
          cases q
          exact Or.inl rfl
        · rename_i o ho
          rw [tail_sh a (opAt_ne ho)]
          split at q
          · cases q
          · rename_i u hu
            obtain ⟨u1, u2⟩ := u
            cases q
            rcases h _ _ _ hu with g | ⟨x, g⟩
            · rw [g]; exact Or.inl rfl
            · rw [g]; exact Or.inr ⟨x, rfl⟩
    · rw [g]
      exact Or.inr ⟨x, rfl⟩
def SimO (a : Nat) (c : Ts) (p q : Option (Ts → Rd Ex)) : Prop := ∀ g', q = some g' → ∃ g, p = some g ∧ Sim a c g g'
theorem sim_ahead {a : Nat} {c : Ts} (hc : Clo c) {n : Int} {P Q : Ts → Rd Ex} {p p' : Option (Ts → Rd Ex)} (h : Sim a c P Q) (hp : SimO a c p p') : Sim a c (aheadP n P p) (aheadP n Q p') := by
  intro l e r q
  unfold aheadP at q ⊢
  rw [opAt_sh a hc]
  cases ho : opAt n l with
  | none => rw [ho] at q; exact h _ _ _ q
  | some o =>
    rw [ho] at q
    simp only [] at q ⊢
    rw [tail_sh a (opAt_ne ho)]
    cases p' with
    | none => exact Or.inr ⟨_, rfl⟩
    | some g' =>
      obtain ⟨g, rfl, hg⟩ := hp g' rfl
      simp only [] at q ⊢
      split at q
      · cases q
      · rename_i u hu
        obtain ⟨u1, u2⟩ := u
        cases q
        rcases hg _ _ _ hu with k | ⟨x, k⟩
        · rw [k]; exact Or.inl rfl
        · rw [k]; exact Or.inr ⟨x, rfl⟩
theorem sim_opsL {a : Nat} {c : Ts} (hc : Clo c) {g g' : Ts → Rd Ex} (h : Sim a c g g') : ∀ (n : Nat) (acc : List Ex), Sim a c (opsL g n acc) (opsL g' n acc)
  | 0, acc, l, e, r, q => by cases q; exact Or.inl rfl
  | n + 1, acc, l, e, r, q => by
    unfold opsL at q ⊢
    rw [stn_sh a hc (by decide)]
    split at q
    · rename_i hs
      rw [if_pos hs, tail_sh a (stn_ne hs)]
      split at q
      · cases q
      · rename_i u hu
        obtain ⟨u1, u2⟩ := u
        rcases h _ _ _ hu with k | ⟨x, k⟩
        · rw [k]; exact sim_opsL hc h n _ _ _ _ q
        · rw [k]; exact Or.inr ⟨x, rfl⟩
    · cases q
theorem sim_in {a : Nat} {c : Ts} (hc : Clo c) {g g' : Ts → Rd Ex} (h : Sim a c g g') (k : Cal) : Sim a c (inP g k) (inP g' k) := by
  intro l e r q
  unfold inP at q ⊢
  rw [stn_sh a hc (by decide)]
  split at q
  · rename_i hs
    rw [if_pos hs]
    simp only [Bool.and_eq_true] at hs
    cases q
    rw [tail_sh a (stn_ne hs.2)]
    exact Or.inl rfl
  · rename_i hs
    rw [if_neg hs]
    unfold opsP at q ⊢
    split at q
    · cases q
    · rename_i u hu
      obtain ⟨u1, u2⟩ := u
      rcases h _ _ _ hu with k | ⟨x, k⟩
      · rw [k]; exact sim_opsL hc h _ _ _ _ _ q
      · rw [k]; exact Or.inr ⟨x, rfl⟩
theorem sim_brk {α : Type} {a : Nat} {c : Ts} {p p' : Option (Ts → Rd Ex)} {h : (Ts → Rd Ex) → Ts → Rd α} (hp : SimO a c p p') (hh : ∀ g g', Sim a c g g' → Sim a c (h g) (h g')) {l : Ts} (hl : l ≠ []) {e : α} {r : Ts} (q : brkP p h l = .ok (e, r)) :
    brkP p' h (shL a l ++ c) = .ok (e, shL a r ++ c) ∨ ∃ x, brkP p' h (shL a l ++ c) = .error (x, 21) := by
  unfold brkP at q ⊢
  cases p' with
  | none => exact Or.inr ⟨_, rfl⟩
  | some g' =>
    obtain ⟨g, rfl, hg⟩ := hp g' rfl
    simp only [] at q ⊢
    rw [tail_sh a hl]
    split at q
    · cases q
    · rename_i u hu
      obtain ⟨u1, u2⟩ := u
      split at q
      · cases q
      · rename_i r' hr
        cases q
        rcases hh _ _ hg _ _ _ hu with k | ⟨x, k⟩
        · rw [k]; simp only []; rw [sim_must a c hr]; exact Or.inl rfl
        · rw [k]; exact Or.inr ⟨x, rfl⟩
theorem sim_name {a : Nat} {c : Ts} {l r : Ts} {s : List UInt8} (q : nameP l = .ok (s, r)) : nameP (shL a l ++ c) = .ok (s, shL a r ++ c) := by
  cases l with
  | nil => cases q
  | cons x r' =>
    have e : shL a (x :: r') ++ c = (x.1, x.2 + a) :: (shL a r' ++ c) := rfl
    rw [e]
    by_cases h : x.1.k = 1 ∧ nmB x.1.s = true
    · rw [nameP, if_pos h] at q ⊢; cases q; rfl
    · rw [nameP, if_neg h] at q; cases q
theorem sim_col {a : Nat} {c : Ts} (hc : Clo c) : Sim a c colP colP := by
  intro l e r q
  left
  unfold colP at q ⊢
  split at q
  · cases q
  · rename_i z hz
    obtain ⟨z1, z2⟩ := z
    rw [sim_name hz]
    simp only [] at q ⊢
    rw [stn_sh a hc (by decide)]
    split at q
    · rename_i hs
      rw [if_pos hs, tail_sh a (stn_ne hs)]
      split at q
      · cases q
      · rename_i u hu
        obtain ⟨u1, u2⟩ := u
        cases q
        rw [sim_name hu]
    · rename_i hs
      rw [if_neg hs]
      cases q
      rfl
theorem litT_sh (a : Nat) (c : Ts) (x : Tk × Nat) (r : Ts) : litT (shL a (x :: r) ++ c) = litT (x :: r) := rfl
theorem calT_sh (a : Nat) {c : Ts} (hc : Clo c) (x : Tk × Nat) (r : Ts) : calT (shL a (x :: r) ++ c) = calT (x :: r) := by
  cases r with
  | cons y r => rfl
  | nil =>
    rcases hc with rfl | ⟨z, t, rfl, hk, hs⟩
    · rfl
    · show (if x.1.k = 1 ∧ z.1.k = 5 ∧ z.1.s = [40] then calN x.1.s else none) = none
      rw [if_neg]
      rintro ⟨_, _, h⟩
      rw [hs] at h
      cases h
theorem sim_item {a : Nat} {c : Ts} (hc : Clo c) {p p' : Option (Ts → Rd Ex)} (hp : SimO a c p p') : Sim a c (itemP p) (itemP p') := by
  intro l e r q
  unfold itemP at q ⊢
  rw [stn_sh a hc (by decide)]
  split at q
  · rename_i hs
    rw [if_pos hs]
    exact sim_brk hp (fun g g' h => h) (stn_ne hs) q
  · rename_i hs
    rw [if_neg hs]
    cases l with
    | nil => cases q
    | cons x r' =>
      rw [litT_sh, calT_sh a hc]
      split at q
      · rename_i v hv
        cases q
        rw [tail_sh a (by simp)]
        exact Or.inl rfl
      · rename_i hv
        split at q
        · rename_i k hk
          rw [tail_sh a (by simp)]
          have hne : (x :: r').tail ≠ [] := by
            cases r' with
            | nil => cases hk
            | cons y r'' => simp
          split at q
          · cases q
          · rename_i u hu
            obtain ⟨u1, u2⟩ := u
            cases q
            rcases sim_brk hp (fun g g' h => sim_in hc h k) hne hu with j | ⟨z, j⟩
            · rw [j]; exact Or.inl rfl
            · rw [j]; exact Or.inr ⟨z, rfl⟩
        · exact sim_col hc _ _ _ q
def SimL (a : Nat) (c : Ts) (p q : Lns) : Prop := Sim a c p.sg q.sg ∧ Sim a c p.nt q.nt ∧ Sim a c p.orr q.orr
def SimLO (a : Nat) (c : Ts) (p q : Option Lns) : Prop := ∀ y, q = some y → ∃ x, p = some x ∧ SimL a c x y
theorem simO_map {a : Nat} {c : Ts} {p q : Option Lns} {f : Lns → Ts → Rd Ex} (h : SimLO a c p q) (hf : ∀ x y, SimL a c x y → Sim a c (f x) (f y)) : SimO a c (p.map f) (q.map f) := by
  intro g' hg
  cases q with
  | none => cases hg
  | some y =>
    cases hg
    obtain ⟨x, rfl, hx⟩ := h y rfl
    exact ⟨f x, rfl, hf _ _ hx⟩
theorem sf_sign {p : Option Lns} (h : ∀ q, p = some q → SfL q) : Sf (signP p) := sf_ahead (sf_item (sfo_map fun q hq => (h q hq).2.2)) (sfo_map fun q hq => (h q hq).1)
theorem sf_cat {p : Option Lns} (h : ∀ q, p = some q → SfL q) : Sf (catP p) := sf_row (sf_row (sf_row (sf_sign h)))
theorem sf_not {p : Option Lns} (h : ∀ q, p = some q → SfL q) : Sf (notP p) := sf_ahead (sf_test (sf_cat h)) (sfo_map fun q hq => (h q hq).2.1)
theorem sim_mkL {a : Nat} {c : Ts} (hc : Clo c) {p q : Option Lns} (hs : ∀ y, p = some y → SfL y) (h : SimLO a c p q) : SimL a c (mkL p) (mkL q) := by
  have s1 : Sf (signP p) := sf_sign hs
  have h1 : Sim a c (signP p) (signP q) := sim_ahead hc (sim_item hc (simO_map h fun x y k => k.2.2)) (simO_map h fun x y k => k.1)
  have h2 : Sim a c (notP p) (notP q) := sim_ahead hc (sim_test hc (sim_row hc (sf_row (sf_row s1)) (sim_row hc (sf_row s1) (sim_row hc s1 h1)))) (simO_map h fun x y k => k.2.1)
  exact ⟨h1, h2, sim_row hc (sf_row (sf_not hs)) (sim_row hc (sf_not hs) h2)⟩
/-- Deeper it is the same, or too deep. -/
theorem sim_lns {a : Nat} {c : Ts} (hc : Clo c) : ∀ (d D : Nat), d ≤ D → SimL a c (lns D) (lns d) := by
  intro d
  induction d with
  | zero =>
    intro D _
    rw [lns_eq D, lns_eq 0]
    exact sim_mkL hc (fun y hy => sf_prv hy) (fun y hy => by cases hy)
  | succ d ih =>
    intro D hD
    obtain ⟨E, rfl⟩ : ∃ E, D = E + 1 := ⟨D - 1, by omega⟩
    exact sim_mkL hc (fun y hy => by cases hy; exact sf_lns E) (fun y hy => by cases hy; exact ⟨_, rfl, ih E (by omega)⟩)

/-! ### An item, and nothing behind it -/
/-- Nothing behind goes on with an expression. -/
def Stp (r : Ts) : Prop := (∀ n, opAt n r = none) ∧ stn 1 [105, 115] r = false
theorem Clo.stp {c : Ts} (h : Clo c) : Stp c := ⟨h.op, h.stn (by decide)⟩
theorem row_ok {n : Int} {P : Ts → Rd Ex} {l r : Ts} {e : Ex} (h : P l = .ok (e, r)) (hr : opAt n r = none) : rowP n P l = .ok (e, r) := by
  unfold rowP
  rw [h]
  simp only []
  cases hl : r.length with
  | zero => rfl
  | succ f => rw [rowL, hr]
theorem row_err {n : Int} {P : Ts → Rd Ex} {l : Ts} {z : Ts × Int} (h : P l = .error z) : rowP n P l = .error z := by
  unfold rowP
  rw [h]
theorem test_ok {P : Ts → Rd Ex} {l r : Ts} {e : Ex} (h : P l = .ok (e, r)) (hr : Stp r) : testP P l = .ok (e, r) := by
  unfold testP
  rw [h]
  simp only []
  rw [hr.2, hr.1 4]
  rfl
theorem test_err {P : Ts → Rd Ex} {l : Ts} {z : Ts × Int} (h : P l = .error z) : testP P l = .error z := by
  unfold testP
  rw [h]
theorem ahead_no {n : Int} {P : Ts → Rd Ex} {p : Option (Ts → Rd Ex)} {l : Ts} (h : opAt n l = none) : aheadP n P p l = P l := by
  unfold aheadP
  rw [h]
/-- From the row of sums on. -/
theorem up_sum {p : Option Lns} {l r : Ts} {e : Ex} (h3 : opAt 3 l = none) (h : rowP 6 (rowP 7 (signP p)) l = .ok (e, r)) (hr : Stp r) : (mkL p).nt l = .ok (e, r) ∧ (mkL p).orr l = .ok (e, r) := by
  have hn : notP p l = .ok (e, r) := by
    unfold notP
    rw [ahead_no h3]
    exact test_ok (row_ok h (hr.1 5)) hr
  exact ⟨hn, row_ok (row_ok hn (hr.1 2)) (hr.1 1)⟩
theorem up_ok {p : Option Lns} {l r : Ts} {e : Ex} (h3 : opAt 3 l = none) (h8 : opAt 8 l = none) (h : itemP (p.map (·.orr)) l = .ok (e, r)) (hr : Stp r) : (mkL p).sg l = .ok (e, r) ∧ (mkL p).nt l = .ok (e, r) ∧ (mkL p).orr l = .ok (e, r) := by
  have hs : signP p l = .ok (e, r) := by
    unfold signP
    rw [ahead_no h8]
    exact h
  have h2 := up_sum h3 (row_ok (row_ok hs (hr.1 7)) (hr.1 6)) hr
  exact ⟨hs, h2.1, h2.2⟩
theorem up_err {p : Option Lns} {l : Ts} {z : Ts × Int} (h3 : opAt 3 l = none) (h8 : opAt 8 l = none) (h : itemP (p.map (·.orr)) l = .error z) : (mkL p).sg l = .error z ∧ (mkL p).nt l = .error z ∧ (mkL p).orr l = .error z := by
  have hs : signP p l = .error z := by
    unfold signP
    rw [ahead_no h8]
    exact h
  have hn : notP p l = .error z := by
    unfold notP
    rw [ahead_no h3]
    exact test_err (row_err (row_err (row_err hs)))
  exact ⟨hs, hn, row_err (row_err hn)⟩
theorem opAt_head {n : Int} {x : Tk × Nat} {r : Ts} (h : ∀ o ∈ oprs, o.line = n → ¬ (x.1.k = o.tok ∧ x.1.s = o.txt)) : opAt n (x :: r) = none := by
  unfold opAt
  rw [List.find?_eq_none]
  intro o ho hq
  simp only [Bool.and_eq_true, beq_iff_eq, stn] at hq
  exact h o ho hq.1 ⟨hq.2.1, hq.2.2⟩
/-- At a bracket that opens. -/
theorem op_open {x : Tk × Nat} (r : Ts) (h : x.1.s = [40]) (n : Int) : opAt n (x :: r) = none := by
  have h' : (oprs.all fun o => !(o.txt == [40])) = true := rfl
  refine opAt_head fun o ho _ q => ?_
  have := List.all_eq_true.1 h' o ho
  rw [← q.2, h] at this
  simp at this
/-- In brackets. -/
theorem brk_ok {d : Nat} {x y : Tk × Nat} {l c : Ts} {e : Ex} (hx : x.1.k = 5 ∧ x.1.s = [40]) (hy : y.1.k = 5 ∧ y.1.s = [41]) (hc : Stp c) (h : (lns d).orr (l ++ y :: c) = .ok (e, y :: c)) :
    (lns (d + 1)).nt (x :: (l ++ y :: c)) = .ok (e, c) ∧ (lns (d + 1)).orr (x :: (l ++ y :: c)) = .ok (e, c) := by
  have hi : itemP ((some (lns d)).map (·.orr)) (x :: (l ++ y :: c)) = .ok (e, c) := by
    unfold itemP
    rw [if_pos (by simp [stn, hx])]
    unfold brkP
    simp only [Option.map_some, List.tail_cons]
    rw [h]
    simp only []
    unfold mustP
    rw [if_pos (by simp [stn, hy])]
    rfl
  have := up_ok (p := some (lns d)) (op_open _ hx.2 3) (op_open _ hx.2 8) hi hc
  exact ⟨this.2.1, this.2.2⟩
theorem brk_err {d : Nat} {x : Tk × Nat} {l : Ts} {z : Ts × Int} (hx : x.1.k = 5 ∧ x.1.s = [40]) (h : (lns d).orr l = .error z) :
    (lns (d + 1)).nt (x :: l) = .error z ∧ (lns (d + 1)).orr (x :: l) = .error z := by
  have hi : itemP ((some (lns d)).map (·.orr)) (x :: l) = .error z := by
    unfold itemP
    rw [if_pos (by simp [stn, hx])]
    unfold brkP
    simp only [Option.map_some, List.tail_cons]
    rw [h]
  have := up_err (p := some (lns d)) (op_open _ hx.2 3) (op_open _ hx.2 8) hi
  exact ⟨this.2.1, this.2.2⟩
/-- Brackets about a whole expression. -/
theorem one_pair {xs : Ts} {e : Ex} (h : (lns 32).orr xs = .ok (e, [])) (i j : Nat) : (lns 32).orr ((⟨5, [40], 0⟩, i) :: (shL 1 xs ++ [(⟨5, [41], 0⟩, j)])) = .ok (e, []) ∨ ∃ x, (lns 32).orr ((⟨5, [40], 0⟩, i) :: (shL 1 xs ++ [(⟨5, [41], 0⟩, j)])) = .error (x, 21) := by
  have hc : Clo [((⟨5, [41], 0⟩ : Tk), j)] := Or.inr ⟨_, _, rfl, rfl, rfl⟩
  rcases (sim_lns (a := 1) hc 31 32 (by omega)).2.2 _ _ _ h with g | ⟨x, g⟩
  · exact Or.inl (brk_ok (d := 31) ⟨rfl, rfl⟩ ⟨rfl, rfl⟩ (Clo.stp (Or.inl rfl)) g).2
  · exact Or.inr ⟨x, (brk_err (d := 31) ⟨rfl, rfl⟩ g).2⟩
theorem two_pairs {xs : Ts} {e : Ex} (h : (lns 32).orr xs = .ok (e, [])) (i i' j j' : Nat) : (lns 32).orr ((⟨5, [40], 0⟩, i) :: (⟨5, [40], 0⟩, i') :: (shL 2 xs ++ [(⟨5, [41], 0⟩, j), (⟨5, [41], 0⟩, j')])) = .ok (e, []) ∨ ∃ x, (lns 32).orr ((⟨5, [40], 0⟩, i) :: (⟨5, [40], 0⟩, i') :: (shL 2 xs ++ [(⟨5, [41], 0⟩, j), (⟨5, [41], 0⟩, j')])) = .error (x, 21) := by
  have hc : Clo [((⟨5, [41], 0⟩ : Tk), j), (⟨5, [41], 0⟩, j')] := Or.inr ⟨_, _, rfl, rfl, rfl⟩
  have hc2 : Clo [((⟨5, [41], 0⟩ : Tk), j')] := Or.inr ⟨_, _, rfl, rfl, rfl⟩
  rcases (sim_lns (a := 2) hc 30 32 (by omega)).2.2 _ _ _ h with g | ⟨x, g⟩
  · have g1 := (brk_ok (d := 30) (x := (⟨5, [40], 0⟩, i')) ⟨rfl, rfl⟩ ⟨rfl, rfl⟩ hc2.stp g).2
    have e1 : (⟨5, [40], 0⟩, i') :: (shL 2 xs ++ [((⟨5, [41], 0⟩ : Tk), j), (⟨5, [41], 0⟩, j')]) = ((⟨5, [40], 0⟩, i') :: (shL 2 xs ++ [((⟨5, [41], 0⟩ : Tk), j)])) ++ [(⟨5, [41], 0⟩, j')] := by simp
    rw [e1] at g1
    rw [e1]
    exact Or.inl (brk_ok (d := 31) ⟨rfl, rfl⟩ ⟨rfl, rfl⟩ (Clo.stp (Or.inl rfl)) g1).2
  · exact Or.inr ⟨x, (brk_err (d := 31) ⟨rfl, rfl⟩ (brk_err (d := 30) ⟨rfl, rfl⟩ g).2).2⟩
end Go.Proofs.YtekapdpfbkdflaaGreatDoor
namespace Go.Proofs.YtekapdpfbkdflaaGreatDoor
open Go.Lib
set_option linter.unusedVariables false

theorem wrapB_len (n : Int) (x : Int × List UInt8) : (wrapB n x).length ≤ x.2.length + 2 := by
  unfold wrapB
  split <;> simp
theorem oprs_tx3 : ∀ o ∈ oprs, o.txt.length ≤ 3 := by decide
theorem cals_nm8 : ∀ c ∈ cals, c.name.length ≤ 8 := by decide
theorem up_len (l : List UInt8) : (toUpperA l).length = l.length := by simp [toUpperA]
def sumL : List (Int × List UInt8) → Nat
  | [] => 0
  | x :: r => x.2.length + 4 + sumL r
theorem joinT_len : ∀ xs, (joinC.joinT xs).length ≤ sumL xs
  | [] => Nat.zero_le _
  | x :: r => by
    have := joinT_len r
    simp only [joinC.joinT, List.length_cons, List.length_append, sumL]
    omega
theorem joinC_len : ∀ xs, (joinC xs).length ≤ sumL xs
  | [] => Nat.zero_le _
  | x :: r => by
    have := joinT_len r
    simp only [joinC, List.length_append, sumL]
    omega
theorem nullB_len (op : Int) : (nullB op).length ≤ 12 := by
  unfold nullB
  split <;> simp
theorem colB_len (t n : List UInt8) : (colB t n).length ≤ t.length + n.length + 1 := by
  unfold colB
  split
  · omega
  · simp only [List.length_append, List.length_cons]; omega
theorem prB_len (k op : Int) (v : Val) (t n : List UInt8) (xs : List (Int × List UInt8)) : (prB k op v t n xs).length ≤ (litV v).length + t.length + n.length + 30 + sumL xs := by
  unfold prB
  split
  · simp
  · split
    · omega
    · split
      · have := colB_len t n
        omega
      · split
        · cases ho : opOf k op with
          | none => exact Nat.zero_le _
          | some o =>
            cases xs with
            | nil => exact Nat.zero_le _
            | cons x r =>
              have h1 := oprs_tx3 o (List.mem_of_find?_eq_some ho)
              have h2 := wrapB_len o.line x
              show (toUpperA o.txt ++ 32 :: wrapB o.line x).length ≤ _
              simp only [List.length_append, List.length_cons, up_len, sumL]
              omega
        · split
          · cases ho : opOf k op with
            | none => exact Nat.zero_le _
            | some o =>
              match xs with
              | [] => exact Nat.zero_le _
              | [x] => exact Nat.zero_le _
              | x :: y :: r =>
                have h1 := oprs_tx3 o (List.mem_of_find?_eq_some ho)
                have h2 := wrapB_len (if o.line = 4 then 5 else o.line) x
                have h3 := wrapB_len (o.line + 1) y
                show (wrapB (if o.line = 4 then 5 else o.line) x ++ 32 :: (toUpperA o.txt ++ 32 :: wrapB (o.line + 1) y)).length ≤ _
                simp only [List.length_append, List.length_cons, up_len, sumL]
                omega
          · split
            · cases xs with
              | nil => exact Nat.zero_le _
              | cons x r =>
                have h2 := wrapB_len 5 x
                have h3 := nullB_len op
                show (wrapB 5 x ++ nullB op).length ≤ _
                simp only [List.length_append, sumL]
                omega
            · split
              · rename_i c hc
                have h1 := cals_nm8 c (List.mem_of_find?_eq_some hc)
                have h2 := joinC_len xs
                simp only [List.length_append, List.length_cons, List.length_nil, up_len]
                split
                · simp only [List.length_cons, List.length_nil]; omega
                · omega
              · simp
def sumE : List Ex → Nat
  | [] => 0
  | x :: r => (prE x).length + 4 + sumE r
theorem sumE_L : ∀ xs : List Ex, sumL (xs.map fun x => (x.line, prE x)) = sumE xs
  | [] => rfl
  | x :: r => by simp only [List.map_cons, sumL, sumE, sumE_L r]
theorem sumE_snoc (y : Ex) : ∀ xs : List Ex, sumE (xs ++ [y]) = sumE xs + (prE y).length + 4
  | [] => by simp [sumE]
  | x :: r => by simp only [List.cons_append, sumE, sumE_snoc y r]; omega
theorem prE_len (e : Ex) : (prE e).length ≤ (litV e.v).length + e.t.length + e.n.length + 30 + sumE e.xs := by
  rw [prE_eq, ← sumE_L]
  exact prB_len ..
theorem litV_v0 : (litV v0).length = 4 := rfl
theorem pr_mk (k op : Int) (xs : List Ex) : (prE (mkE k op xs)).length ≤ 34 + sumE xs := by
  have := prE_len (mkE k op xs)
  have h0 := litV_v0
  simp only [mkE, List.length_nil] at this ⊢
  omega
theorem pr_one (k op : Int) (x : Ex) : (prE (mkE k op [x])).length ≤ (prE x).length + 38 := by
  have := pr_mk k op [x]
  simp only [sumE] at this
  omega
theorem pr_two (k op : Int) (x y : Ex) : (prE (mkE k op [x, y])).length ≤ (prE x).length + (prE y).length + 42 := by
  have := pr_mk k op [x, y]
  simp only [sumE] at this
  omega
theorem pr_lit (v : Val) : (prE (litE v)).length ≤ (litV v).length + 30 := by
  have := prE_len (litE v)
  simp only [litE, sumE, List.length_nil] at this ⊢
  omega
theorem pr_col (t n : List UInt8) : (prE (colE t n)).length ≤ t.length + n.length + 34 := by
  have := prE_len (colE t n)
  have h0 := litV_v0
  simp only [colE, sumE] at this ⊢
  omega
/-- Words of no great length. -/
def Sh (l : Ts) : Prop := ∀ x ∈ l, x.1.s.length ≤ 16384 ∧ -9223372036854775808 ≤ x.1.n ∧ x.1.n ≤ 9223372036854775807
theorem Sh.suf {l r : Ts} (h : Sh l) (s : r <:+ l) : Sh r := fun x hx => h x (s.subset hx)
theorem Sh.tail {l : Ts} (h : Sh l) : Sh l.tail := h.suf (List.tail_suffix l)
theorem stn_len {k : Int} {s : List UInt8} {l : Ts} (h : stn k s l = true) : l.tail.length + 1 = l.length := by
  cases l with
  | nil => cases h
  | cons x r => rfl
theorem opAt_pos {n : Int} {l : Ts} {o : Opr} (h : opAt n l = some o) : l.tail.length + 1 = l.length := by
  cases l with
  | nil =>
    have := List.find?_some h
    simp [stn] at this
  | cons x r => rfl
theorem must_pos {k : Int} {s : List UInt8} {l r : Ts} (h : mustP k s l = .ok r) : r.length + 1 = l.length := by
  unfold mustP at h
  split at h
  · rename_i hs; cases h; exact stn_len hs
  · cases h
def Wt (P : Ts → Rd Ex) : Prop := ∀ l e r, Sh l → P l = .ok (e, r) → (prE e).length + 40000 * r.length ≤ 40000 * l.length
theorem wt_rowL {n : Int} {P : Ts → Rd Ex} (h : Wt P) (hs : Sf P) (M : Nat) : ∀ (f : Nat) (e : Ex) (l : Ts) (e' : Ex) (r : Ts), Sh l → (prE e).length + 40000 * l.length ≤ M → rowL n P f e l = .ok (e', r) → (prE e').length + 40000 * r.length ≤ M
  | 0, e, l, e', r, hl, he, q => by cases q; exact he
  | f + 1, e, l, e', r, hl, he, q => by
    unfold rowL at q
    split at q
    · cases q; exact he
    · rename_i o ho
      split at q
      · cases q
      · rename_i z hz
        obtain ⟨z1, z2⟩ := z
        have h1 := opAt_pos ho
        have h2 := h _ _ _ hl.tail hz
        have h3 := pr_two o.kind o.op e z1
        exact wt_rowL h hs M f _ _ _ _ (hl.tail.suf (hs _ _ hz)) (by show _ + 40000 * z2.length ≤ M; show (prE (mkE o.kind o.op [e, z1])).length + _ ≤ M; omega) q
theorem wt_row {n : Int} {P : Ts → Rd Ex} (h : Wt P) (hs : Sf P) : Wt (rowP n P) := by
  intro l e r hl q
  unfold rowP at q
  split at q
  · cases q
  · rename_i z hz
    obtain ⟨z1, z2⟩ := z
    exact wt_rowL h hs _ _ _ _ _ _ (hl.suf (hs _ _ hz)) (h _ _ _ hl hz) q
theorem null_len {l r : Ts} {i : Int} (q : nullP l = .ok (i, r)) : r.length + 1 ≤ l.length := by
  unfold nullP at q
  split at q
  · rename_i hs
    have h0 := stn_len hs
    split at q
    · cases q
    · rename_i u hu; cases q; have := must_pos hu; omega
  · split at q
    · cases q
    · rename_i u hu; cases q; have := must_pos hu; omega
theorem wt_test {P : Ts → Rd Ex} (h : Wt P) (hs : Sf P) : Wt (testP P) := by
  intro l e r hl q
  unfold testP at q
  split at q
  · cases q
  · rename_i z hz
    obtain ⟨z1, z2⟩ := z
    have h1 := h _ _ _ hl hz
    have h2 := hl.suf (hs _ _ hz)
    split at q
    · rename_i hst
      have h3 := stn_len hst
      split at q
      · cases q
      · rename_i u hu
        obtain ⟨u1, u2⟩ := u
        cases q
        have h4 := null_len hu
        have h5 := pr_one 7 u1 z1
        simp only [] at *
        omega
    · split at q
      · cases q; exact h1
      · rename_i o ho
        split at q
        · cases q
        · rename_i u hu
          obtain ⟨u1, u2⟩ := u
          cases q
          have h3 := opAt_pos ho
          have h4 := h _ _ _ h2.tail hu
          have h5 := pr_two o.kind o.op z1 u1
          simp only [] at *
          omega
def WtO (p : Option (Ts → Rd Ex)) : Prop := ∀ g, p = some g → Wt g
theorem wt_ahead {n : Int} {P : Ts → Rd Ex} {p : Option (Ts → Rd Ex)} (h : Wt P) (hp : WtO p) : Wt (aheadP n P p) := by
  intro l e r hl q
  unfold aheadP at q
  split at q
  · exact h _ _ _ hl q
  · rename_i o ho
    split at q
    · cases q
    · rename_i g
      split at q
      · cases q
      · rename_i z hz
        obtain ⟨z1, z2⟩ := z
        cases q
        have h1 := opAt_pos ho
        have h2 := hp g rfl _ _ _ hl.tail hz
        have h3 := pr_one o.kind o.op z1
        simp only [] at *
        omega
theorem wt_opsL {g : Ts → Rd Ex} (h : Wt g) (hs : Sf g) (M : Nat) : ∀ (n : Nat) (acc : List Ex) (l : Ts) (es : List Ex) (r : Ts), Sh l → sumE acc + 40000 * l.length ≤ M → opsL g n acc l = .ok (es, r) → sumE es + 40000 * r.length ≤ M
  | 0, acc, l, es, r, hl, ha, q => by cases q; exact ha
  | n + 1, acc, l, es, r, hl, ha, q => by
    unfold opsL at q
    split at q
    · rename_i hst
      split at q
      · cases q
      · rename_i z hz
        obtain ⟨z1, z2⟩ := z
        have h1 := stn_len hst
        have h2 := h _ _ _ hl.tail hz
        have h3 := sumE_snoc z1 acc
        exact wt_opsL h hs M n _ _ _ _ (hl.tail.suf (hs _ _ hz)) (by show sumE (acc ++ [z1]) + 40000 * z2.length ≤ M; omega) q
    · cases q
theorem wt_in {g : Ts → Rd Ex} (h : Wt g) (hs : Sf g) {c : Cal} {l : Ts} {es : List Ex} {r : Ts} (hl : Sh l) (q : inP g c l = .ok (es, r)) : sumE es + 40000 * r.length ≤ 40000 * l.length + 4 := by
  unfold inP at q
  split at q
  · cases q
    have : l.tail.length ≤ l.length := by simp
    simp only [sumE]
    omega
  · unfold opsP at q
    split at q
    · cases q
    · rename_i z hz
      obtain ⟨z1, z2⟩ := z
      have h2 := h _ _ _ hl hz
      exact wt_opsL h hs _ _ _ _ _ _ (hl.suf (hs _ _ hz)) (by show sumE [z1] + 40000 * z2.length ≤ _; simp only [sumE]; omega) q
theorem brk_len {α : Type} {p : Option (Ts → Rd Ex)} {h : (Ts → Rd Ex) → Ts → Rd α} {l : Ts} {a : α} {r : Ts} (q : brkP p h l = .ok (a, r)) : ∃ g r', p = some g ∧ h g l.tail = .ok (a, r') ∧ r.length + 1 = r'.length := by
  unfold brkP at q
  split at q
  · cases q
  · rename_i g
    split at q
    · cases q
    · rename_i z hz
      obtain ⟨z1, z2⟩ := z
      split at q
      · cases q
      · rename_i u hu; cases q; exact ⟨g, _, rfl, hz, must_pos hu⟩
theorem name_len {l r : Ts} {s : List UInt8} (hl : Sh l) (q : nameP l = .ok (s, r)) : s.length ≤ 16384 ∧ r.length + 1 = l.length := by
  cases l with
  | nil => cases q
  | cons x l =>
    by_cases h : x.1.k = 1 ∧ nmB x.1.s = true
    · rw [nameP, if_pos h] at q; cases q; exact ⟨(hl x (List.mem_cons_self ..)).1, rfl⟩
    · rw [nameP, if_neg h] at q; cases q
theorem wt_col : Wt colP := by
  intro l e r hl q
  unfold colP at q
  split at q
  · cases q
  · rename_i z hz
    obtain ⟨z1, z2⟩ := z
    have h1 := name_len hl hz
    split at q
    · rename_i hst
      have h2 := stn_len hst
      split at q
      · cases q
      · rename_i u hu
        obtain ⟨u1, u2⟩ := u
        cases q
        have h3 := name_len (hl.suf ((suf_tail).trans (sf_name _ _ hz))) hu
        have h4 := pr_col z1 u1
        simp only [] at *
        omega
    · cases q
      have h4 := pr_col [] z1
      simp only [List.length_nil] at *
      omega
theorem litV_num_len {n : Int} (h : -9223372036854775808 ≤ n ∧ n ≤ 9223372036854775807) : (litV ⟨2, n, ⟨#[]⟩⟩).length ≤ 21 := by
  rw [litV_num]
  unfold itoa
  split
  · simp only [List.length_cons]
    rw [decDigits_length]
    have := nDigits_le20 n.natAbs (by omega)
    omega
  · rw [decDigits_length]
    have := nDigits_le20 n.toNat (by omega)
    omega
theorem litV_len (a : Val) (h : a.k ≠ 2) : (litV a).length ≤ 2 * a.s.data.toList.length + 10 := by
  have h1 := rep_length_le a.s.data.toList
  have h2 := hexL_length a.s.data.toList
  unfold litV
  split
  · simp
  · split
    · split <;> simp
    · split
      · simp only [List.length_cons, List.length_append, List.length_nil]; omega
      · split
        · simp only [List.length_cons, List.length_append, List.length_nil]; omega
        · simp
theorem litT_len {l : Ts} (hl : Sh l) {v : Val} (h : litT l = some v) : (litV v).length ≤ 32800 ∧ l.tail.length + 1 = l.length := by
  cases l with
  | nil => cases h
  | cons x r =>
    have hx := hl x (List.mem_cons_self ..)
    refine ⟨?_, rfl⟩
    unfold litT at h
    simp only [] at h
    split at h
    · cases h
      have := litV_num_len hx.2
      omega
    · split at h
      · cases h
        have := litV_len ⟨3, 0, ⟨x.1.s.toArray⟩⟩ (by show (3 : Int) ≠ 2; decide)
        simp only at this
        omega
      · split at h
        · cases h
          have := litV_len ⟨4, 0, ⟨x.1.s.toArray⟩⟩ (by show (4 : Int) ≠ 2; decide)
          simp only at this
          omega
        · split at h
          · split at h
            · cases h; decide
            · split at h
              · cases h; decide
              · split at h
                · cases h; decide
                · cases h
          · cases h
theorem calT_len {l : Ts} {c : Cal} (h : calT l = some c) : l.tail.tail.length + 2 = l.length := by
  match l, h with
  | x :: y :: r, h => rfl
theorem wt_item {p : Option (Ts → Rd Ex)} (hp : WtO p) (hs : SfO p) : Wt (itemP p) := by
  intro l e r hl q
  unfold itemP at q
  split at q
  · rename_i hst
    have h0 := stn_len hst
    obtain ⟨g, r', hg, q', h1⟩ := brk_len q
    have h2 := hp g hg _ _ _ hl.tail q'
    omega
  · split at q
    · rename_i v hv
      cases q
      have h1 := litT_len hl hv
      have h2 := pr_lit v
      omega
    · split at q
      · rename_i c hc
        split at q
        · cases q
        · rename_i z hz
          obtain ⟨z1, z2⟩ := z
          cases q
          obtain ⟨g, r', hg, q', h1⟩ := brk_len hz
          have h0 := calT_len hc
          have h2 := wt_in (hp g hg) (hs g hg) hl.tail.tail q'
          have h3 := pr_mk c.kind c.op z1
          simp only [] at *
          omega
      · exact wt_col _ _ _ hl q
def WtL (p : Lns) : Prop := Wt p.sg ∧ Wt p.nt ∧ Wt p.orr
theorem wtO_map {p : Option Lns} {f : Lns → Ts → Rd Ex} (h : ∀ q, p = some q → Wt (f q)) : WtO (p.map f) := by
  intro g hg
  cases p with
  | none => cases hg
  | some q => cases hg; exact h q rfl
theorem wt_mkL {p : Option Lns} (hs : ∀ q, p = some q → SfL q) (h : ∀ q, p = some q → WtL q) : WtL (mkL p) := by
  have s1 : Sf (signP p) := sf_ahead (sf_item (sfo_map fun q hq => (hs q hq).2.2)) (sfo_map fun q hq => (hs q hq).1)
  have s2 : Sf (catP p) := sf_row (sf_row (sf_row s1))
  have s3 : Sf (notP p) := sf_ahead (sf_test s2) (sfo_map fun q hq => (hs q hq).2.1)
  have h1 : Wt (signP p) := wt_ahead (wt_item (wtO_map fun q hq => (h q hq).2.2) (sfo_map fun q hq => (hs q hq).2.2)) (wtO_map fun q hq => (h q hq).1)
  have h2 : Wt (catP p) := wt_row (wt_row (wt_row h1 s1) (sf_row s1)) (sf_row (sf_row s1))
  have h3 : Wt (notP p) := wt_ahead (wt_test h2 s2) (wtO_map fun q hq => (h q hq).2.1)
  exact ⟨h1, h3, wt_row (wt_row h3 s3) (sf_row s3)⟩
theorem wt_lns : ∀ d, WtL (lns d)
  | 0 => wt_mkL (fun q hq => by cases hq) (fun q hq => by cases hq)
  | d + 1 => wt_mkL (fun q hq => by cases hq; exact sf_lns d) (fun q hq => by cases hq; exact wt_lns d)

/-! ### Words in brackets -/
theorem toksOf_op (m : List UInt8) {T : Ts} (h : toksOf m = .ok T) : toksOf (40 :: m) = .ok ((⟨5, [40], 0⟩, 0) :: shL 1 T) := by
  unfold toksOf at h ⊢
  show toks (m.length + 1 + 1) (40 :: m) 0 = _
  rw [toks_op, toks_sh 1, h]
  rfl
theorem lex_one {l : List UInt8} {T : Ts} (h : lexR l = .ok T) (hl : l.length ≤ 4000) : ∃ i j, lexR (40 :: (l ++ [10, 41])) = .ok ((⟨5, [40], 0⟩, i) :: (shL 1 T ++ [(⟨5, [41], 0⟩, j)])) := by
  have h1 := toksOf_op _ (toksOf_cat (lexR_ok h).2 (show toksOf [41] = .ok [(⟨5, [41], 0⟩, 0)] from rfl))
  exact ⟨0, 0 + (l.length + 1) + 1, lexR_of (by simp; omega) (h1.trans (by simp [shL]))⟩
theorem lex_two {l : List UInt8} {T : Ts} (h : lexR l = .ok T) (hl : l.length ≤ 4000) : ∃ i i' j j', lexR (40 :: 40 :: (l ++ [10, 41, 41])) = .ok ((⟨5, [40], 0⟩, i) :: (⟨5, [40], 0⟩, i') :: (shL 2 T ++ [(⟨5, [41], 0⟩, j), (⟨5, [41], 0⟩, j')])) := by
  have h1 := toksOf_op _ (toksOf_op _ (toksOf_cat (lexR_ok h).2 (show toksOf [41, 41] = .ok [(⟨5, [41], 0⟩, 0), (⟨5, [41], 0⟩, 1)] from rfl)))
  exact ⟨0, 0 + 1, 0 + (l.length + 1) + 1 + 1, 1 + (l.length + 1) + 1 + 1, lexR_of (by simp; omega) (h1.trans (by simp [shL]))⟩
end Go.Proofs.YtekapdpfbkdflaaGreatDoor
