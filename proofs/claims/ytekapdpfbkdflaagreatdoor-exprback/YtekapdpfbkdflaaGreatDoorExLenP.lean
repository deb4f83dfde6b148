/- Plain mathematics of expressions: what is read is written within a bound of its words; and the words of a text in brackets. No program is named here. No conditions. -/
import Derived.Test.YtekapdpfbkdflaaGreatDoorExPrP
import Derived.Test.YtekapdpfbkdflaaGreatDoorExSimP
import Derived.Test.YtekapdpfbkdflaaGreatDoorExOkP
import Derived.Test.YtekapdpfbkdflaaGreatDoorExLeftP
import Derived.Test.YtekapdpfbkdflaaGreatDoorLxCatP
import Derived.Test.YtekapdpfbkdflaaGreatDoorLxTkR
import Derived.Lib.ItoaLen
namespace Go.Proofs.YtekapdpfbkdflaaGreatDoor
open Go.Lib
set_option linter.unusedVariables false

theorem wrapB_len (n : Int) (x : Int × List UInt8) : (wrapB n x).length ≤ x.2.length + 2 := by
  unfold wrapB
  split <;> simp
theorem oprs_tx3 : ∀ o ∈ oprs, o.txt.length ≤ 3 := by decide
theorem cals_nm8 : ∀ c ∈ cals, c.name.length ≤ 8 := by decide
theorem up_len (l : List UInt8) : (toUpperA l).length = l.length := by simp [toUpperA]
def sumL : List (Int × List UInt8) → Nat
  | [] => 0
  | x :: r => x.2.length + 4 + sumL r
theorem joinT_len : ∀ xs, (joinC.joinT xs).length ≤ sumL xs
  | [] => Nat.zero_le _
  | x :: r => by
    have := joinT_len r
    simp only [joinC.joinT, List.length_cons, List.length_append, sumL]
    omega
theorem joinC_len : ∀ xs, (joinC xs).length ≤ sumL xs
  | [] => Nat.zero_le _
  | x :: r => by
    have := joinT_len r
    simp only [joinC, List.length_append, sumL]
    omega
theorem nullB_len (op : Int) : (nullB op).length ≤ 12 := by
  unfold nullB
  split <;> simp
theorem colB_len (t n : List UInt8) : (colB t n).length ≤ t.length + n.length + 1 := by
  unfold colB
  split
  · omega
  · simp only [List.length_append, List.length_cons]; omega
theorem prB_len (k op : Int) (v : Val) (t n : List UInt8) (xs : List (Int × List UInt8)) : (prB k op v t n xs).length ≤ (litV v).length + t.length + n.length + 30 + sumL xs := by
  unfold prB
  split
  · simp
  · split
    · omega
    · split
      · have := colB_len t n
        omega
      · split
        · cases ho : opOf k op with
          | none => exact Nat.zero_le _
          | some o =>
            cases xs with
            | nil => exact Nat.zero_le _
            | cons x r =>
              have h1 := oprs_tx3 o (List.mem_of_find?_eq_some ho)
              have h2 := wrapB_len o.line x
              show (toUpperA o.txt ++ 32 :: wrapB o.line x).length ≤ _
              simp only [List.length_append, List.length_cons, up_len, sumL]
              omega
        · split
          · cases ho : opOf k op with
            | none => exact Nat.zero_le _
            | some o =>
              match xs with
              | [] => exact Nat.zero_le _
              | [x] => exact Nat.zero_le _
              | x :: y :: r =>
                have h1 := oprs_tx3 o (List.mem_of_find?_eq_some ho)
                have h2 := wrapB_len (if o.line = 4 then 5 else o.line) x
                have h3 := wrapB_len (o.line + 1) y
                show (wrapB (if o.line = 4 then 5 else o.line) x ++ 32 :: (toUpperA o.txt ++ 32 :: wrapB (o.line + 1) y)).length ≤ _
                simp only [List.length_append, List.length_cons, up_len, sumL]
                omega
          · split
            · cases xs with
              | nil => exact Nat.zero_le _
              | cons x r =>
                have h2 := wrapB_len 5 x
                have h3 := nullB_len op
                show (wrapB 5 x ++ nullB op).length ≤ _
                simp only [List.length_append, sumL]
                omega
            · split
              · rename_i c hc
                have h1 := cals_nm8 c (List.mem_of_find?_eq_some hc)
                have h2 := joinC_len xs
                simp only [List.length_append, List.length_cons, List.length_nil, up_len]
                split
                · simp only [List.length_cons, List.length_nil]; omega
                · omega
              · simp
def sumE : List Ex → Nat
  | [] => 0
  | x :: r => (prE x).length + 4 + sumE r
theorem sumE_L : ∀ xs : List Ex, sumL (xs.map fun x => (x.line, prE x)) = sumE xs
  | [] => rfl
  | x :: r => by simp only [List.map_cons, sumL, sumE, sumE_L r]
theorem sumE_snoc (y : Ex) : ∀ xs : List Ex, sumE (xs ++ [y]) = sumE xs + (prE y).length + 4
  | [] => by simp [sumE]
  | x :: r => by simp only [List.cons_append, sumE, sumE_snoc y r]; omega
theorem prE_len (e : Ex) : (prE e).length ≤ (litV e.v).length + e.t.length + e.n.length + 30 + sumE e.xs := by
  rw [prE_eq, ← sumE_L]
  exact prB_len ..
theorem litV_v0 : (litV v0).length = 4 := rfl
theorem pr_mk (k op : Int) (xs : List Ex) : (prE (mkE k op xs)).length ≤ 34 + sumE xs := by
  have := prE_len (mkE k op xs)
  have h0 := litV_v0
  simp only [mkE, List.length_nil] at this ⊢
  omega
theorem pr_one (k op : Int) (x : Ex) : (prE (mkE k op [x])).length ≤ (prE x).length + 38 := by
  have := pr_mk k op [x]
  simp only [sumE] at this
  omega
theorem pr_two (k op : Int) (x y : Ex) : (prE (mkE k op [x, y])).length ≤ (prE x).length + (prE y).length + 42 := by
  have := pr_mk k op [x, y]
  simp only [sumE] at this
  omega
theorem pr_lit (v : Val) : (prE (litE v)).length ≤ (litV v).length + 30 := by
  have := prE_len (litE v)
  simp only [litE, sumE, List.length_nil] at this ⊢
  omega
theorem pr_col (t n : List UInt8) : (prE (colE t n)).length ≤ t.length + n.length + 34 := by
  have := prE_len (colE t n)
  have h0 := litV_v0
  simp only [colE, sumE] at this ⊢
  omega
/-- Words of no great length. -/
def Sh (l : Ts) : Prop := ∀ x ∈ l, x.1.s.length ≤ 16384 ∧ -9223372036854775808 ≤ x.1.n ∧ x.1.n ≤ 9223372036854775807
theorem Sh.suf {l r : Ts} (h : Sh l) (s : r <:+ l) : Sh r := fun x hx => h x (s.subset hx)
theorem Sh.tail {l : Ts} (h : Sh l) : Sh l.tail := h.suf (List.tail_suffix l)
theorem stn_len {k : Int} {s : List UInt8} {l : Ts} (h : stn k s l = true) : l.tail.length + 1 = l.length := by
  cases l with
  | nil => cases h
  | cons x r => rfl
theorem opAt_pos {n : Int} {l : Ts} {o : Opr} (h : opAt n l = some o) : l.tail.length + 1 = l.length := by
  cases l with
  | nil =>
    have := List.find?_some h
    simp [stn] at this
  | cons x r => rfl
theorem must_pos {k : Int} {s : List UInt8} {l r : Ts} (h : mustP k s l = .ok r) : r.length + 1 = l.length := by
  unfold mustP at h
  split at h
  · rename_i hs; cases h; exact stn_len hs
  · cases h
def Wt (P : Ts → Rd Ex) : Prop := ∀ l e r, Sh l → P l = .ok (e, r) → (prE e).length + 40000 * r.length ≤ 40000 * l.length
theorem wt_rowL {n : Int} {P : Ts → Rd Ex} (h : Wt P) (hs : Sf P) (M : Nat) : ∀ (f : Nat) (e : Ex) (l : Ts) (e' : Ex) (r : Ts), Sh l → (prE e).length + 40000 * l.length ≤ M → rowL n P f e l = .ok (e', r) → (prE e').length + 40000 * r.length ≤ M
  | 0, e, l, e', r, hl, he, q => by cases q; exact he
  | f + 1, e, l, e', r, hl, he, q => by
    unfold rowL at q
    split at q
    · cases q; exact he
    · rename_i o ho
      split at q
      · cases q
      · rename_i z hz
        obtain ⟨z1, z2⟩ := z
        have h1 := opAt_pos ho
        have h2 := h _ _ _ hl.tail hz
        have h3 := pr_two o.kind o.op e z1
        exact wt_rowL h hs M f _ _ _ _ (hl.tail.suf (hs _ _ hz)) (by show _ + 40000 * z2.length ≤ M; show (prE (mkE o.kind o.op [e, z1])).length + _ ≤ M; omega) q
theorem wt_row {n : Int} {P : Ts → Rd Ex} (h : Wt P) (hs : Sf P) : Wt (rowP n P) := by
  intro l e r hl q
  unfold rowP at q
  split at q
  · cases q
  · rename_i z hz
    obtain ⟨z1, z2⟩ := z
    exact wt_rowL h hs _ _ _ _ _ _ (hl.suf (hs _ _ hz)) (h _ _ _ hl hz) q
theorem null_len {l r : Ts} {i : Int} (q : nullP l = .ok (i, r)) : r.length + 1 ≤ l.length := by
  unfold nullP at q
  split at q
  · rename_i hs
    have h0 := stn_len hs
    split at q
    · cases q
    · rename_i u hu; cases q; have := must_pos hu; omega
  · split at q
    · cases q
    · rename_i u hu; cases q; have := must_pos hu; omega
theorem wt_test {P : Ts → Rd Ex} (h : Wt P) (hs : Sf P) : Wt (testP P) := by
  intro l e r hl q
  unfold testP at q
  split at q
  · cases q
  · rename_i z hz
    obtain ⟨z1, z2⟩ := z
    have h1 := h _ _ _ hl hz
    have h2 := hl.suf (hs _ _ hz)
    split at q
    · rename_i hst
      have h3 := stn_len hst
      split at q
      · cases q
      · rename_i u hu
        obtain ⟨u1, u2⟩ := u
        cases q
        have h4 := null_len hu
        have h5 := pr_one 7 u1 z1
        simp only [] at *
        omega
    · split at q
      · cases q; exact h1
      · rename_i o ho
        split at q
        · cases q
        · rename_i u hu
          obtain ⟨u1, u2⟩ := u
          cases q
          have h3 := opAt_pos ho
          have h4 := h _ _ _ h2.tail hu
          have h5 := pr_two o.kind o.op z1 u1
          simp only [] at *
          omega
def WtO (p : Option (Ts → Rd Ex)) : Prop := ∀ g, p = some g → Wt g
theorem wt_ahead {n : Int} {P : Ts → Rd Ex} {p : Option (Ts → Rd Ex)} (h : Wt P) (hp : WtO p) : Wt (aheadP n P p) := by
  intro l e r hl q
  unfold aheadP at q
  split at q
  · exact h _ _ _ hl q
  · rename_i o ho
    split at q
    · cases q
    · rename_i g
      split at q
      · cases q
      · rename_i z hz
        obtain ⟨z1, z2⟩ := z
        cases q
        have h1 := opAt_pos ho
        have h2 := hp g rfl _ _ _ hl.tail hz
        have h3 := pr_one o.kind o.op z1
        simp only [] at *
        omega
theorem wt_opsL {g : Ts → Rd Ex} (h : Wt g) (hs : Sf g) (M : Nat) : ∀ (n : Nat) (acc : List Ex) (l : Ts) (es : List Ex) (r : Ts), Sh l → sumE acc + 40000 * l.length ≤ M → opsL g n acc l = .ok (es, r) → sumE es + 40000 * r.length ≤ M
  | 0, acc, l, es, r, hl, ha, q => by cases q; exact ha
  | n + 1, acc, l, es, r, hl, ha, q => by
    unfold opsL at q
    split at q
    · rename_i hst
      split at q
      · cases q
      · rename_i z hz
        obtain ⟨z1, z2⟩ := z
        have h1 := stn_len hst
        have h2 := h _ _ _ hl.tail hz
        have h3 := sumE_snoc z1 acc
        exact wt_opsL h hs M n _ _ _ _ (hl.tail.suf (hs _ _ hz)) (by show sumE (acc ++ [z1]) + 40000 * z2.length ≤ M; omega) q
    · cases q
theorem wt_in {g : Ts → Rd Ex} (h : Wt g) (hs : Sf g) {c : Cal} {l : Ts} {es : List Ex} {r : Ts} (hl : Sh l) (q : inP g c l = .ok (es, r)) : sumE es + 40000 * r.length ≤ 40000 * l.length + 4 := by
  unfold inP at q
  split at q
  · cases q
    have : l.tail.length ≤ l.length := by simp
    simp only [sumE]
    omega
  · unfold opsP at q
    split at q
    · cases q
    · rename_i z hz
      obtain ⟨z1, z2⟩ := z
      have h2 := h _ _ _ hl hz
      exact wt_opsL h hs _ _ _ _ _ _ (hl.suf (hs _ _ hz)) (by show sumE [z1] + 40000 * z2.length ≤ _; simp only [sumE]; omega) q
theorem brk_len {α : Type} {p : Option (Ts → Rd Ex)} {h : (Ts → Rd Ex) → Ts → Rd α} {l : Ts} {a : α} {r : Ts} (q : brkP p h l = .ok (a, r)) : ∃ g r', p = some g ∧ h g l.tail = .ok (a, r') ∧ r.length + 1 = r'.length := by
  unfold brkP at q
  split at q
  · cases q
  · rename_i g
    split at q
    · cases q
    · rename_i z hz
      obtain ⟨z1, z2⟩ := z
      split at q
      · cases q
      · rename_i u hu; cases q; exact ⟨g, _, rfl, hz, must_pos hu⟩
theorem name_len {l r : Ts} {s : List UInt8} (hl : Sh l) (q : nameP l = .ok (s, r)) : s.length ≤ 16384 ∧ r.length + 1 = l.length := by
  cases l with
  | nil => cases q
  | cons x l =>
    by_cases h : x.1.k = 1 ∧ nmB x.1.s = true
    · rw [nameP, if_pos h] at q; cases q; exact ⟨(hl x (List.mem_cons_self ..)).1, rfl⟩
    · rw [nameP, if_neg h] at q; cases q
theorem wt_col : Wt colP := by
  intro l e r hl q
  unfold colP at q
  split at q
  · cases q
  · rename_i z hz
    obtain ⟨z1, z2⟩ := z
    have h1 := name_len hl hz
    split at q
    · rename_i hst
      have h2 := stn_len hst
      split at q
      · cases q
      · rename_i u hu
        obtain ⟨u1, u2⟩ := u
        cases q
        have h3 := name_len (hl.suf ((suf_tail).trans (sf_name _ _ hz))) hu
        have h4 := pr_col z1 u1
        simp only [] at *
        omega
    · cases q
      have h4 := pr_col [] z1
      simp only [List.length_nil] at *
      omega
theorem litV_num_len {n : Int} (h : -9223372036854775808 ≤ n ∧ n ≤ 9223372036854775807) : (litV ⟨2, n, ⟨#[]⟩⟩).length ≤ 21 := by
  rw [litV_num]
  unfold itoa
  split
  · simp only [List.length_cons]
    rw [decDigits_length]
    have := nDigits_le20 n.natAbs (by omega)
    omega
  · rw [decDigits_length]
    have := nDigits_le20 n.toNat (by omega)
    omega
theorem litV_len (a : Val) (h : a.k ≠ 2) : (litV a).length ≤ 2 * a.s.data.toList.length + 10 := by
  have h1 := rep_length_le a.s.data.toList
  have h2 := hexL_length a.s.data.toList
  unfold litV
  split
  · simp
  · split
    · split <;> simp
    · split
      · simp only [List.length_cons, List.length_append, List.length_nil]; omega
      · split
        · simp only [List.length_cons, List.length_append, List.length_nil]; omega
        · simp
theorem litT_len {l : Ts} (hl : Sh l) {v : Val} (h : litT l = some v) : (litV v).length ≤ 32800 ∧ l.tail.length + 1 = l.length := by
  cases l with
  | nil => cases h
  | cons x r =>
    have hx := hl x (List.mem_cons_self ..)
    refine ⟨?_, rfl⟩
    unfold litT at h
    simp only [] at h
    split at h
    · cases h
      have := litV_num_len hx.2
      omega
    · split at h
      · cases h
        have := litV_len ⟨3, 0, ⟨x.1.s.toArray⟩⟩ (by show (3 : Int) ≠ 2; decide)
        simp only at this
        omega
      · split at h
        · cases h
          have := litV_len ⟨4, 0, ⟨x.1.s.toArray⟩⟩ (by show (4 : Int) ≠ 2; decide)
          simp only at this
          omega
        · split at h
          · split at h
            · cases h; decide
            · split at h
              · cases h; decide
              · split at h
                · cases h; decide
                · cases h
          · cases h
theorem calT_len {l : Ts} {c : Cal} (h : calT l = some c) : l.tail.tail.length + 2 = l.length := by
  match l, h with
  | x :: y :: r, h => rfl
theorem wt_item {p : Option (Ts → Rd Ex)} (hp : WtO p) (hs : SfO p) : Wt (itemP p) := by
  intro l e r hl q
  unfold itemP at q
  split at q
  · rename_i hst
    have h0 := stn_len hst
    obtain ⟨g, r', hg, q', h1⟩ := brk_len q
    have h2 := hp g hg _ _ _ hl.tail q'
    omega
  · split at q
    · rename_i v hv
      cases q
      have h1 := litT_len hl hv
      have h2 := pr_lit v
      omega
    · split at q
      · rename_i c hc
        split at q
        · cases q
        · rename_i z hz
          obtain ⟨z1, z2⟩ := z
          cases q
          obtain ⟨g, r', hg, q', h1⟩ := brk_len hz
          have h0 := calT_len hc
          have h2 := wt_in (hp g hg) (hs g hg) hl.tail.tail q'
          have h3 := pr_mk c.kind c.op z1
          simp only [] at *
          omega
      · exact wt_col _ _ _ hl q
def WtL (p : Lns) : Prop := Wt p.sg ∧ Wt p.nt ∧ Wt p.orr
theorem wtO_map {p : Option Lns} {f : Lns → Ts → Rd Ex} (h : ∀ q, p = some q → Wt (f q)) : WtO (p.map f) := by
  intro g hg
  cases p with
  | none => cases hg
  | some q => cases hg; exact h q rfl
theorem wt_mkL {p : Option Lns} (hs : ∀ q, p = some q → SfL q) (h : ∀ q, p = some q → WtL q) : WtL (mkL p) := by
  have s1 : Sf (signP p) := sf_ahead (sf_item (sfo_map fun q hq => (hs q hq).2.2)) (sfo_map fun q hq => (hs q hq).1)
  have s2 : Sf (catP p) := sf_row (sf_row (sf_row s1))
  have s3 : Sf (notP p) := sf_ahead (sf_test s2) (sfo_map fun q hq => (hs q hq).2.1)
  have h1 : Wt (signP p) := wt_ahead (wt_item (wtO_map fun q hq => (h q hq).2.2) (sfo_map fun q hq => (hs q hq).2.2)) (wtO_map fun q hq => (h q hq).1)
  have h2 : Wt (catP p) := wt_row (wt_row (wt_row h1 s1) (sf_row s1)) (sf_row (sf_row s1))
  have h3 : Wt (notP p) := wt_ahead (wt_test h2 s2) (wtO_map fun q hq => (h q hq).2.1)
  exact ⟨h1, h3, wt_row (wt_row h3 s3) (sf_row s3)⟩
theorem wt_lns : ∀ d, WtL (lns d)
  | 0 => wt_mkL (fun q hq => by cases hq) (fun q hq => by cases hq)
  | d + 1 => wt_mkL (fun q hq => by cases hq; exact sf_lns d) (fun q hq => by cases hq; exact wt_lns d)

/-! ### Words in brackets -/
theorem toksOf_op (m : List UInt8) {T : Ts} (h : toksOf m = .ok T) : toksOf (40 :: m) = .ok ((⟨5, [40], 0⟩, 0) :: shL 1 T) := by
  unfold toksOf at h ⊢
  show toks (m.length + 1 + 1) (40 :: m) 0 = _
  rw [toks_op, toks_sh 1, h]
  rfl
theorem lex_one {l : List UInt8} {T : Ts} (h : lexR l = .ok T) (hl : l.length ≤ 4000) : ∃ i j, lexR (40 :: (l ++ [10, 41])) = .ok ((⟨5, [40], 0⟩, i) :: (shL 1 T ++ [(⟨5, [41], 0⟩, j)])) := by
  have h1 := toksOf_op _ (toksOf_cat (lexR_ok h).2 (show toksOf [41] = .ok [(⟨5, [41], 0⟩, 0)] from rfl))
  exact ⟨0, 0 + (l.length + 1) + 1, lexR_of (by simp; omega) (h1.trans (by simp [shL]))⟩
theorem lex_two {l : List UInt8} {T : Ts} (h : lexR l = .ok T) (hl : l.length ≤ 4000) : ∃ i i' j j', lexR (40 :: 40 :: (l ++ [10, 41, 41])) = .ok ((⟨5, [40], 0⟩, i) :: (⟨5, [40], 0⟩, i') :: (shL 2 T ++ [(⟨5, [41], 0⟩, j), (⟨5, [41], 0⟩, j')])) := by
  have h1 := toksOf_op _ (toksOf_op _ (toksOf_cat (lexR_ok h).2 (show toksOf [41, 41] = .ok [(⟨5, [41], 0⟩, 0), (⟨5, [41], 0⟩, 1)] from rfl)))
  exact ⟨0, 0 + 1, 0 + (l.length + 1) + 1 + 1, 1 + (l.length + 1) + 1 + 1, lexR_of (by simp; omega) (h1.trans (by simp [shL]))⟩
end Go.Proofs.YtekapdpfbkdflaaGreatDoor
