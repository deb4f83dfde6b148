/- Plain mathematics of expressions: what is read has no more than three operands, and values within the reach of its words. No program is named here. No conditions. -/
import Derived.Test.YtekapdpfbkdflaaGreatDoorExPlain
namespace Go.Proofs.YtekapdpfbkdflaaGreatDoor
set_option linter.unusedVariables false

/-- An expression whose values lie within the reach, so many levels deep. -/
def OkE : Nat → Ex → Prop
  | 0, e => e.v.s.size ≤ 2147483648 ∧ -9223372036854775808 ≤ e.v.n ∧ e.v.n ≤ 9223372036854775807 ∧ e.xs.length ≤ 3
  | n + 1, e => (e.v.s.size ≤ 2147483648 ∧ -9223372036854775808 ≤ e.v.n ∧ e.v.n ≤ 9223372036854775807 ∧ e.xs.length ≤ 3) ∧ ∀ z ∈ e.xs, OkE n z
theorem OkE.base {n : Nat} {e : Ex} (h : OkE n e) : e.v.s.size ≤ 2147483648 ∧ -9223372036854775808 ≤ e.v.n ∧ e.v.n ≤ 9223372036854775807 ∧ e.xs.length ≤ 3 := by
  cases n with
  | zero => exact h
  | succ n => exact h.1
def OkA (e : Ex) : Prop := ∀ k, OkE k e
theorem oka_mk {e : Ex} (h : e.v.s.size ≤ 2147483648 ∧ -9223372036854775808 ≤ e.v.n ∧ e.v.n ≤ 9223372036854775807 ∧ e.xs.length ≤ 3) (hs : ∀ x ∈ e.xs, OkA x) : OkA e
  | 0 => h
  | k + 1 => ⟨h, fun x hx => hs x hx k⟩
theorem oka_lit {v : Val} (h : v.s.size ≤ 2147483648 ∧ -9223372036854775808 ≤ v.n ∧ v.n ≤ 9223372036854775807) : OkA (litE v) := oka_mk ⟨h.1, h.2.1, h.2.2, by simp [litE]⟩ (fun x hx => by simp [litE] at hx)
theorem v0_ok : v0.s.size ≤ 2147483648 ∧ -9223372036854775808 ≤ v0.n ∧ v0.n ≤ 9223372036854775807 := ⟨by decide, by decide, by decide⟩
theorem oka_col (t n : List UInt8) : OkA (colE t n) := oka_mk ⟨v0_ok.1, v0_ok.2.1, v0_ok.2.2, by simp [colE]⟩ (fun x hx => by simp [colE] at hx)
theorem oka_mkE (k op : Int) {xs : List Ex} (hl : xs.length ≤ 3) (hs : ∀ x ∈ xs, OkA x) : OkA (mkE k op xs) := oka_mk ⟨v0_ok.1, v0_ok.2.1, v0_ok.2.2, hl⟩ hs
theorem oka_two (k op : Int) {x y : Ex} (hx : OkA x) (hy : OkA y) : OkA (mkE k op [x, y]) := oka_mkE k op (by simp) (fun z hz => by
  simp only [List.mem_cons, List.not_mem_nil, or_false] at hz
  rcases hz with rfl | rfl
  · exact hx
  · exact hy)
theorem oka_one (k op : Int) {x : Ex} (hx : OkA x) : OkA (mkE k op [x]) := oka_mkE k op (by simp) (fun z hz => by
  simp only [List.mem_cons, List.not_mem_nil, or_false] at hz
  rw [hz]; exact hx)
/-- Words within the reach. -/
def TkOk (l : Ts) : Prop := ∀ x ∈ l, x.1.s.length ≤ 2147483648 ∧ -9223372036854775808 ≤ x.1.n ∧ x.1.n ≤ 9223372036854775807
theorem TkOk.suf {l r : Ts} (h : TkOk l) (s : r <:+ l) : TkOk r := fun x hx => h x (s.subset hx)
theorem TkOk.tail {l : Ts} (h : TkOk l) : TkOk l.tail := h.suf (List.tail_suffix l)
def Gd (P : Ts → Rd Ex) : Prop := ∀ l e r, TkOk l → P l = .ok (e, r) → OkA e
theorem gd_rowL {n : Int} {P : Ts → Rd Ex} (h : Gd P) (hs : Sf P) : ∀ (f : Nat) (e : Ex) (l : Ts) (e' : Ex) (r : Ts), TkOk l → OkA e → rowL n P f e l = .ok (e', r) → OkA e'
  | 0, e, l, e', r, hl, he, q => by cases q; exact he
  | f + 1, e, l, e', r, hl, he, q => by
    unfold rowL at q
    split at q
    · cases q; exact he
    · split at q
      · cases q
      · rename_i z hz
        obtain ⟨z1, z2⟩ := z
        exact gd_rowL h hs f _ _ _ _ (hl.tail.suf (hs _ _ hz)) (oka_two _ _ he (h _ _ _ hl.tail hz)) q
theorem gd_row {n : Int} {P : Ts → Rd Ex} (h : Gd P) (hs : Sf P) : Gd (rowP n P) := by
  intro l e r hl q
  unfold rowP at q
  split at q
  · cases q
  · rename_i z hz
    obtain ⟨z1, z2⟩ := z
    exact gd_rowL h hs _ _ _ _ _ (hl.suf (hs _ _ hz)) (h _ _ _ hl hz) q
theorem gd_test {P : Ts → Rd Ex} (h : Gd P) (hs : Sf P) : Gd (testP P) := by
  intro l e r hl q
  unfold testP at q
  split at q
  · cases q
  · rename_i z hz
    obtain ⟨z1, z2⟩ := z
    have h1 := h _ _ _ hl hz
    have h2 := hl.suf (hs _ _ hz)
    split at q
    · split at q
      · cases q
      · rename_i u hu; cases q; exact oka_one _ _ h1
    · split at q
      · cases q; exact h1
      · split at q
        · cases q
        · rename_i u hu
          obtain ⟨u1, u2⟩ := u
          cases q
          exact oka_two _ _ h1 (h _ _ _ h2.tail hu)
def GdO (p : Option (Ts → Rd Ex)) : Prop := ∀ g, p = some g → Gd g
theorem gd_ahead {n : Int} {P : Ts → Rd Ex} {p : Option (Ts → Rd Ex)} (h : Gd P) (hp : GdO p) : Gd (aheadP n P p) := by
  intro l e r hl q
  unfold aheadP at q
  split at q
  · exact h _ _ _ hl q
  · split at q
    · cases q
    · rename_i g
      split at q
      · cases q
      · rename_i z hz
        obtain ⟨z1, z2⟩ := z
        cases q
        exact oka_one _ _ (hp g rfl _ _ _ hl.tail hz)
theorem gd_opsL {g : Ts → Rd Ex} (h : Gd g) (hs : Sf g) : ∀ (n : Nat) (acc : List Ex) (l : Ts) (es : List Ex) (r : Ts), TkOk l → (∀ x ∈ acc, OkA x) → opsL g n acc l = .ok (es, r) → es.length = acc.length + n ∧ ∀ x ∈ es, OkA x
  | 0, acc, l, es, r, hl, ha, q => by cases q; exact ⟨rfl, ha⟩
  | n + 1, acc, l, es, r, hl, ha, q => by
    unfold opsL at q
    split at q
    · split at q
      · cases q
      · rename_i z hz
        obtain ⟨z1, z2⟩ := z
        have := gd_opsL h hs n _ _ _ _ (hl.tail.suf (hs _ _ hz)) (fun x hx => by
          rcases List.mem_append.1 hx with hx | hx
          · exact ha x hx
          · simp only [List.mem_cons, List.not_mem_nil, or_false] at hx
            rw [hx]; exact h _ _ _ hl.tail hz) q
        simp only [List.length_append, List.length_cons, List.length_nil] at this
        exact ⟨by omega, this.2⟩
    · cases q
theorem cals_cnt3 : ∀ c ∈ cals, 1 ≤ c.cnt ∧ c.cnt ≤ 3 := by decide
theorem gd_in {g : Ts → Rd Ex} (h : Gd g) (hs : Sf g) {c : Cal} (hc : c ∈ cals) {l : Ts} {es : List Ex} {r : Ts} (hl : TkOk l) (q : inP g c l = .ok (es, r)) : es.length ≤ 3 ∧ ∀ x ∈ es, OkA x := by
  have hcc := cals_cnt3 c hc
  unfold inP at q
  split at q
  · cases q; exact ⟨by simp, fun x hx => by simp at hx⟩
  · unfold opsP at q
    split at q
    · cases q
    · rename_i z hz
      obtain ⟨z1, z2⟩ := z
      have := gd_opsL h hs _ _ _ _ _ (hl.suf (hs _ _ hz)) (fun x hx => by
        simp only [List.mem_cons, List.not_mem_nil, or_false] at hx
        rw [hx]; exact h _ _ _ hl hz) q
      simp only [List.length_cons, List.length_nil] at this
      exact ⟨by omega, this.2⟩
theorem brk_get {α : Type} {p : Option (Ts → Rd Ex)} {h : (Ts → Rd Ex) → Ts → Rd α} {l : Ts} {a : α} {r : Ts} (q : brkP p h l = .ok (a, r)) : ∃ g r', p = some g ∧ h g l.tail = .ok (a, r') := by
  unfold brkP at q
  split at q
  · cases q
  · rename_i g
    split at q
    · cases q
    · rename_i z hz
      obtain ⟨z1, z2⟩ := z
      split at q
      · cases q
      · cases q; exact ⟨g, _, rfl, hz⟩
theorem gd_col : Gd colP := by
  intro l e r hl q
  unfold colP at q
  split at q
  · cases q
  · split at q
    · split at q
      · cases q
      · cases q; exact oka_col _ _
    · cases q; exact oka_col _ _
theorem litT_ok {l : Ts} (hl : TkOk l) {v : Val} (h : litT l = some v) : v.s.size ≤ 2147483648 ∧ -9223372036854775808 ≤ v.n ∧ v.n ≤ 9223372036854775807 := by
  cases l with
  | nil => cases h
  | cons x r =>
    have hx := hl x (List.mem_cons_self ..)
    unfold litT at h
    simp only [] at h
    split at h
    · cases h; exact ⟨Nat.zero_le _, hx.2⟩
    · split at h
      · cases h; exact ⟨by show x.1.s.length ≤ _; exact hx.1, by show (-9223372036854775808 : Int) ≤ 0; decide, by show (0 : Int) ≤ 9223372036854775807; decide⟩
      · split at h
        · cases h; exact ⟨by show x.1.s.length ≤ _; exact hx.1, by show (-9223372036854775808 : Int) ≤ 0; decide, by show (0 : Int) ≤ 9223372036854775807; decide⟩
        · split at h
          · split at h
            · cases h; exact v0_ok
            · split at h
              · cases h; exact ⟨by decide, by decide, by decide⟩
              · split at h
                · cases h; exact ⟨by decide, by decide, by decide⟩
                · cases h
          · cases h
theorem calT_mem {l : Ts} {c : Cal} (h : calT l = some c) : c ∈ cals := by
  match l, h with
  | x :: y :: r, h =>
    unfold calT at h
    simp only [] at h
    split at h
    · exact List.mem_of_find?_eq_some h
    · cases h
theorem gd_item {p : Option (Ts → Rd Ex)} (hp : GdO p) (hs : SfO p) : Gd (itemP p) := by
  intro l e r hl q
  unfold itemP at q
  split at q
  · obtain ⟨g, r', hg, q'⟩ := brk_get q
    exact hp g hg _ _ _ hl.tail q'
  · split at q
    · rename_i v hv
      cases q
      exact oka_lit (litT_ok hl hv)
    · split at q
      · rename_i c hc
        split at q
        · cases q
        · rename_i z hz
          obtain ⟨z1, z2⟩ := z
          cases q
          obtain ⟨g, r', hg, q'⟩ := brk_get hz
          have := gd_in (hp g hg) (hs g hg) (calT_mem hc) hl.tail.tail q'
          exact oka_mkE _ _ this.1 this.2
      · exact gd_col _ _ _ hl q
def GdL (p : Lns) : Prop := Gd p.sg ∧ Gd p.nt ∧ Gd p.orr
theorem gdO_map {p : Option Lns} {f : Lns → Ts → Rd Ex} (h : ∀ q, p = some q → Gd (f q)) : GdO (p.map f) := by
  intro g hg
  cases p with
  | none => cases hg
  | some q => cases hg; exact h q rfl
theorem gd_mkL {p : Option Lns} (hs : ∀ q, p = some q → SfL q) (h : ∀ q, p = some q → GdL q) : GdL (mkL p) := by
  have s1 : Sf (signP p) := sf_ahead (sf_item (sfo_map fun q hq => (hs q hq).2.2)) (sfo_map fun q hq => (hs q hq).1)
  have s2 : Sf (catP p) := sf_row (sf_row (sf_row s1))
  have s3 : Sf (notP p) := sf_ahead (sf_test s2) (sfo_map fun q hq => (hs q hq).2.1)
  have h1 : Gd (signP p) := gd_ahead (gd_item (gdO_map fun q hq => (h q hq).2.2) (sfo_map fun q hq => (hs q hq).2.2)) (gdO_map fun q hq => (h q hq).1)
  have h2 : Gd (catP p) := gd_row (gd_row (gd_row h1 s1) (sf_row s1)) (sf_row (sf_row s1))
  have h3 : Gd (notP p) := gd_ahead (gd_test h2 s2) (gdO_map fun q hq => (h q hq).2.1)
  exact ⟨h1, h3, gd_row (gd_row h3 s3) (sf_row s3)⟩
theorem gd_lns : ∀ d, GdL (lns d)
  | 0 => gd_mkL (fun q hq => by cases hq) (fun q hq => by cases hq)
  | d + 1 => gd_mkL (fun q hq => by cases hq; exact sf_lns d) (fun q hq => by cases hq; exact gd_lns d)
end Go.Proofs.YtekapdpfbkdflaaGreatDoor
