/- Plain mathematics of expressions: what is read is right (its shape), and it is written within the nesting that was left to read it. No program is named here. No conditions. Plain mathematics of expressions: how deep brackets, signs and NOT go. No program is named here. No conditions. Plain mathematics of expressions: the words of what an expression is written as. No program is named here. No conditions. Plain mathematics of expressions: the words of what a right expression is written as. No program is named here. No conditions. Plain mathematics of expressions: with which word a right expression begins, and at which words a line of the grammar ends. No program is named here. No conditions. Plain mathematics of expressions: what a right expression is written as is read as the same. No program is named here. No conditions. Plain mathematics of expressions: what a right expression is written as is read as the same, whole. No program is named here. No conditions. -/
import Derived.Test.YtekapdpfbkdflaaGreatDoorExPrP
import Derived.Test.YtekapdpfbkdflaaGreatDoorExLenP
import Derived.Test.YtekapdpfbkdflaaGreatDoorLxAgainP
import Derived.Test.YtekapdpfbkdflaaGreatDoorExSimP
import Derived.Test.YtekapdpfbkdflaaGreatDoorExOkP
import Derived.Test.YtekapdpfbkdflaaGreatDoorExLeftP
import Derived.Test.YtekapdpfbkdflaaGreatDoorLxCatP
namespace Go.Proofs.YtekapdpfbkdflaaGreatDoor
open Go.Lib
set_option linter.unusedVariables false

/-- How deep it goes, as it is written. -/
def ndW (n : Int) (x : Int × Nat) : Nat := if n ≤ x.1 then x.2 else x.2 + 1
def ndM : List (Int × Nat) → Nat
  | [] => 0
  | x :: r => max x.2 (ndM r)
def ndB (k op : Int) (xs : List (Int × Nat)) : Nat :=
  if k = 3 then match opOf k op, xs with
    | some o, x :: _ => ndW o.line x + 1
    | _, _ => 0
  else if k = 4 then match opOf k op, xs with
    | some o, x :: y :: _ => max (ndW (if o.line = 4 then 5 else o.line) x) (ndW (o.line + 1) y)
    | _, _ => 0
  else if k = 7 then match xs with
    | x :: _ => ndW 5 x
    | [] => 0
  else if k = 5 ∨ k = 6 then ndM xs + 1
  else 0
def nd : Ex → Nat
  | ⟨k, op, v, t, n, xs⟩ => ndB k op (ndL xs)
  where
  ndL : List Ex → List (Int × Nat)
    | [] => []
    | x :: r => (x.line, nd x) :: ndL r
theorem ndL_map : ∀ xs : List Ex, nd.ndL xs = xs.map fun x => (x.line, nd x)
  | [] => by simp [nd.ndL]
  | x :: r => by simp [nd.ndL, ndL_map r]
theorem nd_eq (e : Ex) : nd e = ndB e.k e.op (e.xs.map fun x => (x.line, nd x)) := by
  obtain ⟨k, op, v, t, n, xs⟩ := e
  rw [nd, ndL_map]
/-- A literal that a word gives. -/
def LitOk (v : Val) : Prop := ∃ t : Tk, GoodT t ∧ t.s.length ≤ 16384 ∧ litT [(t, 0)] = some v
/-- A right expression, apart from its operands. -/
def LeafOk (k op : Int) (v : Val) (t n : List UInt8) (len : Nat) : Prop :=
  fitsB k op len = true ∧ (k = 1 → LitOk v) ∧ (k ≠ 1 → v = v0) ∧ (k = 2 → nmB n = true ∧ (t = [] ∨ nmB t = true)) ∧ (k ≠ 2 → t = [] ∧ n = [])
def ShE : Ex → Prop
  | ⟨k, op, v, t, n, xs⟩ => LeafOk k op v t n xs.length ∧ ShL xs
  where
  ShL : List Ex → Prop
    | [] => True
    | x :: r => ShE x ∧ ShL r
theorem shL_mem : ∀ xs : List Ex, ShE.ShL xs ↔ ∀ x ∈ xs, ShE x
  | [] => by simp [ShE.ShL]
  | x :: r => by simp [ShE.ShL, shL_mem r]
theorem shE_eq (e : Ex) : ShE e ↔ LeafOk e.k e.op e.v e.t e.n e.xs.length ∧ ∀ x ∈ e.xs, ShE x := by
  obtain ⟨k, op, v, t, n, xs⟩ := e
  rw [ShE, shL_mem]
/-- Right, and written on a line within a nesting. -/
def At (d : Nat) (n : Int) (e : Ex) : Prop := ShE e ∧ ndW n (e.line, nd e) ≤ d
theorem ndW_le {n m : Int} (h : n ≤ m) (x : Int × Nat) : ndW n x ≤ ndW m x := by
  unfold ndW
  split <;> split <;> omega
theorem At.down {d : Nat} {n m : Int} {e : Ex} (h : At d m e) (hn : n ≤ m) : At d n e := ⟨h.1, Nat.le_trans (ndW_le hn _) h.2⟩
theorem oprs_line : ∀ o ∈ oprs, 1 ≤ o.line ∧ o.line ≤ 8 := by decide
theorem line_pos (k op : Int) (n : Nat) : 1 ≤ lineB k op n := by
  unfold lineB
  split
  · omega
  · split
    · rename_i o ho
      exact (oprs_line o (List.mem_of_find?_eq_some ho)).1
    · split <;> omega
theorem At.nd {d : Nat} {e : Ex} (h : At d 1 e) : nd e ≤ d := by
  have h1 := h.2
  have h2 : 1 ≤ e.line := line_pos ..
  unfold ndW at h1
  rw [if_pos h2] at h1
  exact h1
theorem At.brk {d : Nat} {n : Int} {e : Ex} (h : At d 1 e) : At (d + 1) n e := by
  have := h.nd
  refine ⟨h.1, ?_⟩
  unfold ndW
  split
  · exact Nat.le_succ_of_le this
  · exact Nat.succ_le_succ this
/-! ### Operators -/
theorem oprs_two : ∀ o ∈ oprs, o.kind = 4 → opOf 4 o.op = some o ∧ fitsB 4 o.op 2 = true ∧ lineB 4 o.op 2 = o.line := by
  intro o ho hk
  simp only [oprs, List.mem_cons, List.not_mem_nil, or_false] at ho
  rcases ho with rfl | rfl | rfl | rfl | rfl | rfl | rfl | rfl | rfl | rfl | rfl | rfl | rfl | rfl | rfl | rfl <;> first | exact ⟨rfl, rfl, rfl⟩ | exact absurd hk (by decide)
theorem oprs_one : ∀ o ∈ oprs, o.kind = 3 → opOf 3 o.op = some o ∧ fitsB 3 o.op 1 = true ∧ lineB 3 o.op 1 = o.line := by
  intro o ho hk
  simp only [oprs, List.mem_cons, List.not_mem_nil, or_false] at ho
  rcases ho with rfl | rfl | rfl | rfl | rfl | rfl | rfl | rfl | rfl | rfl | rfl | rfl | rfl | rfl | rfl | rfl <;> first | exact ⟨rfl, rfl, rfl⟩ | exact absurd hk (by decide)
theorem oprs_kind : ∀ o ∈ oprs, (o.line = 3 ∨ o.line = 8 → o.kind = 3) ∧ (o.line = 1 ∨ o.line = 2 ∨ o.line = 4 ∨ o.line = 5 ∨ o.line = 6 ∨ o.line = 7 → o.kind = 4) := by decide
theorem cals_fit : ∀ c ∈ cals, fitsB c.kind c.op c.cnt = true ∧ (c.all = true → fitsB c.kind c.op 0 = true) ∧ (c.kind = 5 ∨ c.kind = 6) := by decide
theorem cals_line : ∀ c ∈ cals, ∀ n, lineB c.kind c.op n = 9 := by
  intro c hc n
  have hk := (cals_fit c hc).2.2
  have ho : opOf c.kind c.op = none := by
    have : ∀ c ∈ cals, opOf c.kind c.op = none := by decide
    exact this c hc
  unfold lineB
  rw [ho]
  split
  · rfl
  · show (if c.kind = 7 then (4 : Int) else 9) = 9
    rw [if_neg (by omega)]
theorem at_two {d : Nat} {o : Opr} (ho : o ∈ oprs) (hk : o.kind = 4) {a b : Ex} (ha : At d (if o.line = 4 then 5 else o.line) a) (hb : At d (o.line + 1) b) : At d o.line (mkE o.kind o.op [a, b]) := by
  obtain ⟨h1, h2, h3⟩ := oprs_two o ho hk
  have hl : (mkE o.kind o.op [a, b]).line = o.line := by rw [hk]; exact h3
  refine ⟨(shE_eq _).2 ⟨⟨by rw [hk]; exact h2, fun q => ?_, fun _ => rfl, fun q => ?_, fun _ => ⟨rfl, rfl⟩⟩, fun x hx => ?_⟩, ?_⟩
  · rw [hk] at q; cases q
  · rw [hk] at q; cases q
  · have hx' : x = a ∨ x = b := by simpa [mkE] using hx
    rcases hx' with rfl | rfl
    · exact ha.1
    · exact hb.1
  · have hn : Go.Proofs.YtekapdpfbkdflaaGreatDoor.nd (mkE o.kind o.op [a, b]) = max (ndW (if o.line = 4 then 5 else o.line) (a.line, Go.Proofs.YtekapdpfbkdflaaGreatDoor.nd a)) (ndW (o.line + 1) (b.line, Go.Proofs.YtekapdpfbkdflaaGreatDoor.nd b)) := by
      rw [nd_eq]
      show ndB o.kind o.op [(a.line, _), (b.line, _)] = _
      rw [hk]
      unfold ndB
      rw [if_neg (by decide), if_pos rfl, h1]
    rw [hl, hn]
    unfold ndW
    rw [if_pos (Int.le_refl _)]
    exact Nat.max_le.2 ⟨ha.2, hb.2⟩
theorem at_one {d : Nat} {o : Opr} (ho : o ∈ oprs) (hk : o.kind = 3) {a : Ex} (ha : At d o.line a) : At (d + 1) o.line (mkE o.kind o.op [a]) := by
  obtain ⟨h1, h2, h3⟩ := oprs_one o ho hk
  have hl : (mkE o.kind o.op [a]).line = o.line := by rw [hk]; exact h3
  refine ⟨(shE_eq _).2 ⟨⟨by rw [hk]; exact h2, fun q => ?_, fun _ => rfl, fun q => ?_, fun _ => ⟨rfl, rfl⟩⟩, fun x hx => ?_⟩, ?_⟩
  · rw [hk] at q; cases q
  · rw [hk] at q; cases q
  · obtain rfl : x = a := by simpa [mkE] using hx
    exact ha.1
  · have hn : Go.Proofs.YtekapdpfbkdflaaGreatDoor.nd (mkE o.kind o.op [a]) = ndW o.line (a.line, Go.Proofs.YtekapdpfbkdflaaGreatDoor.nd a) + 1 := by
      rw [nd_eq]
      show ndB o.kind o.op [(a.line, _)] = _
      rw [hk]
      unfold ndB
      rw [if_pos rfl, h1]
    rw [hl, hn]
    unfold ndW
    rw [if_pos (Int.le_refl _)]
    exact Nat.succ_le_succ ha.2
theorem at_null {d : Nat} {i : Int} (hi : i = 0 ∨ i = 1) {a : Ex} (ha : At d 5 a) : At d 4 (mkE 7 i [a]) := by
  have hf : fitsB 7 i 1 = true := by rcases hi with rfl | rfl <;> rfl
  have hl : (mkE 7 i [a]).line = 4 := by rcases hi with rfl | rfl <;> rfl
  refine ⟨(shE_eq _).2 ⟨⟨hf, (fun q => by cases q), fun _ => rfl, (fun q => by cases q), fun _ => ⟨rfl, rfl⟩⟩, fun x hx => ?_⟩, ?_⟩
  · obtain rfl : x = a := by simpa [mkE] using hx
    exact ha.1
  · have hn : Go.Proofs.YtekapdpfbkdflaaGreatDoor.nd (mkE 7 i [a]) = ndW 5 (a.line, Go.Proofs.YtekapdpfbkdflaaGreatDoor.nd a) := by
      rw [nd_eq]
      show ndB 7 i [(a.line, _)] = _
      unfold ndB
      rw [if_neg (by decide), if_neg (by decide), if_pos rfl]
    rw [hl, hn]
    unfold ndW
    rw [if_pos (Int.le_refl _)]
    exact ha.2
theorem at_lit {d : Nat} {n : Int} (hn : n ≤ 9) {v : Val} (hv : LitOk v) : At d n (litE v) := by
  refine ⟨(shE_eq _).2 ⟨⟨rfl, fun _ => hv, fun q => absurd rfl q, (fun q => by cases q), fun _ => ⟨rfl, rfl⟩⟩, fun x hx => by simp [litE] at hx⟩, ?_⟩
  have hl : (litE v).line = 9 := rfl
  have hd : Go.Proofs.YtekapdpfbkdflaaGreatDoor.nd (litE v) = 0 := by rw [nd_eq]; rfl
  rw [hl, hd]
  unfold ndW
  rw [if_pos hn]
  exact Nat.zero_le _
theorem at_col {d : Nat} {n : Int} (hn : n ≤ 9) {t c : List UInt8} (h : nmB c = true) (ht : t = [] ∨ nmB t = true) : At d n (colE t c) := by
  refine ⟨(shE_eq _).2 ⟨⟨rfl, (fun q => by cases q), fun _ => rfl, fun _ => ⟨h, ht⟩, fun q => absurd rfl q⟩, fun x hx => by simp [colE] at hx⟩, ?_⟩
  have hl : (colE t c).line = 9 := rfl
  have hd : Go.Proofs.YtekapdpfbkdflaaGreatDoor.nd (colE t c) = 0 := by rw [nd_eq]; rfl
  rw [hl, hd]
  unfold ndW
  rw [if_pos hn]
  exact Nat.zero_le _
theorem ndM_le {d : Nat} : ∀ xs : List Ex, (∀ x ∈ xs, At d 1 x) → ndM (xs.map fun x => (x.line, Go.Proofs.YtekapdpfbkdflaaGreatDoor.nd x)) ≤ d
  | [], _ => Nat.zero_le _
  | x :: r, h => Nat.max_le.2 ⟨(h x (List.mem_cons_self ..)).nd, ndM_le r fun y hy => h y (List.mem_cons_of_mem _ hy)⟩
theorem at_call {d : Nat} {n : Int} (hn : n ≤ 9) {c : Cal} (hc : c ∈ cals) {xs : List Ex} (hl : xs.length = c.cnt ∨ c.all = true ∧ xs.length = 0) (h : ∀ x ∈ xs, At d 1 x) : At (d + 1) n (mkE c.kind c.op xs) := by
  obtain ⟨f1, f2, f3⟩ := cals_fit c hc
  have hf : fitsB c.kind c.op xs.length = true := by
    rcases hl with hl | ⟨ha, hl⟩
    · rw [hl]; exact f1
    · rw [hl]; exact f2 ha
  refine ⟨(shE_eq _).2 ⟨⟨hf, fun q => ?_, fun _ => rfl, fun q => ?_, fun _ => ⟨rfl, rfl⟩⟩, fun x hx => (h x hx).1⟩, ?_⟩
  · have : c.kind = 1 := q
    omega
  · have : c.kind = 2 := q
    omega
  · have hl : (mkE c.kind c.op xs).line = 9 := cals_line c hc _
    have hd : Go.Proofs.YtekapdpfbkdflaaGreatDoor.nd (mkE c.kind c.op xs) = ndM (xs.map fun x => (x.line, Go.Proofs.YtekapdpfbkdflaaGreatDoor.nd x)) + 1 := by
      rw [nd_eq]
      show ndB c.kind c.op (xs.map _) = _
      unfold ndB
      rw [if_neg (by omega), if_neg (by omega), if_neg (by omega), if_pos f3]
    rw [hl, hd]
    unfold ndW
    rw [if_pos hn]
    exact Nat.succ_le_succ (ndM_le xs h)
/-! ### Reading -/
/-- Words that a text gives. -/
def TkG (l : Ts) : Prop := ∀ x ∈ l, GoodT x.1 ∧ x.1.s.length ≤ 16384
theorem TkG.suf {l r : Ts} (h : TkG l) (s : r <:+ l) : TkG r := fun x hx => h x (s.subset hx)
theorem TkG.tail {l : Ts} (h : TkG l) : TkG l.tail := h.suf (List.tail_suffix l)
def Bk1 (d : Nat) (n : Int) (P : Ts → Rd Ex) : Prop := ∀ l e r, TkG l → P l = .ok (e, r) → At d n e
theorem opAt_mem {n : Int} {l : Ts} {o : Opr} (h : opAt n l = some o) : o ∈ oprs ∧ o.line = n := by
  have h1 := List.mem_of_find?_eq_some h
  have h2 := List.find?_some h
  simp only [Bool.and_eq_true, beq_iff_eq] at h2
  exact ⟨h1, h2.1⟩
theorem bk_rowL {d : Nat} {n : Int} {P : Ts → Rd Ex} (hn : n = 1 ∨ n = 2 ∨ n = 5 ∨ n = 6 ∨ n = 7) (h : Bk1 d (n + 1) P) (hs : Sf P) : ∀ (f : Nat) (e : Ex) (l : Ts) (e' : Ex) (r : Ts), TkG l → At d n e → rowL n P f e l = .ok (e', r) → At d n e'
  | 0, e, l, e', r, hl, he, q => by cases q; exact he
  | f + 1, e, l, e', r, hl, he, q => by
    unfold rowL at q
    split at q
    · cases q; exact he
    · rename_i o ho
      split at q
      · cases q
      · rename_i z hz
        obtain ⟨z1, z2⟩ := z
        obtain ⟨om, ol⟩ := opAt_mem ho
        have hk := (oprs_kind o om).2 (by omega)
        have h2 := at_two (d := d) om hk (a := e) (b := z1) (by rw [if_neg (by omega), ol]; exact he) (by rw [ol]; exact h _ _ _ hl.tail hz)
        rw [ol] at h2
        exact bk_rowL hn h hs f _ _ _ _ (hl.tail.suf (hs _ _ hz)) h2 q
theorem bk_row {d : Nat} {n : Int} {P : Ts → Rd Ex} (hn : n = 1 ∨ n = 2 ∨ n = 5 ∨ n = 6 ∨ n = 7) (h : Bk1 d (n + 1) P) (hs : Sf P) : Bk1 d n (rowP n P) := by
  intro l e r hl q
  unfold rowP at q
  split at q
  · cases q
  · rename_i z hz
    obtain ⟨z1, z2⟩ := z
    exact bk_rowL hn h hs _ _ _ _ _ (hl.suf (hs _ _ hz)) ((h _ _ _ hl hz).down (by omega)) q
theorem null_01 {l r : Ts} {i : Int} (q : nullP l = .ok (i, r)) : i = 0 ∨ i = 1 := by
  unfold nullP at q
  split at q
  · split at q
    · cases q
    · cases q; exact Or.inr rfl
  · split at q
    · cases q
    · cases q; exact Or.inl rfl
theorem bk_test {d : Nat} {P : Ts → Rd Ex} (h : Bk1 d 5 P) (hs : Sf P) : Bk1 d 4 (testP P) := by
  intro l e r hl q
  unfold testP at q
  split at q
  · cases q
  · rename_i z hz
    obtain ⟨z1, z2⟩ := z
    have h1 := h _ _ _ hl hz
    have h2 := hl.suf (hs _ _ hz)
    split at q
    · split at q
      · cases q
      · rename_i u hu
        obtain ⟨u1, u2⟩ := u
        cases q
        exact at_null (null_01 hu) h1
    · split at q
      · cases q; exact h1.down (by decide)
      · rename_i o ho
        split at q
        · cases q
        · rename_i u hu
          obtain ⟨u1, u2⟩ := u
          cases q
          obtain ⟨om, ol⟩ := opAt_mem ho
          have h3 := at_two (d := d) om ((oprs_kind o om).2 (by omega)) (a := z1) (b := u1) (by rw [if_pos ol]; exact h1) (by rw [ol]; exact h _ _ _ h2.tail hu)
          rw [ol] at h3
          exact h3
/-- The lines one nesting deeper. -/
def Bk1O (d : Nat) (n : Int) (p : Option (Ts → Rd Ex)) : Prop := ∀ g, p = some g → ∃ d', d = d' + 1 ∧ Bk1 d' n g
theorem bk_ahead {d : Nat} {n : Int} {P : Ts → Rd Ex} {p : Option (Ts → Rd Ex)} (hn : n = 3 ∨ n = 8) (h : Bk1 d (n + 1) P) (hp : Bk1O d n p) : Bk1 d n (aheadP n P p) := by
  intro l e r hl q
  unfold aheadP at q
  split at q
  · exact (h _ _ _ hl q).down (by omega)
  · rename_i o ho
    split at q
    · cases q
    · rename_i g
      split at q
      · cases q
      · rename_i z hz
        obtain ⟨z1, z2⟩ := z
        cases q
        obtain ⟨om, ol⟩ := opAt_mem ho
        obtain ⟨d', rfl, hg⟩ := hp g rfl
        have h3 := at_one (d := d') om ((oprs_kind o om).1 (by omega)) (a := z1) (by rw [ol]; exact hg _ _ _ hl.tail hz)
        rw [ol] at h3
        exact h3
theorem bk_opsL {d : Nat} {g : Ts → Rd Ex} (h : Bk1 d 1 g) (hs : Sf g) : ∀ (n : Nat) (acc : List Ex) (l : Ts) (es : List Ex) (r : Ts), TkG l → (∀ x ∈ acc, At d 1 x) → opsL g n acc l = .ok (es, r) → es.length = acc.length + n ∧ ∀ x ∈ es, At d 1 x
  | 0, acc, l, es, r, hl, ha, q => by cases q; exact ⟨rfl, ha⟩
  | n + 1, acc, l, es, r, hl, ha, q => by
    unfold opsL at q
    split at q
    · split at q
      · cases q
      · rename_i z hz
        obtain ⟨z1, z2⟩ := z
        have := bk_opsL h hs n _ _ _ _ (hl.tail.suf (hs _ _ hz)) (fun x hx => by
          rcases List.mem_append.1 hx with hx | hx
          · exact ha x hx
          · simp only [List.mem_cons, List.not_mem_nil, or_false] at hx
            rw [hx]; exact h _ _ _ hl.tail hz) q
        simp only [List.length_append, List.length_cons, List.length_nil] at this
        exact ⟨by omega, this.2⟩
    · cases q
theorem bk_in {d : Nat} {g : Ts → Rd Ex} (h : Bk1 d 1 g) (hs : Sf g) {c : Cal} (hc : c ∈ cals) {l : Ts} {es : List Ex} {r : Ts} (hl : TkG l) (q : inP g c l = .ok (es, r)) : (es.length = c.cnt ∨ c.all = true ∧ es.length = 0) ∧ ∀ x ∈ es, At d 1 x := by
  have hcc := cals_cnt3 c hc
  unfold inP at q
  split at q
  · rename_i ha
    cases q
    exact ⟨Or.inr ⟨by simp only [Bool.and_eq_true] at ha; exact ha.1, rfl⟩, fun x hx => by simp at hx⟩
  · unfold opsP at q
    split at q
    · cases q
    · rename_i z hz
      obtain ⟨z1, z2⟩ := z
      have := bk_opsL h hs _ _ _ _ _ (hl.suf (hs _ _ hz)) (fun x hx => by
        simp only [List.mem_cons, List.not_mem_nil, or_false] at hx
        rw [hx]; exact h _ _ _ hl hz) q
      simp only [List.length_cons, List.length_nil] at this
      exact ⟨Or.inl (by omega), this.2⟩
theorem name_ok {l r : Ts} {s : List UInt8} (q : nameP l = .ok (s, r)) : nmB s = true := by
  cases l with
  | nil => cases q
  | cons x l =>
    by_cases h : x.1.k = 1 ∧ nmB x.1.s = true
    · rw [nameP, if_pos h] at q; cases q; exact h.2
    · rw [nameP, if_neg h] at q; cases q
theorem bk_col {d : Nat} {n : Int} (hn : n ≤ 9) : Bk1 d n colP := by
  intro l e r hl q
  unfold colP at q
  split at q
  · cases q
  · rename_i z hz
    obtain ⟨z1, z2⟩ := z
    split at q
    · split at q
      · cases q
      · rename_i u hu
        obtain ⟨u1, u2⟩ := u
        cases q
        exact at_col hn (name_ok hu) (Or.inr (name_ok hz))
    · cases q
      exact at_col hn (name_ok hz) (Or.inl rfl)
theorem bk_item {d : Nat} {p : Option (Ts → Rd Ex)} (hp : Bk1O d 1 p) (hs : SfO p) : Bk1 d 9 (itemP p) := by
  intro l e r hl q
  unfold itemP at q
  split at q
  · obtain ⟨g, r', hg, q', _⟩ := brk_len q
    obtain ⟨d', rfl, h⟩ := hp g hg
    exact (h _ _ _ hl.tail q').brk
  · split at q
    · rename_i v hv
      cases q
      refine at_lit (Int.le_refl _) ?_
      cases l with
      | nil => cases hv
      | cons x r =>
        have hx := hl x (List.mem_cons_self ..)
        exact ⟨x.1, hx.1, hx.2, hv⟩
    · split at q
      · rename_i c hc
        split at q
        · cases q
        · rename_i z hz
          obtain ⟨z1, z2⟩ := z
          cases q
          obtain ⟨g, r', hg, q', _⟩ := brk_len hz
          obtain ⟨d', rfl, h⟩ := hp g hg
          have := bk_in h (hs g hg) (calT_mem hc) hl.tail.tail q'
          exact at_call (Int.le_refl _) (calT_mem hc) this.1 this.2
      · exact bk_col (by decide) _ _ _ hl q
def Bk1L (d : Nat) (p : Lns) : Prop := Bk1 d 8 p.sg ∧ Bk1 d 3 p.nt ∧ Bk1 d 1 p.orr
theorem bk_mkL {d : Nat} {p : Option Lns} (hs : ∀ q, p = some q → SfL q) (h : ∀ q, p = some q → ∃ d', d = d' + 1 ∧ Bk1L d' q) : Bk1L d (mkL p) := by
  have s1 : Sf (signP p) := sf_ahead (sf_item (sfo_map fun q hq => (hs q hq).2.2)) (sfo_map fun q hq => (hs q hq).1)
  have s2 : Sf (catP p) := sf_row (sf_row (sf_row s1))
  have s3 : Sf (notP p) := sf_ahead (sf_test s2) (sfo_map fun q hq => (hs q hq).2.1)
  have o (n : Int) (f : Lns → Ts → Rd Ex) (hf : ∀ d' q, Bk1L d' q → Bk1 d' n (f q)) : Bk1O d n (p.map f) := by
    intro g hg
    cases p with
    | none => cases hg
    | some q =>
      cases hg
      obtain ⟨d', e, hq⟩ := h q rfl
      exact ⟨d', e, hf d' q hq⟩
  have h1 : Bk1 d 8 (signP p) := bk_ahead (Or.inr rfl) (bk_item (o 1 (·.orr) fun _ _ q => q.2.2) (sfo_map fun q hq => (hs q hq).2.2)) (o 8 (·.sg) fun _ _ q => q.1)
  have h2 : Bk1 d 5 (catP p) := bk_row (by decide) (bk_row (by decide) (bk_row (by decide) h1 s1) (sf_row s1)) (sf_row (sf_row s1))
  have h3 : Bk1 d 3 (notP p) := bk_ahead (Or.inl rfl) (bk_test h2 s2) (o 3 (·.nt) fun _ _ q => q.2.1)
  exact ⟨h1, h3, bk_row (by decide) (bk_row (by decide) h3 s3) (sf_row s3)⟩
theorem bk_lns : ∀ d, Bk1L d (lns d)
  | 0 => bk_mkL (fun q hq => by cases hq) (fun q hq => by cases hq)
  | d + 1 => bk_mkL (fun q hq => by cases hq; exact sf_lns d) (fun q hq => by cases hq; exact ⟨d, rfl, bk_lns d⟩)
end Go.Proofs.YtekapdpfbkdflaaGreatDoor
namespace Go.Proofs.YtekapdpfbkdflaaGreatDoor
open Go.Lib
set_option linter.unusedVariables false
set_option maxRecDepth 20000

/-- What stands ahead, of each kind: as a text, and as words. -/
def opT (k : Nat) : List UInt8 := if k = 0 then [40] else if k = 1 then [97, 98, 115, 40] else [40, 110, 111, 116, 32]
def opW (k : Nat) : List Tk := if k = 0 then [⟨5, [40], 0⟩] else if k = 1 then [⟨1, [97, 98, 115], 0⟩, ⟨5, [40], 0⟩] else [⟨5, [40], 0⟩, ⟨1, [110, 111, 116], 0⟩]
def chT : Nat → List UInt8
  | 0 => []
  | n + 1 => 32 :: 43 :: 32 :: 49 :: chT n
def chW : Nat → List Tk
  | 0 => []
  | n + 1 => ⟨5, [43], 0⟩ :: ⟨2, [], 1⟩ :: chW n
def deepN (ks : List Nat) : Nat := (ks.map fun k => if k = 0 then 1 else if k = 1 then 1 else 2).sum
def dpT (ks : List Nat) (m : Nat) : List UInt8 := ks.flatMap opT ++ ((97 :: chT m) ++ List.replicate ks.length 41)
def dpW (ks : List Nat) (m : Nat) : List Tk := ks.flatMap opW ++ ((⟨1, [97], 0⟩ :: chW m) ++ List.replicate ks.length ⟨5, [41], 0⟩)
theorem dpW_cons (k : Nat) (ks : List Nat) (m : Nat) : dpW (k :: ks) m = opW k ++ (dpW ks m ++ [⟨5, [41], 0⟩]) := by
  unfold dpW
  rw [List.flatMap_cons, List.length_cons, List.replicate_succ']
  simp only [List.append_assoc]

/-! ### Words -/
theorem toks_abs (f : Nat) (r : List UInt8) (i : Nat) : toks (f + 1) (97 :: 98 :: 115 :: 40 :: r) i = (toks f (40 :: r) (i + 3)).map ((⟨1, [97, 98, 115], 0⟩, i) :: ·) := rfl
theorem toks_not (f : Nat) (r : List UInt8) (i : Nat) : toks (f + 1) (110 :: 111 :: 116 :: 32 :: r) i = (toks f (32 :: r) (i + 3)).map ((⟨1, [110, 111, 116], 0⟩, i) :: ·) := rfl
theorem toks_pl (f : Nat) (r : List UInt8) (i : Nat) : toks (f + 1) (43 :: 32 :: r) i = (toks f (32 :: r) (i + 1)).map ((⟨5, [43], 0⟩, i) :: ·) := rfl
theorem toks_a {f : Nat} {r : List UInt8} (hr : r = [] ∨ ∃ s, r = 32 :: s ∨ r = 41 :: s) (i : Nat) : toks (f + 1) (97 :: r) i = (toks f r (i + 1)).map ((⟨1, [97], 0⟩, i) :: ·) := by
  rcases hr with rfl | ⟨s, rfl | rfl⟩ <;> rfl
/-- Words of a text that begins so. -/
def Wds (l : List UInt8) (r : List UInt8) (ws : List Tk) : Prop := ∀ f i, l.length < f → ∃ xs g j, xs.map (·.1) = ws ∧ r.length < g ∧ toks f l i = addT xs (toks g r j)
theorem Wds.trans {l r s : List UInt8} {a b : List Tk} (h : Wds l r a) (k : Wds r s b) : Wds l s (a ++ b) := by
  intro f i hf
  obtain ⟨xs, g, j, hx, hg, e⟩ := h f i hf
  obtain ⟨ys, g', j', hy, hg', e'⟩ := k g j hg
  refine ⟨xs ++ ys, g', j', by rw [List.map_append, hx, hy], hg', ?_⟩
  rw [e, e']
  cases toks g' s j' <;> simp [addT]
theorem Wds.refl (l : List UInt8) : Wds l l [] := fun f i hf => ⟨[], f, i, rfl, hf, (addT_nil _).symm⟩
theorem Wds.one {l r : List UInt8} {t : Tk} {n : Nat} (hl : r.length < l.length) (h : ∀ f i, toks (f + 1) l i = (toks f r (i + n)).map ((t, i) :: ·)) : Wds l r [t] := by
  intro f i hf
  obtain ⟨f, rfl⟩ : ∃ g, f = g + 1 := ⟨f - 1, by omega⟩
  refine ⟨[(t, i)], f, i + n, rfl, by omega, ?_⟩
  rw [h]
  cases toks f r (i + n) <;> rfl
theorem Wds.sp (r : List UInt8) : Wds (32 :: r) r [] := by
  intro f i hf
  obtain ⟨f, rfl⟩ : ∃ g, f = g + 1 := ⟨f - 1, by omega⟩
  exact ⟨[], f, i + 1, rfl, by simp at hf; omega, by rw [addT_nil]; rfl⟩
theorem wds_op (k : Nat) (r : List UInt8) : Wds (opT k ++ r) r (opW k) := by
  unfold opT opW
  by_cases h0 : k = 0
  · rw [if_pos h0, if_pos h0]
    exact Wds.one (n := 1) (by simp) (fun f i => toks_op f r i)
  · rw [if_neg h0, if_neg h0]
    by_cases h1 : k = 1
    · rw [if_pos h1, if_pos h1]
      exact (Wds.one (r := 40 :: r) (n := 3) (by simp) (fun f i => toks_abs f r i)).trans (Wds.one (n := 1) (by simp) (fun f i => toks_op f r i))
    · rw [if_neg h1, if_neg h1]
      have a : Wds (40 :: 110 :: 111 :: 116 :: 32 :: r) (110 :: 111 :: 116 :: 32 :: r) [⟨5, [40], 0⟩] := Wds.one (n := 1) (by simp) (fun f i => toks_op f _ i)
      have b : Wds (110 :: 111 :: 116 :: 32 :: r) (32 :: r) [⟨1, [110, 111, 116], 0⟩] := Wds.one (n := 3) (by simp) (fun f i => toks_not f r i)
      exact (a.trans b).trans (Wds.sp r)
theorem wds_ops : ∀ (ks : List Nat) (r : List UInt8), Wds (ks.flatMap opT ++ r) r (ks.flatMap opW)
  | [], r => Wds.refl r
  | k :: ks, r => by
    rw [List.flatMap_cons, List.flatMap_cons, List.append_assoc]
    exact (wds_op k _).trans (wds_ops ks r)
theorem dg_49 : Dg 49 := ⟨by decide, by decide⟩
theorem map_two {l : Ts} {a b : Tk} {r : List Tk} (h : l.map (·.1) = a :: b :: r) : ∃ p q t, l = (a, p) :: (b, q) :: t ∧ t.map (·.1) = r := by
  cases l with
  | nil => cases h
  | cons x l =>
    cases l with
    | nil => simp at h
    | cons y l =>
      simp only [List.map_cons, List.cons.injEq] at h
      obtain ⟨rfl, rfl, h⟩ := h
      exact ⟨x.2, y.2, l, rfl, h⟩
theorem map_one {l : Ts} {a : Tk} {r : List Tk} (h : l.map (·.1) = a :: r) : ∃ p t, l = (a, p) :: t ∧ t.map (·.1) = r := by
  cases l with
  | nil => cases h
  | cons x l =>
    simp only [List.map_cons, List.cons.injEq] at h
    obtain ⟨rfl, h⟩ := h
    exact ⟨x.2, l, rfl, h⟩
theorem chT_head : ∀ (m n : Nat), chT m ++ List.replicate n (41 : UInt8) = [] ∨ ∃ s, chT m ++ List.replicate n (41 : UInt8) = 32 :: s ∨ chT m ++ List.replicate n (41 : UInt8) = 41 :: s
  | 0, 0 => Or.inl rfl
  | 0, n + 1 => Or.inr ⟨_, Or.inr rfl⟩
  | m + 1, n => Or.inr ⟨_, Or.inl rfl⟩
theorem wds_ch (n : Nat) : ∀ m : Nat, Wds (chT m ++ List.replicate n 41) (List.replicate n 41) (chW m)
  | 0 => Wds.refl _
  | m + 1 => by
    have h1 : Wds (32 :: 43 :: 32 :: 49 :: (chT m ++ List.replicate n 41)) (43 :: 32 :: 49 :: (chT m ++ List.replicate n 41)) [] := Wds.sp _
    have h2 : Wds (43 :: 32 :: 49 :: (chT m ++ List.replicate n 41)) (32 :: 49 :: (chT m ++ List.replicate n 41)) [⟨5, [43], 0⟩] := Wds.one (n := 1) (by simp) (fun f i => toks_pl f _ i)
    have h3 : Wds (32 :: 49 :: (chT m ++ List.replicate n 41)) (49 :: (chT m ++ List.replicate n 41)) [] := Wds.sp _
    have h4 : Wds (49 :: (chT m ++ List.replicate n 41)) (chT m ++ List.replicate n 41) [⟨2, [], 1⟩] := Wds.one (n := 1) (by simp) (fun f i => toks_dg dg_49 _ (fun d s h => by
      rcases chT_head m n with e | ⟨s', e | e⟩
      · rw [e] at h; cases h
      · rw [e] at h; cases h; rfl
      · rw [e] at h; cases h; rfl) i)
    exact (((h1.trans h2).trans h3).trans h4).trans (wds_ch n m)
theorem wds_cl : ∀ n : Nat, Wds (List.replicate n 41) [] (List.replicate n ⟨5, [41], 0⟩)
  | 0 => Wds.refl _
  | n + 1 => (Wds.one (l := 41 :: List.replicate n 41) (r := List.replicate n 41) (n := 1) (by simp) (fun f i => toks_cl f _ i)).trans (wds_cl n)
theorem toks_dp (ks : List Nat) (m : Nat) : ∃ l, toksOf (dpT ks m) = .ok l ∧ l.map (·.1) = dpW ks m := by
  have h1 := wds_ops ks ((97 :: chT m) ++ List.replicate ks.length 41)
  have h2 : Wds ((97 :: chT m) ++ List.replicate ks.length 41) (chT m ++ List.replicate ks.length 41) [⟨1, [97], 0⟩] := Wds.one (n := 1) (by simp) (fun f i => toks_a (chT_head m ks.length) i)
  have h := h1.trans ((h2.trans (wds_ch ks.length m)).trans (wds_cl ks.length))
  obtain ⟨xs, g, j, hx, hg, e⟩ := h ((dpT ks m).length + 1) 0 (by unfold dpT; omega)
  refine ⟨xs, ?_, ?_⟩
  · unfold toksOf
    unfold dpT at e ⊢
    rw [e, toks_nil]
    simp [addT]
  · rw [hx]
    unfold dpW
    simp

/-! ### Reading -/
theorem not_at (n : Int) (p : Nat) (m : Ts) : opAt 3 ((⟨1, [110, 111, 116], n⟩, p) :: m) = some ⟨3, 2, 1, [110, 111, 116], 3⟩ := rfl
theorem not_ok {d : Nat} {n : Int} {p : Nat} {m r : Ts} {e : Ex} (h : (lns d).nt m = .ok (e, r)) (hr : Stp r) : (lns (d + 1)).nt ((⟨1, [110, 111, 116], n⟩, p) :: m) = .ok (mkE 3 2 [e], r) ∧ (lns (d + 1)).orr ((⟨1, [110, 111, 116], n⟩, p) :: m) = .ok (mkE 3 2 [e], r) := by
  have hn : notP (some (lns d)) ((⟨1, [110, 111, 116], n⟩, p) :: m) = .ok (mkE 3 2 [e], r) := by
    unfold notP aheadP
    rw [not_at]
    simp only [Option.map_some, List.tail_cons]
    rw [h]
  exact ⟨hn, row_ok (row_ok hn (hr.1 2)) (hr.1 1)⟩
theorem not_err {d : Nat} {n : Int} {p : Nat} {m : Ts} {z : Ts × Int} (h : (lns d).nt m = .error z) : (lns (d + 1)).nt ((⟨1, [110, 111, 116], n⟩, p) :: m) = .error z ∧ (lns (d + 1)).orr ((⟨1, [110, 111, 116], n⟩, p) :: m) = .error z := by
  have hn : notP (some (lns d)) ((⟨1, [110, 111, 116], n⟩, p) :: m) = .error z := by
    unfold notP aheadP
    rw [not_at]
    simp only [Option.map_some, List.tail_cons]
    rw [h]
  exact ⟨hn, row_err (row_err hn)⟩
theorem not_zero {n : Int} {p : Nat} {m : Ts} : ∃ z, (lns 0).nt ((⟨1, [110, 111, 116], n⟩, p) :: m) = .error (z, 21) ∧ (lns 0).orr ((⟨1, [110, 111, 116], n⟩, p) :: m) = .error (z, 21) := by
  have hn : notP none ((⟨1, [110, 111, 116], n⟩, p) :: m) = .error (((⟨1, [110, 111, 116], n⟩, p) :: m), 21) := by
    unfold notP aheadP
    rw [not_at]
    rfl
  exact ⟨_, hn, row_err (n := 1) (row_err (n := 2) hn)⟩
theorem brk_zero {x : Tk × Nat} {l : Ts} (hx : x.1.k = 5 ∧ x.1.s = [40]) : (lns 0).nt (x :: l) = .error (x :: l, 21) ∧ (lns 0).orr (x :: l) = .error (x :: l, 21) := by
  have hi : itemP ((none : Option Lns).map (·.orr)) (x :: l) = .error (x :: l, 21) := by
    unfold itemP
    rw [if_pos (by simp [stn, hx])]
    rfl
  have := up_err (p := none) (op_open _ hx.2 3) (op_open _ hx.2 8) hi
  exact ⟨this.2.1, this.2.2⟩
def absC : Cal := ⟨5, 2, [97, 98, 115], 1⟩
theorem abs_op (k : Int) (p : Nat) (m : Ts) : opAt 3 ((⟨1, [97, 98, 115], k⟩, p) :: m) = none ∧ opAt 8 ((⟨1, [97, 98, 115], k⟩, p) :: m) = none := ⟨rfl, rfl⟩
theorem abs_item {pr : Option (Ts → Rd Ex)} (k k' : Int) (p p' : Nat) (m : Ts) : itemP pr ((⟨1, [97, 98, 115], k⟩, p) :: (⟨5, [40], k'⟩, p') :: m) = (match brkP pr (fun g => inP g absC) ((⟨5, [40], k'⟩, p') :: m) with
      | .error x => .error x
      | .ok y => .ok (mkE 5 2 y.1, y.2)) := rfl
theorem abs_ok {d : Nat} {k k' : Int} {p p' : Nat} {y : Tk × Nat} {l c : Ts} {e : Ex} (hy : y.1.k = 5 ∧ y.1.s = [41]) (hc : Stp c) (h : (lns d).orr (l ++ y :: c) = .ok (e, y :: c)) :
    (lns (d + 1)).nt ((⟨1, [97, 98, 115], k⟩, p) :: (⟨5, [40], k'⟩, p') :: (l ++ y :: c)) = .ok (mkE 5 2 [e], c) ∧ (lns (d + 1)).orr ((⟨1, [97, 98, 115], k⟩, p) :: (⟨5, [40], k'⟩, p') :: (l ++ y :: c)) = .ok (mkE 5 2 [e], c) := by
  have hi : itemP ((some (lns d)).map (·.orr)) ((⟨1, [97, 98, 115], k⟩, p) :: (⟨5, [40], k'⟩, p') :: (l ++ y :: c)) = .ok (mkE 5 2 [e], c) := by
    rw [abs_item]
    unfold brkP
    simp only [Option.map_some, List.tail_cons]
    have hin : inP (lns d).orr absC (l ++ y :: c) = .ok ([e], y :: c) := by
      unfold inP
      rw [if_neg (by simp [Cal.all, absC])]
      unfold opsP
      rw [h]
      rfl
    rw [hin]
    simp only []
    unfold mustP
    rw [if_pos (by simp [stn, hy])]
    rfl
  have := up_ok (p := some (lns d)) (abs_op k p _).1 (abs_op k p _).2 hi hc
  exact ⟨this.2.1, this.2.2⟩
theorem abs_err {d : Nat} {k k' : Int} {p p' : Nat} {l : Ts} {z : Ts × Int} (h : (lns d).orr l = .error z) :
    (lns (d + 1)).nt ((⟨1, [97, 98, 115], k⟩, p) :: (⟨5, [40], k'⟩, p') :: l) = .error z ∧ (lns (d + 1)).orr ((⟨1, [97, 98, 115], k⟩, p) :: (⟨5, [40], k'⟩, p') :: l) = .error z := by
  have hi : itemP ((some (lns d)).map (·.orr)) ((⟨1, [97, 98, 115], k⟩, p) :: (⟨5, [40], k'⟩, p') :: l) = .error z := by
    rw [abs_item]
    unfold brkP
    simp only [Option.map_some, List.tail_cons]
    have hin : inP (lns d).orr absC l = .error z := by
      unfold inP
      rw [if_neg (by simp [Cal.all, absC])]
      unfold opsP
      rw [h]
    rw [hin]
  have := up_err (p := some (lns d)) (abs_op k p _).1 (abs_op k p _).2 hi
  exact ⟨this.2.1, this.2.2⟩
theorem abs_zero {k k' : Int} {p p' : Nat} {l : Ts} : ∃ z, (lns 0).nt ((⟨1, [97, 98, 115], k⟩, p) :: (⟨5, [40], k'⟩, p') :: l) = .error (z, 21) ∧ (lns 0).orr ((⟨1, [97, 98, 115], k⟩, p) :: (⟨5, [40], k'⟩, p') :: l) = .error (z, 21) := by
  have hi : itemP ((none : Option Lns).map (·.orr)) ((⟨1, [97, 98, 115], k⟩, p) :: (⟨5, [40], k'⟩, p') :: l) = .error ((⟨5, [40], k'⟩, p') :: l, 21) := by
    rw [abs_item]
    rfl
  have := up_err (p := none) (abs_op k p _).1 (abs_op k p _).2 hi
  exact ⟨_, this.2.1, this.2.2⟩
/-- The chain. -/
theorem one_item (pr : Option Lns) (v : Int) (p : Nat) (r : Ts) : signP pr ((⟨2, [], v⟩, p) :: r) = .ok (litE ⟨2, v, ⟨#[]⟩⟩, r) := rfl
theorem opAt_ch (n : Int) (hn : n ≠ 6) {c : Ts} (hc : Clo c) : ∀ (m : Nat) (t : Ts), t.map (·.1) = chW m → opAt n (t ++ c) = none
  | 0, t, h => by
    obtain rfl : t = [] := by simpa [chW] using h
    exact hc.op n
  | m + 1, t, h => by
    obtain ⟨p, q', t, rfl, _⟩ := map_two h
    · rw [List.cons_append]
      refine opAt_head fun o ho hl q => ?_
      have h' : (oprs.all fun o => !(o.tok == 5 && o.txt == [43]) || o.line == 6) = true := rfl
      have := List.all_eq_true.1 h' o ho
      simp only [] at q
      rw [← q.1, ← q.2, hl] at this
      simp at this
      exact hn this
theorem chain_rows {pr : Option Lns} {c : Ts} (hc : Clo c) : ∀ (m : Nat) (t : Ts) (e : Ex) (f : Nat), t.map (·.1) = chW m → (t ++ c).length ≤ f → ∃ e', rowL 6 (rowP 7 (signP pr)) f e (t ++ c) = .ok (e', c)
  | 0, t, e, f, h, hf => by
    obtain rfl : t = [] := by simpa [chW] using h
    cases f with
    | zero => exact ⟨e, rfl⟩
    | succ f =>
      refine ⟨e, ?_⟩
      rw [List.nil_append, rowL, hc.op 6]
  | m + 1, t, e, f, h, hf => by
    obtain ⟨xp, yp, t, rfl, ht⟩ := map_two h
    · obtain ⟨f, rfl⟩ : ∃ g, f = g + 1 := ⟨f - 1, by simp at hf; omega⟩
      have h7 : rowP 7 (signP pr) ((⟨2, [], 1⟩, yp) :: (t ++ c)) = .ok (litE ⟨2, 1, ⟨#[]⟩⟩, t ++ c) := row_ok (one_item pr 1 yp _) (opAt_ch 7 (by decide) hc m t ht)
      obtain ⟨e', he⟩ := chain_rows (pr := pr) hc m t (mkE 4 11 [e, litE ⟨2, 1, ⟨#[]⟩⟩]) f ht (by simp at hf ⊢; omega)
      refine ⟨e', ?_⟩
      have h6 : opAt 6 ((⟨5, [43], 0⟩, xp) :: (⟨2, [], 1⟩, yp) :: (t ++ c)) = some ⟨4, 11, 5, [43], 6⟩ := rfl
      rw [List.cons_append, List.cons_append, rowL, h6]
      simp only [List.tail_cons]
      rw [h7]
      exact he
theorem a_item (pr : Option Lns) (k : Int) (p : Nat) {r : Ts} (h1 : stn 5 [40] r = false) (h2 : stn 5 [46] r = false) : signP pr ((⟨1, [97], k⟩, p) :: r) = .ok (colE [] [97], r) := by
  have hcal : calT ((⟨1, [97], k⟩, p) :: r) = none := by
    cases r with
    | nil => rfl
    | cons y r =>
      show (if (1 : Int) = 1 ∧ y.1.k = 5 ∧ y.1.s = [40] then calN [97] else none) = none
      split
      · rfl
      · rfl
  have hcol : colP ((⟨1, [97], k⟩, p) :: r) = .ok (colE [] [97], r) := by
    have : nameP ((⟨1, [97], k⟩, p) :: r) = .ok ([97], r) := rfl
    unfold colP
    rw [this]
    simp only []
    rw [if_neg (by rw [h2]; simp)]
  have hit : itemP (pr.map (·.orr)) ((⟨1, [97], k⟩, p) :: r) = .ok (colE [] [97], r) := by
    have hl : litT ((⟨1, [97], k⟩, p) :: r) = none := rfl
    unfold itemP
    rw [if_neg (by simp [stn]), hl]
    simp only []
    rw [hcal]
    exact hcol
  unfold signP
  rw [ahead_no (show opAt 8 ((⟨1, [97], k⟩, p) :: r) = none from rfl)]
  exact hit
theorem stn_ch {k : Int} {s : List UInt8} {c : Ts} (hc : Clo c) (h0 : s ≠ [43]) (h1 : s ≠ [41]) : ∀ (m : Nat) (t : Ts), t.map (·.1) = chW m → stn k s (t ++ c) = false
  | 0, t, h => by
    obtain rfl : t = [] := by simpa [chW] using h
    exact hc.stn h1
  | m + 1, t, h => by
    obtain ⟨p, q', t, rfl, _⟩ := map_two h
    have : (([43] : List UInt8) == s) = false := beq_eq_false_iff_ne.2 (Ne.symm h0)
    rw [List.cons_append]
    simp [stn, this]
theorem chain_all (d m : Nat) {l c : Ts} (hc : Clo c) (h : l.map (·.1) = ⟨1, [97], 0⟩ :: chW m) : ∃ e, (lns d).nt (l ++ c) = .ok (e, c) ∧ (lns d).orr (l ++ c) = .ok (e, c) := by
  obtain ⟨xp, t, rfl, ht⟩ := map_one h
  · obtain ⟨e', he⟩ := chain_rows (pr := prv d) hc m t (colE [] [97]) (t ++ c).length ht (Nat.le_refl _)
    have h7 : rowP 7 (signP (prv d)) ((⟨1, [97], 0⟩, xp) :: (t ++ c)) = .ok (colE [] [97], t ++ c) :=
      row_ok (a_item (prv d) 0 xp (stn_ch hc (by decide) (by decide) m t ht) (stn_ch hc (by decide) (by decide) m t ht)) (opAt_ch 7 (by decide) hc m t ht)
    refine ⟨e', ?_⟩
    rw [lns_eq]
    refine up_sum (p := prv d) rfl ?_ hc.stp
    unfold rowP
    rw [List.cons_append]
    have h7' := h7
    unfold rowP at h7'
    rw [h7']
    exact he
theorem deep_cons (k : Nat) (ks : List Nat) : deepN (k :: ks) = (if k = 0 then 1 else if k = 1 then 1 else 2) + deepN ks := by simp [deepN]
/-- How deep it goes. -/
theorem deep_all (m : Nat) : ∀ (ks : List Nat) (d : Nat) (l c : Ts), l.map (·.1) = dpW ks m → Clo c →
    (deepN ks ≤ d → ∃ e, (lns d).nt (l ++ c) = .ok (e, c) ∧ (lns d).orr (l ++ c) = .ok (e, c)) ∧ (d < deepN ks → ∃ z, (lns d).nt (l ++ c) = .error (z, 21) ∧ (lns d).orr (l ++ c) = .error (z, 21))
  | [], d, l, c, h, hc => ⟨fun _ => chain_all d m hc (by rw [h]; simp [dpW]), fun q => by simp [deepN] at q⟩
  | k :: ks, d, l, c, h, hc => by
    rw [dpW_cons] at h
    obtain ⟨a, r, rfl, ha, hr⟩ := List.map_eq_append_iff.1 h
    obtain ⟨n, s, rfl, hn, hs⟩ := List.map_eq_append_iff.1 hr
    obtain ⟨yp, s', rfl, hs'⟩ := map_one hs
    obtain rfl : s' = [] := by simpa using hs'
    obtain ⟨y, hyy⟩ : ∃ y : Tk × Nat, y = ((⟨5, [41], 0⟩ : Tk), yp) := ⟨_, rfl⟩
    rw [← hyy]
    have hy : y.1 = ⟨5, [41], 0⟩ := by rw [hyy]
    have hy' : y.1.k = 5 ∧ y.1.s = [41] := by rw [hy]; exact ⟨rfl, rfl⟩
    have hcy : Clo (y :: c) := Or.inr ⟨y, c, rfl, hy'⟩
    have e1 : a ++ (n ++ [y]) ++ c = a ++ (n ++ y :: c) := by simp
    rw [e1, deep_cons]
    clear h hr hs e1 hyy
    unfold opW at ha
    by_cases h0 : k = 0
    · subst h0
      simp only [if_true, List.map_eq_singleton_iff] at ha
      obtain ⟨x, rfl, hx⟩ := ha
      have hx' : x.1.k = 5 ∧ x.1.s = [40] := by rw [hx]; exact ⟨rfl, rfl⟩
      rw [if_pos rfl]
      cases d with
      | zero => exact ⟨fun q => by omega, fun _ => ⟨_, brk_zero hx'⟩⟩
      | succ d =>
        have ih := deep_all m ks d n (y :: c) hn hcy
        refine ⟨fun q => ?_, fun q => ?_⟩
        · obtain ⟨e, _, g⟩ := ih.1 (by omega)
          exact ⟨e, brk_ok hx' hy' hc.stp g⟩
        · obtain ⟨z, _, g⟩ := ih.2 (by omega)
          exact ⟨z, brk_err hx' g⟩
    · rw [if_neg h0] at ha
      by_cases h1 : k = 1
      · subst h1
        rw [if_pos rfl] at ha
        obtain ⟨xp, xp', t, rfl, ht⟩ := map_two ha
        · obtain rfl : t = [] := by simpa using ht
          rw [if_neg (by decide), if_pos rfl]
          simp only [List.cons_append, List.nil_append]
          cases d with
          | zero => exact ⟨fun q => by omega, fun _ => abs_zero⟩
          | succ d =>
            have ih := deep_all m ks d n (y :: c) hn hcy
            refine ⟨fun q => ?_, fun q => ?_⟩
            · obtain ⟨e, _, g⟩ := ih.1 (by omega)
              exact ⟨_, abs_ok hy' hc.stp g⟩
            · obtain ⟨z, _, g⟩ := ih.2 (by omega)
              exact ⟨z, abs_err g⟩
      · rw [if_neg h1] at ha
        obtain ⟨xp, xp', t, rfl, ht⟩ := map_two ha
        obtain rfl : t = [] := by simpa using ht
        rw [if_neg h0, if_neg h1]
        simp only [List.cons_append, List.nil_append]
        match d with
        | 0 => exact ⟨fun q => by omega, fun _ => ⟨_, brk_zero ⟨rfl, rfl⟩⟩⟩
        | 1 =>
          refine ⟨fun q => by omega, fun _ => ?_⟩
          obtain ⟨z, _, g⟩ := not_zero (n := 0) (p := xp') (m := n ++ y :: c)
          exact ⟨z, brk_err ⟨rfl, rfl⟩ g⟩
        | d + 2 =>
          have ih := deep_all m ks d n (y :: c) hn hcy
          refine ⟨fun q => ?_, fun q => ?_⟩
          · obtain ⟨e, g, _⟩ := ih.1 (by omega)
            have g2 := (not_ok (n := 0) (p := xp') g hcy.stp).2
            exact ⟨_, brk_ok (l := (⟨1, [110, 111, 116], 0⟩, xp') :: n) ⟨rfl, rfl⟩ hy' hc.stp g2⟩
          · obtain ⟨z, g, _⟩ := ih.2 (by omega)
            exact ⟨z, brk_err ⟨rfl, rfl⟩ (not_err (n := 0) (p := xp') g).2⟩
end Go.Proofs.YtekapdpfbkdflaaGreatDoor
namespace Go.Proofs.YtekapdpfbkdflaaGreatDoor
open Go.Lib
set_option linter.unusedVariables false
set_option maxRecDepth 20000

/-- What may stand behind what is written. -/
def Fl (r : List UInt8) : Prop := ∀ d s, r = d :: s → d = 32 ∨ d = 41 ∨ d = 44
theorem fl_nil : Fl [] := fun d s h => by cases h
theorem fl_32 (r : List UInt8) : Fl (32 :: r) := fun d s h => by cases h; exact Or.inl rfl
theorem fl_41 (r : List UInt8) : Fl (41 :: r) := fun d s h => by cases h; exact Or.inr (Or.inl rfl)
theorem fl_44 (r : List UInt8) : Fl (44 :: r) := fun d s h => by cases h; exact Or.inr (Or.inr rfl)
/-- What a word may not go on with. -/
def Sw (r : List UInt8) : Prop := ∀ d s, r = d :: s → isW d = false ∧ d ≠ 39
theorem Fl.sw {r : List UInt8} (h : Fl r) : Sw r := fun d s e => by
  rcases h d s e with rfl | rfl | rfl <;> exact ⟨by decide, by decide⟩
theorem cntW_end (p : UInt8 → Bool) {l r : List UInt8} (h : ∀ c ∈ l, p c = true) (hr : ∀ d s, r = d :: s → p d = false) : cntW p (l ++ r) = l.length := by
  cases r with
  | nil =>
    rw [List.append_nil]
    clear hr
    induction l with
    | nil => rfl
    | cons c l ih => rw [cntW, if_pos (h c (by simp)), ih fun x hx => h x (List.mem_cons_of_mem _ hx)]; rfl
  | cons d s => exact cntW_stop p d (hr d s rfl) s l h
/-- A word that is read at the front. -/
theorem Wds.fst {c : UInt8} {l r : List UInt8} {t : Tk} (hb : blk (bi c) = false) (hR : isR (c :: l ++ r) = false) (h : first1 (c :: l ++ r) = some (t, (c :: l).length)) : Wds (c :: l ++ r) r [t] := by
  refine Wds.one (n := (c :: l).length) (by simp only [List.length_append, List.length_cons]; omega) fun f i => ?_
  show toks (f + 1) (c :: (l ++ r)) i = _
  rw [toks, if_neg (by simp [hb]), if_neg (by rw [show c :: (l ++ r) = c :: l ++ r from rfl, hR]; simp), show c :: (l ++ r) = c :: l ++ r from rfl, h]
  simp only []
  rw [List.drop_left]
theorem wds_word {c : UInt8} {l r : List UInt8} (hl : ltr (bi c) = true) (ha : ∀ x ∈ c :: l, isW x = true) (hr : Sw r) : Wds (c :: l ++ r) r [⟨1, toLowerA (c :: l), 0⟩] := by
  obtain ⟨f1, f2, f3, f4⟩ := ltr_facts c hl
  refine Wds.fst f3 ?_ ?_
  · cases l with
    | nil => cases r with
      | nil => rfl
      | cons d s => simp [isR, f4]
    | cons d l => simp only [List.cons_append, isR, f4, Bool.false_and]
  · have hcnt := cntW_end isW ha (fun d s e => (hr d s e).1)
    have hX : isX (c :: l ++ r) = false := by
      cases l with
      | nil => cases r with
        | nil => rfl
        | cons d s =>
          have h39 : (bi d == 39) = false := by
            have := (hr d s rfl).2
            rw [beq_eq_false_iff_ne]
            intro q
            apply this
            apply UInt8.toNat_inj.1
            unfold bi at q
            show d.toNat = 39
            omega
          show (((bi c == 120) || (bi c == 88)) && (bi d == 39)) = false
          rw [h39, Bool.and_false]
      | cons d l =>
        have := isW_39 d (ha d (by simp))
        simp only [List.cons_append, isX, this, Bool.and_false]
    rw [show c :: l ++ r = c :: (l ++ r) from rfl, first1_cons, f1, f2]
    rw [show c :: (l ++ r) = c :: l ++ r from rfl, hX, hl, hcnt]
    simp only [Bool.false_eq_true, if_false, if_true]
    rw [take_app _ _ _ (Nat.le_refl _), List.take_length]
theorem wds_num {n : Nat} {r : List UInt8} (hn : n ≤ 9223372036854775807) (hr : ∀ d s, r = d :: s → isD d = false) : Wds (decDigits n ++ r) r [⟨2, [], (n : Int)⟩] := by
  obtain ⟨d1, d2, d3⟩ := valD_dec n n (Nat.le_refl _)
  cases hd : decDigits n with
  | nil => exact absurd hd d3
  | cons c l =>
    rw [hd] at d1 d2
    obtain ⟨f1, f2, f3⟩ := dig_facts c (d2 c (by simp))
    refine Wds.fst f2 ?_ ?_
    · cases l with
      | nil => cases r with
        | nil => rfl
        | cons d s => simp [isR, f3]
      | cons d l => simp only [List.cons_append, isR, f3, Bool.false_and]
    · have hcnt := cntW_end isD d2 hr
      rw [show c :: l ++ r = c :: (l ++ r) from rfl, first1_cons, f1, show dig (bi c) = true from d2 c (by simp)]
      rw [show c :: (l ++ r) = c :: l ++ r from rfl, hcnt]
      simp only [Bool.false_eq_true, if_false, if_true]
      rw [take_app _ _ _ (Nat.le_refl _), List.take_length]
      unfold numD
      rw [d1, if_pos (by omega)]
      rfl
theorem quo_rep2 {s : List UInt8} (hs : ∀ d q, s = d :: q → d ≠ 39) : ∀ (x acc : List UInt8) (i : Nat), quo (rep x ++ 39 :: s) acc i = some (acc ++ x, i + (rep x).length + 1)
  | [], acc, i => by
    show quo (39 :: s) acc i = _
    cases s with
    | nil => rw [quo, if_pos rfl]; simp [rep]
    | cons d q => rw [quo, if_pos rfl, if_neg (hs d q rfl)]; simp [rep]
  | c :: r, acc, i => by
    by_cases hc : c = 39
    · subst hc
      have e : rep (39 :: r) = 39 :: 39 :: rep r := by simp [rep]
      rw [e]
      show quo (39 :: 39 :: (rep r ++ 39 :: s)) acc i = _
      rw [quo, if_pos rfl, if_pos rfl, quo_rep2 hs r]
      simp
      omega
    · have e : rep (c :: r) = c :: rep r := by simp [rep, hc]
      rw [e]
      show quo (c :: (rep r ++ 39 :: s)) acc i = _
      have hne : ∃ d q, rep r ++ 39 :: s = d :: q := by
        cases rep r with
        | nil => exact ⟨_, _, rfl⟩
        | cons d q => exact ⟨_, _, rfl⟩
      obtain ⟨d, q, hdq⟩ := hne
      have := quo_rep2 hs r (acc ++ [c]) (i + 1)
      rw [hdq] at this ⊢
      rw [quo, if_neg hc, this]
      simp
      omega
theorem wds_text {x r : List UInt8} (hr : Fl r) : Wds (39 :: (rep x ++ [39]) ++ r) r [⟨3, x, 0⟩] := by
  have h39 : ∀ d q, r = d :: q → d ≠ 39 := fun d q e => by rcases hr d q e with rfl | rfl | rfl <;> decide
  refine Wds.fst (by decide) ?_ ?_
  · cases rep x <;> rfl
  · have : 39 :: (rep x ++ [39]) ++ r = 39 :: (rep x ++ 39 :: r) := by simp
    rw [this, first1_cons, if_pos (by decide), quo_rep2 h39 x [] 1]
    simp
    omega
theorem wds_blob {x r : List UInt8} : Wds (88 :: (39 :: (hexL x ++ [39])) ++ r) r [⟨4, x, 0⟩] := by
  refine Wds.fst (by decide) (by rfl) ?_
  have : 88 :: (39 :: (hexL x ++ [39])) ++ r = 88 :: 39 :: (hexL x ++ 39 :: r) := by simp
  rw [this, first1_cons, if_neg (by decide), if_neg (by decide), if_pos (by rfl)]
  show (blo (hexL x ++ 39 :: r) [] 2).map _ = _
  rw [blo_hex r x [] 2]
  simp
  omega
theorem wds_opn (r : List UInt8) : Wds (40 :: r) r [⟨5, [40], 0⟩] := Wds.one (n := 1) (by simp) fun f i => toks_op f r i
theorem wds_cls (r : List UInt8) : Wds (41 :: r) r [⟨5, [41], 0⟩] := Wds.one (n := 1) (by simp) fun f i => toks_cl f r i
theorem wds_com (r : List UInt8) : Wds (44 :: r) r [⟨5, [44], 0⟩] := Wds.one (n := 1) (by simp) fun f i => by cases r <;> rfl
theorem wds_dot (r : List UInt8) : Wds (46 :: r) r [⟨5, [46], 0⟩] := Wds.one (n := 1) (by simp) fun f i => by cases r <;> rfl
theorem wds_star (r : List UInt8) : Wds (42 :: r) r [⟨5, [42], 0⟩] := Wds.one (n := 1) (by simp) fun f i => by cases r <;> rfl
theorem wds_opr {o : Opr} (ho : o ∈ oprs) (r : List UInt8) : Wds (toUpperA o.txt ++ 32 :: r) r [⟨o.tok, o.txt, 0⟩] := by
  have h : Wds (toUpperA o.txt ++ 32 :: r) (32 :: r) [⟨o.tok, o.txt, 0⟩] := by
    simp only [oprs, List.mem_cons, List.not_mem_nil, or_false] at ho
    rcases ho with rfl | rfl | rfl | rfl | rfl | rfl | rfl | rfl | rfl | rfl | rfl | rfl | rfl | rfl | rfl | rfl
    · exact Wds.one (l := 79 :: 82 :: 32 :: r) (n := 2) (by simp) fun f i => rfl
    · exact Wds.one (l := 65 :: 78 :: 68 :: 32 :: r) (n := 3) (by simp) fun f i => rfl
    · exact Wds.one (l := 78 :: 79 :: 84 :: 32 :: r) (n := 3) (by simp) fun f i => rfl
    · exact Wds.one (l := 61 :: 32 :: r) (n := 1) (by simp) fun f i => rfl
    · exact Wds.one (l := 60 :: 62 :: 32 :: r) (n := 2) (by simp) fun f i => rfl
    · exact Wds.one (l := 60 :: 32 :: r) (n := 1) (by simp) fun f i => rfl
    · exact Wds.one (l := 60 :: 61 :: 32 :: r) (n := 2) (by simp) fun f i => rfl
    · exact Wds.one (l := 62 :: 32 :: r) (n := 1) (by simp) fun f i => rfl
    · exact Wds.one (l := 62 :: 61 :: 32 :: r) (n := 2) (by simp) fun f i => rfl
    · exact Wds.one (l := 124 :: 124 :: 32 :: r) (n := 2) (by simp) fun f i => rfl
    · exact Wds.one (l := 43 :: 32 :: r) (n := 1) (by simp) fun f i => rfl
    · exact Wds.one (l := 45 :: 32 :: r) (n := 1) (by simp) fun f i => rfl
    · exact Wds.one (l := 42 :: 32 :: r) (n := 1) (by simp) fun f i => rfl
    · exact Wds.one (l := 47 :: 32 :: r) (n := 1) (by simp) fun f i => rfl
    · exact Wds.one (l := 37 :: 32 :: r) (n := 1) (by simp) fun f i => rfl
    · exact Wds.one (l := 45 :: 32 :: r) (n := 1) (by simp) fun f i => rfl
  simpa using h.trans (Wds.sp r)
theorem sw_40 (r : List UInt8) : Sw (40 :: r) := fun d s h => by cases h; exact ⟨by decide, by decide⟩
theorem sw_46 (r : List UInt8) : Sw (46 :: r) := fun d s h => by cases h; exact ⟨by decide, by decide⟩
theorem cals_word : ∀ c ∈ cals, toUpperA c.name ≠ [] ∧ (∀ d ∈ (toUpperA c.name).head?, ltr (bi d) = true) ∧ (∀ x ∈ toUpperA c.name, isW x = true) ∧ toLowerA (toUpperA c.name) = c.name := by decide
theorem wds_call {c : Cal} (hc : c ∈ cals) (r : List UInt8) : Wds (toUpperA c.name ++ 40 :: r) r [⟨1, c.name, 0⟩, ⟨5, [40], 0⟩] := by
  obtain ⟨h1, h2, h3, h4⟩ := cals_word c hc
  cases hu : toUpperA c.name with
  | nil => exact absurd hu h1
  | cons d l =>
    rw [hu] at h2 h3 h4
    have := wds_word (h2 d rfl) h3 (sw_40 r)
    rw [h4] at this
    exact this.trans (wds_opn r)
/-! ### Names and literals -/
theorem nam_fin : ∀ i : Fin 256, nam (bi (UInt8.ofNat i.val)) = true → isW (UInt8.ofNat i.val) = true ∧ lowerB (UInt8.ofNat i.val) = UInt8.ofNat i.val ∧ (isD (UInt8.ofNat i.val) = false → ltr (bi (UInt8.ofNat i.val)) = true) := by decide +kernel
theorem nam_facts (c : UInt8) (h : nam (bi c) = true) : isW c = true ∧ lowerB c = c ∧ (isD c = false → ltr (bi c) = true) := by
  have h' := nam_fin ⟨c.toNat, c.toNat_lt⟩
  have e : UInt8.ofNat (⟨c.toNat, c.toNat_lt⟩ : Fin 256).val = c := by simp
  rw [e] at h'
  exact h' h
theorem wds_name {s r : List UInt8} (hs : nmB s = true) (hr : Sw r) : Wds (s ++ r) r [⟨1, s, 0⟩] := by
  unfold nmB at hs
  simp only [Bool.and_eq_true, decide_eq_true_eq, Bool.not_eq_true', List.all_eq_true] at hs
  obtain ⟨h0, _, hd, _, ha⟩ := hs
  cases s with
  | nil => simp at h0
  | cons c l =>
    have hw : ∀ x ∈ c :: l, isW x = true := fun x hx => (nam_facts x (ha x hx)).1
    have hlow : toLowerA (c :: l) = c :: l := lower_id _ fun x hx => (nam_facts x (ha x hx)).2.1
    have := wds_word ((nam_facts c (ha c (by simp))).2.2 hd) hw hr
    rw [hlow] at this
    exact this
end Go.Proofs.YtekapdpfbkdflaaGreatDoor
namespace Go.Proofs.YtekapdpfbkdflaaGreatDoor
open Go.Lib
set_option linter.unusedVariables false
set_option maxRecDepth 20000

/-- The word of a literal. -/
def tkV (v : Val) : Tk := if v.k = 1 then ⟨1, if v.n = 0 then [102, 97, 108, 115, 101] else [116, 114, 117, 101], 0⟩ else if v.k = 2 then ⟨2, [], v.n⟩ else if v.k = 3 then ⟨3, v.s.data.toList, 0⟩ else if v.k = 4 then ⟨4, v.s.data.toList, 0⟩ else ⟨1, [110, 117, 108, 108], 0⟩
def wkW (n : Int) (x : Int × List Tk) : List Tk := if n ≤ x.1 then x.2 else ⟨5, [40], 0⟩ :: (x.2 ++ [⟨5, [41], 0⟩])
def wkT : List (Int × List Tk) → List Tk
  | [] => []
  | x :: r => ⟨5, [44], 0⟩ :: (x.2 ++ wkT r)
def wkC : List (Int × List Tk) → List Tk
  | [] => []
  | x :: r => x.2 ++ wkT r
def wkN (op : Int) : List Tk := if op = 1 then [⟨1, [105, 115], 0⟩, ⟨1, [110, 111, 116], 0⟩, ⟨1, [110, 117, 108, 108], 0⟩] else [⟨1, [105, 115], 0⟩, ⟨1, [110, 117, 108, 108], 0⟩]
/-- The words of an expression, as it is written. -/
def wkB (k op : Int) (v : Val) (t n : List UInt8) (xs : List (Int × List Tk)) : List Tk :=
  if k = 1 then [tkV v]
  else if k = 2 then (if t = [] then [⟨1, n, 0⟩] else [⟨1, t, 0⟩, ⟨5, [46], 0⟩, ⟨1, n, 0⟩])
  else if k = 3 then match opOf k op, xs with
    | some o, x :: _ => ⟨o.tok, o.txt, 0⟩ :: wkW o.line x
    | _, _ => []
  else if k = 4 then match opOf k op, xs with
    | some o, x :: y :: _ => wkW (if o.line = 4 then 5 else o.line) x ++ ⟨o.tok, o.txt, 0⟩ :: wkW (o.line + 1) y
    | _, _ => []
  else if k = 7 then match xs with
    | x :: _ => wkW 5 x ++ wkN op
    | [] => []
  else match calOf k op with
    | some c => ⟨1, c.name, 0⟩ :: ⟨5, [40], 0⟩ :: ((if xs.isEmpty then [⟨5, [42], 0⟩] else wkC xs) ++ [⟨5, [41], 0⟩])
    | none => []
def wk : Ex → List Tk
  | ⟨k, op, v, t, n, xs⟩ => wkB k op v t n (wkL xs)
  where
  wkL : List Ex → List (Int × List Tk)
    | [] => []
    | x :: r => (x.line, wk x) :: wkL r
theorem wkL_map : ∀ xs : List Ex, wk.wkL xs = xs.map fun x => (x.line, wk x)
  | [] => by simp [wk.wkL]
  | x :: r => by simp [wk.wkL, wkL_map r]
theorem wk_eq (e : Ex) : wk e = wkB e.k e.op e.v e.t e.n (e.xs.map fun x => (x.line, wk x)) := by
  obtain ⟨k, op, v, t, n, xs⟩ := e
  rw [wk, wkL_map]
/-- A text's words, whatever may stand behind. -/
def XW (l : List UInt8) (ws : List Tk) : Prop := ∀ r, Fl r → Wds (l ++ r) r ws
theorem xw_wrap (n : Int) {m : Int} {l : List UInt8} {ws : List Tk} (h : XW l ws) : XW (wrapB n (m, l)) (wkW n (m, ws)) := by
  intro r hr
  unfold wrapB wkW
  split
  · exact h r hr
  · have e : 40 :: (l ++ [41]) ++ r = 40 :: (l ++ 41 :: r) := by simp
    rw [e]
    exact (wds_opn _).trans ((h (41 :: r) (fl_41 r)).trans (wds_cls r))
theorem litT_k {t : Tk} {v : Val} (h : litT [(t, 0)] = some v) : (t.k = 2 ∧ v = ⟨2, t.n, ⟨#[]⟩⟩) ∨ (t.k = 3 ∧ v = ⟨3, 0, ⟨t.s.toArray⟩⟩) ∨ (t.k = 4 ∧ v = ⟨4, 0, ⟨t.s.toArray⟩⟩) ∨ v = v0 ∨ v = ⟨1, 1, ⟨#[]⟩⟩ ∨ v = ⟨1, 0, ⟨#[]⟩⟩ := by
  unfold litT at h
  simp only [] at h
  split at h
  · rename_i q; cases h; exact Or.inl ⟨q, rfl⟩
  · split at h
    · rename_i q; cases h; exact Or.inr (Or.inl ⟨q, rfl⟩)
    · split at h
      · rename_i q; cases h; exact Or.inr (Or.inr (Or.inl ⟨q, rfl⟩))
      · split at h
        · split at h
          · cases h; exact Or.inr (Or.inr (Or.inr (Or.inl rfl)))
          · split at h
            · cases h; exact Or.inr (Or.inr (Or.inr (Or.inr (Or.inl rfl))))
            · split at h
              · cases h; exact Or.inr (Or.inr (Or.inr (Or.inr (Or.inr rfl))))
              · cases h
        · cases h
theorem xw_lit {v : Val} (h : LitOk v) : XW (litV v) [tkV v] := by
  intro r hr
  obtain ⟨t, hg, _, hv⟩ := h
  rcases litT_k hv with ⟨hk, rfl⟩ | ⟨hk, rfl⟩ | ⟨hk, rfl⟩ | rfl | rfl | rfl
  · obtain ⟨_, h0, h1⟩ : t.s = [] ∧ 0 ≤ t.n ∧ t.n ≤ 9223372036854775807 := by
      rcases hg with ⟨q, _⟩ | ⟨_, q⟩ | ⟨q, _⟩ | ⟨q, _⟩ | ⟨q, _⟩
      · rw [hk] at q; cases q
      · exact q
      · rw [hk] at q; cases q
      · rw [hk] at q; cases q
      · rw [hk] at q; cases q
    obtain ⟨n, hn⟩ : ∃ n : Nat, t.n = n := ⟨t.n.toNat, by omega⟩
    have e : litV ⟨2, t.n, ⟨#[]⟩⟩ = decDigits n := by
      rw [litV_num, hn]
      unfold itoa
      rw [if_neg (by omega)]
      rfl
    rw [e]
    show Wds _ _ [⟨2, [], t.n⟩]
    rw [hn]
    refine wds_num (by omega) fun d s q => ?_
    rcases hr d s q with rfl | rfl | rfl <;> decide
  · have e : litV ⟨3, 0, ⟨t.s.toArray⟩⟩ = 39 :: (rep t.s ++ [39]) := by
      show 39 :: (rep t.s.toArray.toList ++ [39]) = _
      rw [List.toList_toArray]
    rw [e]
    exact wds_text hr
  · have e : litV ⟨4, 0, ⟨t.s.toArray⟩⟩ = 88 :: (39 :: (hexL t.s ++ [39])) := by
      show 88 :: 39 :: (hexL t.s.toArray.toList ++ [39]) = _
      rw [List.toList_toArray]
    rw [e]
    exact wds_blob
  · exact wds_word (c := 78) (l := [85, 76, 76]) (by decide) (by decide) hr.sw
  · exact wds_word (c := 84) (l := [82, 85, 69]) (by decide) (by decide) hr.sw
  · exact wds_word (c := 70) (l := [65, 76, 83, 69]) (by decide) (by decide) hr.sw
theorem xw_col {t n : List UInt8} (hn : nmB n = true) (ht : t = [] ∨ nmB t = true) : XW (colB t n) (if t = [] then [⟨1, n, 0⟩] else [⟨1, t, 0⟩, ⟨5, [46], 0⟩, ⟨1, n, 0⟩]) := by
  intro r hr
  unfold colB
  by_cases h : t = []
  · rw [if_pos h, if_pos h]
    exact wds_name hn hr.sw
  · rw [if_neg h, if_neg h]
    have e : (t ++ 46 :: n) ++ r = t ++ 46 :: (n ++ r) := by simp
    rw [e]
    exact (wds_name (ht.resolve_left h) (sw_46 _)).trans ((wds_dot _).trans (wds_name hn hr.sw))
theorem xw_null (op : Int) : ∀ r, Fl r → Wds (nullB op ++ r) r (wkN op) := by
  intro r hr
  have h1 (s : List UInt8) : Wds (32 :: 73 :: 83 :: 32 :: s) s [⟨1, [105, 115], 0⟩] :=
    (Wds.sp _).trans ((Wds.one (l := 73 :: 83 :: 32 :: s) (r := 32 :: s) (n := 2) (by simp) fun f i => rfl).trans (Wds.sp s))
  have h2 (s : List UInt8) : Wds (78 :: 79 :: 84 :: 32 :: s) s [⟨1, [110, 111, 116], 0⟩] :=
    (Wds.one (l := 78 :: 79 :: 84 :: 32 :: s) (r := 32 :: s) (n := 3) (by simp) fun f i => rfl).trans (Wds.sp s)
  have h3 : Wds (78 :: 85 :: 76 :: 76 :: r) r [⟨1, [110, 117, 108, 108], 0⟩] := wds_word (c := 78) (l := [85, 76, 76]) (by decide) (by decide) hr.sw
  unfold nullB wkN
  split
  · exact (h1 _).trans ((h2 _).trans h3)
  · exact (h1 _).trans h3
theorem xw_join : ∀ (xs : List Ex), (∀ x ∈ xs, XW (prE x) (wk x)) → ∀ r, Wds (joinC.joinT (xs.map fun x => (x.line, prE x)) ++ 41 :: r) (41 :: r) (wkT (xs.map fun x => (x.line, wk x)))
  | [], _, r => Wds.refl _
  | x :: xs, h, r => by
    have ih := xw_join xs (fun y hy => h y (List.mem_cons_of_mem _ hy)) r
    have hf : Fl (joinC.joinT (xs.map fun x => (x.line, prE x)) ++ 41 :: r) := by
      cases xs with
      | nil => exact fl_41 r
      | cons y ys => exact fl_44 _
    have e : joinC.joinT ((x :: xs).map fun x => (x.line, prE x)) ++ 41 :: r = 44 :: 32 :: (prE x ++ (joinC.joinT (xs.map fun x => (x.line, prE x)) ++ 41 :: r)) := by
      simp [joinC.joinT]
    rw [e]
    exact (wds_com _).trans ((Wds.sp _).trans ((h x (List.mem_cons_self ..) _ hf).trans ih))
theorem xw_joinC (xs : List Ex) (h : ∀ x ∈ xs, XW (prE x) (wk x)) (r : List UInt8) : Wds (joinC (xs.map fun x => (x.line, prE x)) ++ 41 :: r) (41 :: r) (wkC (xs.map fun x => (x.line, wk x))) := by
  cases xs with
  | nil => exact Wds.refl _
  | cons x xs =>
    have ih := xw_join xs (fun y hy => h y (List.mem_cons_of_mem _ hy)) r
    have hf : Fl (joinC.joinT (xs.map fun x => (x.line, prE x)) ++ 41 :: r) := by
      cases xs with
      | nil => exact fl_41 r
      | cons y ys => exact fl_44 _
    have e : joinC ((x :: xs).map fun x => (x.line, prE x)) ++ 41 :: r = prE x ++ (joinC.joinT (xs.map fun x => (x.line, prE x)) ++ 41 :: r) := by simp [joinC]
    rw [e]
    exact (h x (List.mem_cons_self ..) _ hf).trans ih
/-- One level. -/
theorem xw_step {e : Ex} (hl : LeafOk e.k e.op e.v e.t e.n e.xs.length) (h : ∀ x ∈ e.xs, XW (prE x) (wk x)) : XW (prE e) (wk e) := by
  obtain ⟨k, op, v, t, n, xs⟩ := e
  obtain ⟨hf, h1, _, h2, _⟩ := hl
  simp only [] at hf h1 h2 h
  rw [prE_eq, wk_eq]
  simp only []
  unfold prB wkB
  rw [List.length_map, hf, if_neg (by simp)]
  unfold fitsB at hf
  by_cases k1 : k = 1
  · rw [if_pos k1, if_pos k1]
    exact xw_lit (h1 k1)
  · rw [if_neg k1, if_neg k1]
    by_cases k2 : k = 2
    · rw [if_pos k2, if_pos k2]
      exact xw_col (h2 k2).1 (h2 k2).2
    · rw [if_neg k2, if_neg k2]
      rw [if_neg (by omega)] at hf
      by_cases k3 : k = 3
      · rw [if_pos k3, if_pos k3]
        rw [if_pos k3] at hf
        simp only [Bool.and_eq_true, beq_iff_eq] at hf
        obtain ⟨ho, hlen⟩ := hf
        cases hop : opOf k op with
        | none => rw [hop] at ho; cases ho
        | some o =>
          have hom : o ∈ oprs := List.mem_of_find?_eq_some hop
          match xs, hlen with
          | [x], _ =>
            intro r hr
            show Wds ((toUpperA o.txt ++ 32 :: wrapB o.line (x.line, prE x)) ++ r) r (⟨o.tok, o.txt, 0⟩ :: wkW o.line (x.line, wk x))
            rw [List.append_assoc, List.cons_append]
            exact (wds_opr hom _).trans (xw_wrap o.line (h x (by simp)) r hr)
      · rw [if_neg k3, if_neg k3]
        rw [if_neg k3] at hf
        by_cases k4 : k = 4
        · rw [if_pos k4, if_pos k4]
          rw [if_pos k4] at hf
          simp only [Bool.and_eq_true, beq_iff_eq] at hf
          obtain ⟨ho, hlen⟩ := hf
          cases hop : opOf k op with
          | none => rw [hop] at ho; cases ho
          | some o =>
            have hom : o ∈ oprs := List.mem_of_find?_eq_some hop
            match xs, hlen with
            | [x, y], _ =>
              intro r hr
              show Wds ((wrapB (if o.line = 4 then 5 else o.line) (x.line, prE x) ++ 32 :: (toUpperA o.txt ++ 32 :: wrapB (o.line + 1) (y.line, prE y))) ++ r) r (wkW (if o.line = 4 then 5 else o.line) (x.line, wk x) ++ ⟨o.tok, o.txt, 0⟩ :: wkW (o.line + 1) (y.line, wk y))
              rw [List.append_assoc, List.cons_append, List.append_assoc, List.cons_append]
              exact (xw_wrap _ (h x (by simp)) _ (fl_32 _)).trans ((Wds.sp _).trans ((wds_opr hom _).trans (xw_wrap _ (h y (by simp)) r hr)))
        · rw [if_neg k4, if_neg k4]
          rw [if_neg k4] at hf
          by_cases k7 : k = 7
          · rw [if_pos k7, if_pos k7]
            rw [if_pos k7] at hf
            simp only [Bool.and_eq_true, beq_iff_eq] at hf
            match xs, hf.2 with
            | [x], _ =>
              intro r hr
              show Wds ((wrapB 5 (x.line, prE x) ++ nullB op) ++ r) r (wkW 5 (x.line, wk x) ++ wkN op)
              rw [List.append_assoc]
              have hfl : Fl (nullB op ++ r) := by
                unfold nullB
                split <;> exact fl_32 _
              exact (xw_wrap _ (h x (by simp)) _ hfl).trans (xw_null op r hr)
          · rw [if_neg k7, if_neg k7]
            rw [if_neg k7] at hf
            cases hc : calOf k op with
            | none =>
              rw [hc] at hf
              split at hf <;> cases hf
            | some c =>
              have hcm : c ∈ cals := List.mem_of_find?_eq_some hc
              intro r hr
              show Wds ((toUpperA c.name ++ 40 :: ((if (xs.map fun x => (x.line, prE x)).isEmpty then [42] else joinC (xs.map fun x => (x.line, prE x))) ++ [41])) ++ r) r (⟨1, c.name, 0⟩ :: ⟨5, [40], 0⟩ :: ((if (xs.map fun x => (x.line, wk x)).isEmpty then [⟨5, [42], 0⟩] else wkC (xs.map fun x => (x.line, wk x))) ++ [⟨5, [41], 0⟩]))
              rw [List.append_assoc, List.cons_append, List.append_assoc]
              refine (wds_call hcm _).trans (Wds.trans ?_ (wds_cls r))
              cases xs with
              | nil => exact wds_star _
              | cons x xs => exact xw_joinC (x :: xs) h r
theorem wds_pr : ∀ e : Ex, ShE e → XW (prE e) (wk e)
  | ⟨k, op, v, t, n, xs⟩, h => by
    have h' := (shE_eq _).1 h
    exact xw_step h'.1 (wds_prL xs h'.2)
  where
  wds_prL : ∀ xs : List Ex, (∀ x ∈ xs, ShE x) → ∀ x ∈ xs, XW (prE x) (wk x)
    | [], _, x, hx => by cases hx
    | y :: r, h, x, hx => by
      have h1 := wds_pr y (h y (List.mem_cons_self ..))
      have h2 := wds_prL r (fun z hz => h z (List.mem_cons_of_mem _ hz))
      rcases List.mem_cons.1 hx with e | hx
      · rw [e]; exact h1
      · exact h2 x hx
/-- The words of what a right expression is written as. -/
theorem toks_pr {e : Ex} (h : ShE e) : ∃ l, toksOf (prE e) = .ok l ∧ l.map (·.1) = wk e := by
  obtain ⟨xs, g, j, hx, hg, q⟩ := wds_pr e h [] fl_nil ((prE e).length + 1) 0 (by simp)
  refine ⟨xs, ?_, hx⟩
  rw [List.append_nil] at q
  unfold toksOf
  rw [q, toks_nil]
  simp [addT]
end Go.Proofs.YtekapdpfbkdflaaGreatDoor
namespace Go.Proofs.YtekapdpfbkdflaaGreatDoor
open Go.Lib
set_option linter.unusedVariables false
set_option maxRecDepth 20000

theorem opAt_self {o : Opr} (ho : o ∈ oprs) (p : Nat) (r : Ts) : opAt o.line ((⟨o.tok, o.txt, 0⟩, p) :: r) = some o := by
  simp only [oprs, List.mem_cons, List.not_mem_nil, or_false] at ho
  rcases ho with rfl | rfl | rfl | rfl | rfl | rfl | rfl | rfl | rfl | rfl | rfl | rfl | rfl | rfl | rfl | rfl <;> rfl
theorem opOf_some {k op : Int} {o : Opr} (h : opOf k op = some o) : o ∈ oprs ∧ o.kind = k ∧ o.op = op := by
  have h1 := List.find?_some h
  simp only [Bool.and_eq_true, beq_iff_eq] at h1
  exact ⟨List.mem_of_find?_eq_some h, h1.1, h1.2⟩
theorem calOf_some {k op : Int} {c : Cal} (h : calOf k op = some c) : c ∈ cals ∧ c.kind = k ∧ c.op = op := by
  have h1 := List.find?_some h
  simp only [Bool.and_eq_true, beq_iff_eq] at h1
  exact ⟨List.mem_of_find?_eq_some h, h1.1, h1.2⟩
theorem oprs_alone : ∀ o ∈ oprs, ∀ q ∈ oprs, o.tok = q.tok → o.txt = q.txt → q.line = o.line ∨ q.line = 8 ∨ o.line = 8 := by decide
theorem oprs_not : ∀ o ∈ oprs, o.line = 3 → o.tok = 1 ∧ o.txt = [110, 111, 116] := by decide
theorem oprs_neg : ∀ o ∈ oprs, o.line = 8 → o.tok = 5 ∧ o.txt = [45] := by decide
theorem oprs_odd : ∀ o ∈ oprs, ¬ (o.tok = 5 ∧ (o.txt = [41] ∨ o.txt = [44] ∨ o.txt = [40] ∨ o.txt = [46])) ∧ ¬ (o.tok = 1 ∧ o.txt = [105, 115]) := by decide
/-- Words at which a line ends. -/
structure St (n : Int) (c : Ts) : Prop where
  op : ∀ m, n ≤ m → m ≤ 7 → m ≠ 3 → opAt m c = none
  is : n ≤ 4 → stn 1 [105, 115] c = false
  dot : stn 5 [46] c = false
  opn : stn 5 [40] c = false
theorem St.up {n m : Int} {c : Ts} (h : St n c) (hn : n ≤ m) : St m c := ⟨fun q h1 h2 h3 => h.op q (by omega) h2 h3, fun h1 => h.is (by omega), h.dot, h.opn⟩
theorem st_nil (n : Int) : St n [] := ⟨fun m _ _ _ => by unfold opAt; rw [List.find?_eq_none]; intro o _; simp [stn], fun _ => rfl, rfl, rfl⟩
theorem st_odd (n : Int) {x : Tk × Nat} {c : Ts} (h : x.1.k = 5 ∧ (x.1.s = [41] ∨ x.1.s = [44])) : St n (x :: c) := by
  obtain ⟨hk, hs⟩ := h
  refine ⟨fun m _ _ _ => opAt_head fun o ho _ q => ?_, fun _ => ?_, ?_, ?_⟩
  · refine (oprs_odd o ho).1 ⟨by rw [← q.1, hk], ?_⟩
    rw [← q.2]
    rcases hs with hs | hs
    · exact Or.inl hs
    · exact Or.inr (Or.inl hs)
  · simp [stn, hk]
  · rcases hs with hs | hs <;> simp [stn, hs]
  · rcases hs with hs | hs <;> simp [stn, hs]
theorem st_op {o : Opr} (ho : o ∈ oprs) (hk : o.kind = 4) (p : Nat) (c : Ts) : St (o.line + 1) ((⟨o.tok, o.txt, 0⟩, p) :: c) := by
  have h8 : ∀ o ∈ oprs, o.kind = 4 → o.line ≠ 8 := by decide
  have hn8 := h8 o ho hk
  have hd := oprs_odd o ho
  refine ⟨fun m h1 h2 h3 => opAt_head fun q hq hl e => ?_, fun _ => ?_, ?_, ?_⟩
  · have := oprs_alone o ho q hq e.1 e.2
    omega
  · cases hb : stn 1 [105, 115] ((⟨o.tok, o.txt, 0⟩, p) :: c) with
    | false => rfl
    | true =>
      simp only [stn, Bool.and_eq_true, beq_iff_eq] at hb
      exact absurd hb hd.2
  · cases hb : stn 5 [46] ((⟨o.tok, o.txt, 0⟩, p) :: c) with
    | false => rfl
    | true =>
      simp only [stn, Bool.and_eq_true, beq_iff_eq] at hb
      exact absurd ⟨hb.1, by simp [hb.2]⟩ hd.1
  · cases hb : stn 5 [40] ((⟨o.tok, o.txt, 0⟩, p) :: c) with
    | false => rfl
    | true =>
      simp only [stn, Bool.and_eq_true, beq_iff_eq] at hb
      exact absurd ⟨hb.1, by simp [hb.2]⟩ hd.1
theorem st_is (p : Nat) (c : Ts) : St 5 ((⟨1, [105, 115], 0⟩, p) :: c) := by
  refine ⟨fun m h1 h2 h3 => opAt_head fun q hq hl e => (oprs_odd q hq).2 ⟨e.1.symm, e.2.symm⟩, fun h => by omega, rfl, rfl⟩
/-! ### The first word -/
/-- What a word may be that stands first. -/
structure Hd (ln : Int) (t : Tk) : Prop where
  sym : t.k = 5 → t.s = [40] ∨ (t.s = [45] ∧ ln ≠ 9)
  not : 4 ≤ ln → ¬ (t.k = 1 ∧ t.s = [110, 111, 116])
theorem hd_open (n : Int) : Hd n ⟨5, [40], 0⟩ := ⟨fun _ => Or.inl rfl, fun _ h => by cases h.1⟩
theorem name_kw {s : List UInt8} (h : nmB s = true) : ∀ x ∈ kws, s ≠ x := by
  unfold nmB kw at h
  simp only [Bool.and_eq_true, Bool.not_eq_true', List.any_eq_false] at h
  intro x hx e
  have := h.2.2.2.1 x hx
  simp [e] at this
theorem hd_name {n : Int} {s : List UInt8} (h : nmB s = true) : Hd n ⟨1, s, 0⟩ := ⟨fun q => (by cases q), fun _ q => name_kw h [110, 111, 116] (by decide) q.2⟩
theorem hd_wrap {n m : Int} {ws : List Tk} (h : ∃ t r, ws = t :: r ∧ Hd m t) : ∃ t r, wkW n (m, ws) = t :: r ∧ (Hd m t ∧ n ≤ m ∨ t = ⟨5, [40], 0⟩) := by
  obtain ⟨t, r, rfl, h⟩ := h
  unfold wkW
  split
  · exact ⟨t, r, rfl, Or.inl ⟨h, by assumption⟩⟩
  · exact ⟨_, _, rfl, Or.inr rfl⟩
theorem hd_lit {v : Val} (h : LitOk v) : Hd 9 (tkV v) := by
  obtain ⟨t, hg, _, hv⟩ := h
  rcases litT_k hv with ⟨hk, rfl⟩ | ⟨hk, rfl⟩ | ⟨hk, rfl⟩ | rfl | rfl | rfl
  · exact ⟨fun q => (by cases q), fun _ q => (by cases q.1)⟩
  · exact ⟨fun q => (by cases q), fun _ q => (by cases q.1)⟩
  · exact ⟨fun q => (by cases q), fun _ q => (by cases q.1)⟩
  · exact ⟨fun q => (by cases q), fun _ q => (by cases q.2)⟩
  · exact ⟨fun q => (by cases q), fun _ q => (by cases q.2)⟩
  · exact ⟨fun q => (by cases q), fun _ q => (by cases q.2)⟩
theorem line_op {k op : Int} {o : Opr} {n : Nat} (hf : fitsB k op n = true) (ho : opOf k op = some o) : lineB k op n = o.line := by
  unfold lineB
  rw [hf, if_neg (by simp), ho]
theorem cals_not : ∀ c ∈ cals, c.name ≠ [110, 111, 116] ∧ c.name ≠ [110, 117, 108, 108] ∧ c.name ≠ [116, 114, 117, 101] ∧ c.name ≠ [102, 97, 108, 115, 101] := by decide
/-- The shapes of a right expression. -/
inductive Shp : Ex → Prop
  | lit (v : Val) : LitOk v → Shp (litE v)
  | col (t n : List UInt8) : nmB n = true → (t = [] ∨ nmB t = true) → Shp (colE t n)
  | one (o : Opr) (x : Ex) : o ∈ oprs → o.kind = 3 → ShE x → Shp (mkE o.kind o.op [x])
  | two (o : Opr) (x y : Ex) : o ∈ oprs → o.kind = 4 → ShE x → ShE y → Shp (mkE o.kind o.op [x, y])
  | null (i : Int) (x : Ex) : i = 0 ∨ i = 1 → ShE x → Shp (mkE 7 i [x])
  | call (c : Cal) (xs : List Ex) : c ∈ cals → (xs.length = c.cnt ∨ c.all = true ∧ xs.length = 0) → (∀ x ∈ xs, ShE x) → Shp (mkE c.kind c.op xs)
theorem shp {e : Ex} (h : ShE e) : Shp e := by
  obtain ⟨⟨hf, h1, h1', h2, h2'⟩, hx⟩ := (shE_eq e).1 h
  obtain ⟨k, op, v, t, n, xs⟩ := e
  simp only [] at hf h1 h1' h2 h2' hx
  unfold fitsB at hf
  by_cases k1 : k = 1
  · rw [if_pos (Or.inl k1)] at hf
    simp only [Bool.and_eq_true, beq_iff_eq] at hf
    obtain ⟨rfl, hl⟩ := hf
    obtain ⟨rfl, rfl⟩ := h2' (by omega)
    obtain rfl := List.length_eq_zero_iff.1 hl
    subst k1
    exact Shp.lit v (h1 rfl)
  · obtain rfl := h1' k1
    by_cases k2 : k = 2
    · rw [if_pos (Or.inr k2)] at hf
      simp only [Bool.and_eq_true, beq_iff_eq] at hf
      obtain ⟨rfl, hl⟩ := hf
      obtain rfl := List.length_eq_zero_iff.1 hl
      subst k2
      exact Shp.col t n (h2 rfl).1 (h2 rfl).2
    · obtain ⟨rfl, rfl⟩ := h2' k2
      rw [if_neg (by omega)] at hf
      by_cases k3 : k = 3
      · rw [if_pos k3] at hf
        simp only [Bool.and_eq_true, beq_iff_eq] at hf
        obtain ⟨ho, hl⟩ := hf
        obtain ⟨o, ho⟩ := Option.isSome_iff_exists.1 ho
        obtain ⟨om, ok, oo⟩ := opOf_some ho
        match xs, hl with
        | [x], _ =>
          have := Shp.one o x om (by omega) (hx x (by simp))
          rw [ok, oo] at this
          exact this
      · rw [if_neg k3] at hf
        by_cases k4 : k = 4
        · rw [if_pos k4] at hf
          simp only [Bool.and_eq_true, beq_iff_eq] at hf
          obtain ⟨ho, hl⟩ := hf
          obtain ⟨o, ho⟩ := Option.isSome_iff_exists.1 ho
          obtain ⟨om, ok, oo⟩ := opOf_some ho
          match xs, hl with
          | [x, y], _ =>
            have := Shp.two o x y om (by omega) (hx x (by simp)) (hx y (by simp))
            rw [ok, oo] at this
            exact this
        · rw [if_neg k4] at hf
          by_cases k7 : k = 7
          · rw [if_pos k7] at hf
            simp only [Bool.and_eq_true, Bool.or_eq_true, beq_iff_eq] at hf
            match xs, hf.2 with
            | [x], _ =>
              subst k7
              exact Shp.null op x hf.1 (hx x (by simp))
          · rw [if_neg k7] at hf
            split at hf
            · cases hc : calOf k op with
              | none => rw [hc] at hf; cases hf
              | some c =>
                rw [hc] at hf
                simp only [Bool.or_eq_true, Bool.and_eq_true, beq_iff_eq] at hf
                obtain ⟨cm, ck, co⟩ := calOf_some hc
                have := Shp.call c xs cm hf hx
                rw [ck, co] at this
                exact this
            · cases hf
end Go.Proofs.YtekapdpfbkdflaaGreatDoor
namespace Go.Proofs.YtekapdpfbkdflaaGreatDoor
open Go.Lib
set_option linter.unusedVariables false
set_option maxRecDepth 20000

theorem line_le9 (k op : Int) (n : Nat) : lineB k op n ≤ 9 := by
  unfold lineB
  split
  · omega
  · split
    · rename_i o ho
      have := (oprs_line o (List.mem_of_find?_eq_some ho)).2
      omega
    · split <;> omega
/-! ### The shapes' lines, words, nestings -/
theorem two_line {o : Opr} (ho : o ∈ oprs) (hk : o.kind = 4) (x y : Ex) : (mkE o.kind o.op [x, y]).line = o.line := by
  rw [hk]; exact (oprs_two o ho hk).2.2
theorem two_wk {o : Opr} (ho : o ∈ oprs) (hk : o.kind = 4) (x y : Ex) : wk (mkE o.kind o.op [x, y]) = wkW (if o.line = 4 then 5 else o.line) (x.line, wk x) ++ ⟨o.tok, o.txt, 0⟩ :: wkW (o.line + 1) (y.line, wk y) := by
  rw [wk_eq]
  show wkB o.kind o.op v0 [] [] [(x.line, _), (y.line, _)] = _
  rw [hk]
  unfold wkB
  rw [if_neg (by decide), if_neg (by decide), if_neg (by decide), if_pos rfl, (oprs_two o ho hk).1]
theorem two_nd {o : Opr} (ho : o ∈ oprs) (hk : o.kind = 4) (x y : Ex) : nd (mkE o.kind o.op [x, y]) = max (ndW (if o.line = 4 then 5 else o.line) (x.line, nd x)) (ndW (o.line + 1) (y.line, nd y)) := by
  rw [nd_eq]
  show ndB o.kind o.op [(x.line, _), (y.line, _)] = _
  rw [hk]
  unfold ndB
  rw [if_neg (by decide), if_pos rfl, (oprs_two o ho hk).1]
theorem one_line {o : Opr} (ho : o ∈ oprs) (hk : o.kind = 3) (x : Ex) : (mkE o.kind o.op [x]).line = o.line := by
  rw [hk]; exact (oprs_one o ho hk).2.2
theorem one_wk {o : Opr} (ho : o ∈ oprs) (hk : o.kind = 3) (x : Ex) : wk (mkE o.kind o.op [x]) = ⟨o.tok, o.txt, 0⟩ :: wkW o.line (x.line, wk x) := by
  rw [wk_eq]
  show wkB o.kind o.op v0 [] [] [(x.line, _)] = _
  rw [hk]
  unfold wkB
  rw [if_neg (by decide), if_neg (by decide), if_pos rfl, (oprs_one o ho hk).1]
theorem one_nd {o : Opr} (ho : o ∈ oprs) (hk : o.kind = 3) (x : Ex) : nd (mkE o.kind o.op [x]) = ndW o.line (x.line, nd x) + 1 := by
  rw [nd_eq]
  show ndB o.kind o.op [(x.line, _)] = _
  rw [hk]
  unfold ndB
  rw [if_pos rfl, (oprs_one o ho hk).1]
theorem null_wk (i : Int) (x : Ex) : wk (mkE 7 i [x]) = wkW 5 (x.line, wk x) ++ wkN i := by rw [wk_eq]; rfl
theorem null_nd (i : Int) (x : Ex) : nd (mkE 7 i [x]) = ndW 5 (x.line, nd x) := by rw [nd_eq]; rfl
theorem null_line {i : Int} (hi : i = 0 ∨ i = 1) (x : Ex) : (mkE 7 i [x]).line = 4 := by rcases hi with rfl | rfl <;> rfl
theorem cals_of : ∀ c ∈ cals, (calOf c.kind c.op).map (·.name) = some c.name := by decide
theorem call_wk {c : Cal} (hc : c ∈ cals) (xs : List Ex) : wk (mkE c.kind c.op xs) = ⟨1, c.name, 0⟩ :: ⟨5, [40], 0⟩ :: ((if xs.isEmpty then [⟨5, [42], 0⟩] else wkC (xs.map fun x => (x.line, wk x))) ++ [⟨5, [41], 0⟩]) := by
  have f3 := (cals_fit c hc).2.2
  have h1 := cals_of c hc
  rw [wk_eq]
  show wkB c.kind c.op v0 [] [] (xs.map _) = _
  unfold wkB
  rw [if_neg (by omega), if_neg (by omega), if_neg (by omega), if_neg (by omega), if_neg (by omega)]
  cases hq : calOf c.kind c.op with
  | none => rw [hq] at h1; cases h1
  | some q =>
    rw [hq] at h1
    have e : q.name = c.name := by simpa using h1
    simp only [e, List.isEmpty_map]
theorem call_nd {c : Cal} (hc : c ∈ cals) (xs : List Ex) : nd (mkE c.kind c.op xs) = ndM (xs.map fun x => (x.line, nd x)) + 1 := by
  have f3 := (cals_fit c hc).2.2
  rw [nd_eq]
  show ndB c.kind c.op (xs.map _) = _
  unfold ndB
  rw [if_neg (by omega), if_neg (by omega), if_neg (by omega), if_pos f3]
/-! ### The first word of all -/
theorem sz_mem {k op : Int} {xs : List Ex} {x : Ex} (h : x ∈ xs) : SizeOf.sizeOf x < SizeOf.sizeOf (mkE k op xs) := by
  have := List.sizeOf_lt_of_mem h
  simp only [mkE, Ex.mk.sizeOf_spec]
  omega
theorem hd_all : ∀ (N : Nat) (e : Ex), SizeOf.sizeOf e ≤ N → ShE e → ∃ t r, wk e = t :: r ∧ Hd e.line t := by
  intro N
  induction N with
  | zero => intro e he; cases e; simp at he
  | succ N ih =>
    intro e he h
    cases shp h with
    | lit v hv => exact ⟨_, [], rfl, hd_lit hv⟩
    | col t n hn ht =>
      have e : wk (colE t n) = if t = [] then [⟨1, n, 0⟩] else [⟨1, t, 0⟩, ⟨5, [46], 0⟩, ⟨1, n, 0⟩] := by rw [wk_eq]; rfl
      rw [e]
      by_cases ht0 : t = []
      · rw [if_pos ht0]; exact ⟨_, _, rfl, hd_name hn⟩
      · rw [if_neg ht0]; exact ⟨_, _, rfl, hd_name (ht.resolve_left ht0)⟩
    | one o x om ok hx =>
      rw [one_wk om ok, one_line om ok]
      refine ⟨_, _, rfl, ⟨fun q => Or.inr ⟨?_, ?_⟩, fun q1 q => ?_⟩⟩
      · rcases (show o.line = 3 ∨ o.line = 8 from by
          have : ∀ o ∈ oprs, o.kind = 3 → o.line = 3 ∨ o.line = 8 := by decide
          exact this o om ok) with h3 | h8
        · have := (oprs_not o om h3).1
          have q' : o.tok = 5 := q
          rw [this] at q'
          cases q'
        · exact (oprs_neg o om h8).2
      · have := oprs_line o om; omega
      · rcases (show o.line = 3 ∨ o.line = 8 from by
          have : ∀ o ∈ oprs, o.kind = 3 → o.line = 3 ∨ o.line = 8 := by decide
          exact this o om ok) with h3 | h8
        · omega
        · have := (oprs_neg o om h8).1
          have q' : o.tok = 1 := q.1
          rw [this] at q'
          cases q'
    | two o x y om ok hx hy =>
      rw [two_wk om ok, two_line om ok]
      have hl := oprs_line o om
      obtain ⟨t, r, e, hh⟩ := hd_wrap (n := if o.line = 4 then 5 else o.line) (ih x (by have := sz_mem (k := o.kind) (op := o.op) (xs := [x, y]) (x := x) (by simp); omega) hx)
      rw [e]
      refine ⟨t, _, rfl, ?_⟩
      rcases hh with ⟨hh, hle⟩ | rfl
      · refine ⟨fun q => (hh.sym q).imp id fun z => ⟨z.1, by omega⟩, fun q1 => hh.not ?_⟩
        split at hle <;> omega
      · exact hd_open _
    | null i x hi hx =>
      rw [null_wk, null_line hi]
      obtain ⟨t, r, e, hh⟩ := hd_wrap (n := 5) (ih x (by have := sz_mem (k := 7) (op := i) (xs := [x]) (x := x) (by simp); omega) hx)
      rw [e]
      refine ⟨t, _, rfl, ?_⟩
      rcases hh with ⟨hh, hle⟩ | rfl
      · exact ⟨fun q => (hh.sym q).imp id fun z => ⟨z.1, by decide⟩, fun q1 => hh.not (by omega)⟩
      · exact hd_open _
    | call c xs cm hl hx =>
      rw [call_wk cm]
      exact ⟨_, _, rfl, ⟨fun q => (by cases q), fun _ q => (cals_not c cm).1 q.2⟩⟩
theorem hd_at {e : Ex} (h : ShE e) (n : Int) : ∃ t r, wkW n (e.line, wk e) = t :: r ∧ (Hd e.line t ∧ n ≤ e.line ∨ t = ⟨5, [40], 0⟩) := hd_wrap (hd_all _ e (Nat.le_refl _) h)
/-! ### Lines -/
def lnF (d : Nat) (n : Int) : Ts → Rd Ex :=
  if n = 9 then itemP ((prv d).map (·.orr)) else if n = 8 then signP (prv d) else if n = 7 then rowP 7 (signP (prv d)) else if n = 6 then rowP 6 (rowP 7 (signP (prv d))) else if n = 5 then catP (prv d) else if n = 4 then testP (catP (prv d)) else if n = 3 then notP (prv d) else if n = 2 then rowP 2 (notP (prv d)) else orP (prv d)
theorem lnF_row {n : Int} (hn : n = 1 ∨ n = 2 ∨ n = 5 ∨ n = 6 ∨ n = 7) (d : Nat) : lnF d n = rowP n (lnF d (n + 1)) := by
  rcases hn with rfl | rfl | rfl | rfl | rfl <;> rfl
theorem lnF_orr (d : Nat) : (lns d).orr = lnF d 1 := by rw [lns_eq]; rfl
theorem lnF_nt (d : Nat) : (lns d).nt = lnF d 3 := by rw [lns_eq]; rfl
theorem lnF_sg (d : Nat) : (lns d).sg = lnF d 8 := by rw [lns_eq]; rfl
theorem lnF_test (d : Nat) : lnF d 4 = testP (lnF d 5) := rfl
theorem lnF_not (d : Nat) : lnF d 3 = aheadP 3 (lnF d 4) ((prv d).map (·.nt)) := rfl
theorem lnF_neg (d : Nat) : lnF d 8 = aheadP 8 (lnF d 9) ((prv d).map (·.sg)) := rfl
theorem lnF_item (d : Nat) : lnF d 9 = itemP ((prv d).map (·.orr)) := rfl
/-- An expression is read on a line. -/
def RA (d : Nat) (n : Int) (e : Ex) : Prop := ndW n (e.line, nd e) ≤ d → ∀ l c : Ts, l.map (·.1) = wkW n (e.line, wk e) → St n c → lnF d n (l ++ c) = .ok (e, c)
def RB (d : Nat) (n : Int) (e : Ex) : Prop := ndW n (e.line, nd e) ≤ d → ∀ l c : Ts, l.map (·.1) = wkW n (e.line, wk e) → St (n + 1) c → ∃ f, c.length ≤ f ∧ rowP n (lnF d (n + 1)) (l ++ c) = rowL n (lnF d (n + 1)) f e c
theorem ra_row {d : Nat} {n : Int} {e : Ex} (hn : n = 1 ∨ n = 2 ∨ n = 5 ∨ n = 6 ∨ n = 7) (h : RB d n e) : RA d n e := by
  intro hd l c hl hs
  obtain ⟨f, hf, q⟩ := h hd l c hl (hs.up (by omega))
  rw [lnF_row hn, q]
  cases f with
  | zero => rfl
  | succ f => rw [rowL, hs.op n (Int.le_refl _) (by omega) (by omega)]
theorem wkW_same {n m : Int} (h : m ≠ n) (ws : List Tk) : wkW n (m, ws) = wkW (n + 1) (m, ws) := by
  unfold wkW
  simp only []
  by_cases q : n ≤ m
  · rw [if_pos q, if_pos (by omega)]
  · rw [if_neg q, if_neg (by omega)]
theorem ndW_same {n m : Int} (h : m ≠ n) (k : Nat) : ndW n (m, k) = ndW (n + 1) (m, k) := by
  unfold ndW
  simp only []
  by_cases q : n ≤ m
  · rw [if_pos q, if_pos (by omega)]
  · rw [if_neg q, if_neg (by omega)]
theorem rb_next {d : Nat} {n : Int} {e : Ex} (he : e.line ≠ n) (h : RA d (n + 1) e) : RB d n e := by
  intro hd l c hl hs
  rw [ndW_same he] at hd
  rw [wkW_same he] at hl
  refine ⟨c.length, Nat.le_refl _, ?_⟩
  unfold rowP
  rw [h hd l c hl hs]
theorem wkW_own (n : Int) (ws : List Tk) : wkW n (n, ws) = ws := if_pos (Int.le_refl _)
theorem ndW_own (n : Int) (k : Nat) : ndW n (n, k) = k := if_pos (Int.le_refl _)
theorem rb_two {d : Nat} {o : Opr} (om : o ∈ oprs) (ok : o.kind = 4) (h4 : o.line ≠ 4) {x y : Ex} (hx : RB d o.line x) (hy : RA d (o.line + 1) y) : RB d o.line (mkE o.kind o.op [x, y]) := by
  intro hd l c hl hs
  rw [two_line om ok, ndW_own, two_nd om ok, if_neg h4] at hd
  rw [two_line om ok, wkW_own, two_wk om ok, if_neg h4] at hl
  obtain ⟨lx, r, rfl, h1, h2⟩ := List.map_eq_append_iff.1 hl
  obtain ⟨p, ly, rfl, h3⟩ := map_one h2
  obtain ⟨f, hf, q⟩ := hx (by omega) lx ((⟨o.tok, o.txt, 0⟩, p) :: (ly ++ c)) h1 (st_op om ok p _)
  obtain ⟨f, rfl⟩ : ∃ g, f = g + 1 := ⟨f - 1, by simp at hf; omega⟩
  refine ⟨f, by simp at hf; omega, ?_⟩
  rw [List.append_assoc, List.cons_append, q, rowL, opAt_self om]
  simp only [List.tail_cons]
  rw [hy (by omega) ly c h3 hs]
/-! ### Tests -/
theorem ra_test {d : Nat} {e : Ex} (he : e.line ≠ 4) (h : RA d 5 e) : RA d 4 e := by
  intro hd l c hl hs
  rw [ndW_same he] at hd
  rw [wkW_same he] at hl
  rw [lnF_test]
  unfold testP
  rw [h hd l c hl (hs.up (by decide))]
  simp only []
  rw [if_neg (by rw [hs.is (by decide)]; simp), hs.op 4 (by decide) (by decide) (by decide)]
theorem ra_cmp {d : Nat} {o : Opr} (om : o ∈ oprs) (ok : o.kind = 4) (h4 : o.line = 4) {x y : Ex} (hx : RA d 5 x) (hy : RA d 5 y) : RA d 4 (mkE o.kind o.op [x, y]) := by
  intro hd l c hl hs
  rw [two_line om ok, h4, ndW_own, two_nd om ok, if_pos h4, h4] at hd
  rw [two_line om ok, h4, wkW_own, two_wk om ok, if_pos h4, h4] at hl
  obtain ⟨lx, r, rfl, h1, h2⟩ := List.map_eq_append_iff.1 hl
  obtain ⟨p, ly, rfl, h3⟩ := map_one h2
  have hst := st_op om ok p (ly ++ c)
  rw [h4] at hst
  have hod := (oprs_odd o om).2
  have hself := opAt_self om p (ly ++ c)
  rw [h4] at hself
  rw [lnF_test]
  unfold testP
  have q := hx (by omega) lx ((⟨o.tok, o.txt, 0⟩, p) :: (ly ++ c)) h1 hst
  rw [List.append_assoc, List.cons_append, q]
  simp only []
  have his : stn 1 [105, 115] ((⟨o.tok, o.txt, 0⟩, p) :: (ly ++ c)) = false := by
    cases hb : stn 1 [105, 115] ((⟨o.tok, o.txt, 0⟩, p) :: (ly ++ c)) with
    | false => rfl
    | true =>
      simp only [stn, Bool.and_eq_true, beq_iff_eq] at hb
      exact absurd hb hod
  rw [his, if_neg (by simp), hself]
  simp only [List.tail_cons]
  rw [hy (by have : (4 : Int) + 1 = 5 := rfl; rw [this] at hd; omega) ly c h3 (hs.up (by decide))]
theorem ra_null {d : Nat} {i : Int} (hi : i = 0 ∨ i = 1) {x : Ex} (hx : RA d 5 x) : RA d 4 (mkE 7 i [x]) := by
  intro hd l c hl hs
  rw [null_line hi, ndW_own, null_nd] at hd
  rw [null_line hi, wkW_own, null_wk] at hl
  obtain ⟨lx, r, rfl, h1, h2⟩ := List.map_eq_append_iff.1 hl
  rw [lnF_test]
  unfold testP
  rcases hi with rfl | rfl
  · obtain ⟨p, q, t, rfl, ht⟩ := map_two h2
    obtain rfl : t = [] := by simpa using ht
    have := hx hd lx ((⟨1, [105, 115], 0⟩, p) :: (⟨1, [110, 117, 108, 108], 0⟩, q) :: c) h1 (st_is p _)
    rw [List.append_assoc]
    show (match lnF d 5 (lx ++ ((⟨1, [105, 115], 0⟩, p) :: (⟨1, [110, 117, 108, 108], 0⟩, q) :: c)) with | .error x => _ | .ok y => _) = _
    rw [this]
    rfl
  · obtain ⟨p, r, rfl, h3⟩ := map_one h2
    obtain ⟨q, q', t, rfl, ht⟩ := map_two h3
    obtain rfl : t = [] := by simpa using ht
    have := hx hd lx ((⟨1, [105, 115], 0⟩, p) :: (⟨1, [110, 111, 116], 0⟩, q) :: (⟨1, [110, 117, 108, 108], 0⟩, q') :: c) h1 (st_is p _)
    rw [List.append_assoc]
    show (match lnF d 5 (lx ++ ((⟨1, [105, 115], 0⟩, p) :: (⟨1, [110, 111, 116], 0⟩, q) :: (⟨1, [110, 117, 108, 108], 0⟩, q') :: c)) with | .error x => _ | .ok y => _) = _
    rw [this]
    rfl
/-! ### NOT and the sign -/
theorem opAt_hd {n : Int} (hn : n = 3 ∨ n = 8) {m : Int} (hm : m ≤ 9) {t : Tk} (h : Hd m t ∧ n + 1 ≤ m ∨ t = ⟨5, [40], 0⟩) (p : Nat) (r : Ts) : opAt n ((t, p) :: r) = none := by
  refine opAt_head fun o ho hl q => ?_
  simp only [] at q
  rcases hn with rfl | rfl
  · have h3 := oprs_not o ho hl
    rcases h with ⟨h, hle⟩ | rfl
    · exact h.not (by omega) ⟨by rw [q.1, h3.1], by rw [q.2, h3.2]⟩
    · have := q.1.trans h3.1; cases this
  · have h8 := oprs_neg o ho hl
    rcases h with ⟨h, hle⟩ | rfl
    · rcases h.sym (by rw [q.1, h8.1]) with z | z
      · rw [q.2, h8.2] at z; cases z
      · exact z.2 (by omega)
    · have := q.2.trans h8.2; cases this
theorem ra_ahead {d : Nat} {n : Int} (hn : n = 3 ∨ n = 8) {e : Ex} (hsh : ShE e) (he : e.line ≠ n) (h : RA d (n + 1) e) : RA d n e := by
  intro hd l c hl hs
  rw [ndW_same he] at hd
  rw [wkW_same he] at hl
  obtain ⟨t, r, e1, hh⟩ := hd_at hsh (n + 1)
  have hl' := hl
  rw [e1] at hl'
  obtain ⟨p, l', rfl, _⟩ := map_one hl'
  have ho := opAt_hd hn (line_le9 _ _ _) hh p (l' ++ c)
  have hA := h hd _ c hl (hs.up (by omega))
  rcases hn with rfl | rfl
  · rw [lnF_not]
    unfold aheadP
    rw [List.cons_append, ho]
    exact hA
  · rw [lnF_neg]
    unfold aheadP
    rw [List.cons_append, ho]
    exact hA
theorem ra_one {d : Nat} {o : Opr} (om : o ∈ oprs) (ok : o.kind = 3) {x : Ex} (hx : ∀ d', RA d' o.line x) : RA d o.line (mkE o.kind o.op [x]) := by
  intro hd l c hl hs
  rw [one_line om ok, ndW_own, one_nd om ok] at hd
  rw [one_line om ok, wkW_own, one_wk om ok] at hl
  obtain ⟨p, lx, rfl, h1⟩ := map_one hl
  obtain ⟨d, rfl⟩ : ∃ d', d = d' + 1 := ⟨d - 1, by omega⟩
  have hself := opAt_self om p (lx ++ c)
  have q := hx d (by omega) lx c h1 hs
  rcases (show o.line = 3 ∨ o.line = 8 from by
    have : ∀ o ∈ oprs, o.kind = 3 → o.line = 3 ∨ o.line = 8 := by decide
    exact this o om ok) with h3 | h8
  · rw [h3] at hself q ⊢
    rw [lnF_not]
    unfold aheadP
    rw [List.cons_append, hself]
    show (match (lns d).nt (lx ++ c) with | .error x => _ | .ok y => _) = _
    rw [lnF_nt, q]
  · rw [h8] at hself q ⊢
    rw [lnF_neg]
    unfold aheadP
    rw [List.cons_append, hself]
    show (match (lns d).sg (lx ++ c) with | .error x => _ | .ok y => _) = _
    rw [lnF_sg, q]
end Go.Proofs.YtekapdpfbkdflaaGreatDoor
namespace Go.Proofs.YtekapdpfbkdflaaGreatDoor
open Go.Lib
set_option linter.unusedVariables false
set_option maxRecDepth 20000

theorem wkW_pos (e : Ex) : wkW 1 (e.line, wk e) = wk e := if_pos (line_pos ..)
theorem ndW_pos (e : Ex) : ndW 1 (e.line, nd e) = nd e := if_pos (line_pos ..)
theorem ra_brk {d : Nat} {e : Ex} (he : e.line ≠ 9) (h : ∀ d', d = d' + 1 → RA d' 1 e) : RA d 9 e := by
  intro hd l c hl hs
  have h9 := line_le9 e.k e.op e.xs.length
  have hlt : ¬ (9 : Int) ≤ e.line := by
    have : e.line ≤ 9 := h9
    omega
  have e1 : ndW 9 (e.line, nd e) = nd e + 1 := if_neg hlt
  have e2 : wkW 9 (e.line, wk e) = ⟨5, [40], 0⟩ :: (wk e ++ [⟨5, [41], 0⟩]) := if_neg hlt
  rw [e1] at hd
  rw [e2] at hl
  obtain ⟨d, rfl⟩ : ∃ d', d = d' + 1 := ⟨d - 1, by omega⟩
  obtain ⟨p, r, rfl, h1⟩ := map_one hl
  obtain ⟨le, s, rfl, h2, h3⟩ := List.map_eq_append_iff.1 h1
  obtain ⟨q, t, rfl, ht⟩ := map_one h3
  obtain rfl : t = [] := by simpa using ht
  have hr := h d rfl (by rw [ndW_pos]; omega) le ((⟨5, [41], 0⟩, q) :: c) (by rw [wkW_pos]; exact h2) (st_odd 1 ⟨rfl, Or.inl rfl⟩)
  have ea : (⟨5, [40], 0⟩, p) :: (le ++ [(⟨5, [41], 0⟩, q)]) ++ c = ((⟨5, [40], 0⟩ : Tk), p) :: (le ++ (⟨5, [41], 0⟩, q) :: c) := by simp
  rw [ea, lnF_item]
  show brkP (some (lns d).orr) (fun g => g) (((⟨5, [40], 0⟩ : Tk), p) :: (le ++ (⟨5, [41], 0⟩, q) :: c)) = _
  unfold brkP
  simp only [List.tail_cons]
  rw [lnF_orr, hr]
  rfl
theorem litT_tkV {v : Val} (h : LitOk v) (p : Nat) (c : Ts) : litT ((tkV v, p) :: c) = some v ∧ stn 5 [40] ((tkV v, p) :: c) = false := by
  obtain ⟨t, hg, _, hv⟩ := h
  rcases litT_k hv with ⟨hk, rfl⟩ | ⟨hk, rfl⟩ | ⟨hk, rfl⟩ | rfl | rfl | rfl <;> exact ⟨rfl, rfl⟩
theorem ra_lit {d : Nat} {v : Val} (hv : LitOk v) : RA d 9 (litE v) := by
  intro hd l c hl hs
  have e1 : wkW 9 ((litE v).line, wk (litE v)) = [tkV v] := rfl
  rw [e1] at hl
  obtain ⟨p, t, rfl, ht⟩ := map_one hl
  obtain rfl : t = [] := by simpa using ht
  obtain ⟨h1, h2⟩ := litT_tkV hv p c
  rw [lnF_item]
  unfold itemP
  rw [List.singleton_append, if_neg (by rw [h2]; simp), h1]
  rfl
theorem litT_name {s : List UInt8} (hs : nmB s = true) (p : Nat) (c : Ts) : litT ((⟨1, s, 0⟩, p) :: c) = none := by
  have hk := name_kw hs
  have h1 : (s == [110, 117, 108, 108]) = false := beq_eq_false_iff_ne.2 (hk _ (by decide))
  have h2 : (s == [116, 114, 117, 101]) = false := beq_eq_false_iff_ne.2 (hk _ (by decide))
  have h3 : (s == [102, 97, 108, 115, 101]) = false := beq_eq_false_iff_ne.2 (hk _ (by decide))
  unfold litT
  simp only []
  rw [if_neg (by decide), if_neg (by decide), if_neg (by decide), if_pos trivial, h1, h2, h3]
  rfl
theorem nameP_ok {s : List UInt8} (hs : nmB s = true) (p : Nat) (c : Ts) : nameP ((⟨1, s, 0⟩, p) :: c) = .ok (s, c) := by
  rw [nameP, if_pos ⟨rfl, hs⟩]
theorem calT_no {t : Tk} (p : Nat) {c : Ts} (h : stn 5 [40] c = false) : calT ((t, p) :: c) = none := by
  cases c with
  | nil => rfl
  | cons y r =>
    unfold calT
    simp only []
    rw [if_neg]
    rintro ⟨_, hk, hs⟩
    simp [stn, hk, hs] at h
theorem ra_col {d : Nat} {t n : List UInt8} (hn : nmB n = true) (ht : t = [] ∨ nmB t = true) : RA d 9 (colE t n) := by
  intro hd l c hl hs
  have e1 : wkW 9 ((colE t n).line, wk (colE t n)) = if t = [] then [⟨1, n, 0⟩] else [⟨1, t, 0⟩, ⟨5, [46], 0⟩, ⟨1, n, 0⟩] := by
    have : wk (colE t n) = if t = [] then [⟨1, n, 0⟩] else [⟨1, t, 0⟩, ⟨5, [46], 0⟩, ⟨1, n, 0⟩] := by rw [wk_eq]; rfl
    rw [this]
    exact if_pos (Int.le_refl 9)
  rw [e1] at hl
  rw [lnF_item]
  unfold itemP
  by_cases h0 : t = []
  · subst h0
    rw [if_pos rfl] at hl
    obtain ⟨p, r, rfl, hr⟩ := map_one hl
    obtain rfl : r = [] := by simpa using hr
    rw [List.singleton_append, if_neg (by simp [stn]), litT_name hn]
    simp only []
    rw [calT_no p hs.opn]
    simp only []
    unfold colP
    rw [nameP_ok hn]
    simp only []
    rw [if_neg (by rw [hs.dot]; simp)]
  · rw [if_neg h0] at hl
    have htn := ht.resolve_left h0
    obtain ⟨p, q, r, rfl, hr⟩ := map_two hl
    obtain ⟨p', r', rfl, hr'⟩ := map_one hr
    obtain rfl : r' = [] := by simpa using hr'
    simp only [List.cons_append, List.nil_append]
    rw [if_neg (by simp [stn]), litT_name htn]
    simp only []
    rw [calT_no p (show stn 5 [40] ((⟨5, [46], 0⟩, q) :: (⟨1, n, 0⟩, p') :: c) = false from rfl)]
    simp only []
    unfold colP
    rw [nameP_ok htn]
    simp only []
    rw [if_pos (show stn 5 [46] ((⟨5, [46], 0⟩, q) :: (⟨1, n, 0⟩, p') :: c) = true from rfl), List.tail_cons, nameP_ok hn]
theorem ops_all {d : Nat} (q : Nat) (c : Ts) : ∀ (ys acc : List Ex) (l : Ts), (∀ y ∈ ys, RA d 1 y ∧ nd y ≤ d) → l.map (·.1) = wkT (ys.map fun x => (x.line, wk x)) → opsL (lnF d 1) ys.length acc (l ++ (⟨5, [41], 0⟩, q) :: c) = .ok (acc ++ ys, (⟨5, [41], 0⟩, q) :: c)
  | [], acc, l, h, hl => by
    obtain rfl : l = [] := by simpa [wkT] using hl
    rw [List.append_nil]
    rfl
  | y :: ys, acc, l, h, hl => by
    have hl' : l.map (·.1) = ⟨5, [44], 0⟩ :: (wk y ++ wkT (ys.map fun x => (x.line, wk x))) := hl
    obtain ⟨p, r, rfl, h1⟩ := map_one hl'
    obtain ⟨ly, lr, rfl, h2, h3⟩ := List.map_eq_append_iff.1 h1
    have hst : St 1 (lr ++ (⟨5, [41], 0⟩, q) :: c) := by
      cases ys with
      | nil =>
        obtain rfl : lr = [] := by simpa [wkT] using h3
        exact st_odd 1 ⟨rfl, Or.inl rfl⟩
      | cons z zs =>
        obtain ⟨p', r', rfl, _⟩ := map_one (show lr.map (·.1) = ⟨5, [44], 0⟩ :: (wk z ++ wkT (zs.map fun x => (x.line, wk x))) from h3)
        exact st_odd 1 ⟨rfl, Or.inr rfl⟩
    obtain ⟨ha, hn⟩ := h y (List.mem_cons_self ..)
    have hy := ha (by rw [ndW_pos]; exact hn) ly (lr ++ (⟨5, [41], 0⟩, q) :: c) (by rw [wkW_pos]; exact h2) hst
    have ih := ops_all q c ys (acc ++ [y]) lr (fun z hz => h z (List.mem_cons_of_mem _ hz)) h3
    rw [List.cons_append, List.append_assoc, List.length_cons, opsL, if_pos (show stn 5 [44] ((⟨5, [44], 0⟩, p) :: (ly ++ (lr ++ (⟨5, [41], 0⟩, q) :: c))) = true from rfl)]
    rw [List.tail_cons, hy]
    simp only []
    rw [ih]
    simp
theorem calN_self {c : Cal} (hc : c ∈ cals) : calN c.name = some c := by
  simp only [cals, List.mem_cons, List.not_mem_nil, or_false] at hc
  rcases hc with rfl | rfl | rfl | rfl | rfl | rfl | rfl | rfl | rfl | rfl <;> rfl
theorem ndM_mem {xs : List Ex} {x : Ex} (h : x ∈ xs) : nd x ≤ ndM (xs.map fun x => (x.line, nd x)) := by
  induction xs with
  | nil => cases h
  | cons y ys ih =>
    rw [List.map_cons, ndM]
    rcases List.mem_cons.1 h with e | h
    · rw [e]; exact Nat.le_max_left ..
    · exact Nat.le_trans (ih h) (Nat.le_max_right ..)
theorem in_all {d : Nat} {k : Cal} (hk : k ∈ cals) {xs : List Ex} (hx : xs.length = k.cnt ∨ k.all = true ∧ xs.length = 0) (h : ∀ x ∈ xs, RA d 1 x ∧ nd x ≤ d ∧ ShE x) (q : Nat) (c l : Ts) (hl : l.map (·.1) = if xs.isEmpty then [⟨5, [42], 0⟩] else wkC (xs.map fun x => (x.line, wk x))) :
    inP (lnF d 1) k (l ++ (⟨5, [41], 0⟩, q) :: c) = .ok (xs, (⟨5, [41], 0⟩, q) :: c) := by
  have hcnt := cals_cnt3 k hk
  unfold inP
  cases xs with
  | nil =>
    have ha : k.all = true := by
      rcases hx with hx | hx
      · simp at hx; omega
      · exact hx.1
    obtain ⟨p, t, rfl, ht⟩ := map_one (show l.map (·.1) = [⟨5, [42], 0⟩] from hl)
    obtain rfl : t = [] := by simpa using ht
    rw [List.singleton_append, if_pos (by rw [ha]; rfl)]
    rfl
  | cons x xs =>
    have hlen : (x :: xs).length = k.cnt := by
      rcases hx with hx | hx
      · exact hx
      · simp at hx
    have hl' : l.map (·.1) = wk x ++ wkT (xs.map fun x => (x.line, wk x)) := hl
    obtain ⟨lx, lr, rfl, h2, h3⟩ := List.map_eq_append_iff.1 hl'
    have hst : St 1 (lr ++ (⟨5, [41], 0⟩, q) :: c) := by
      cases xs with
      | nil =>
        obtain rfl : lr = [] := by simpa [wkT] using h3
        exact st_odd 1 ⟨rfl, Or.inl rfl⟩
      | cons z zs =>
        obtain ⟨p', r', rfl, _⟩ := map_one (show lr.map (·.1) = ⟨5, [44], 0⟩ :: (wk z ++ wkT (zs.map fun x => (x.line, wk x))) from h3)
        exact st_odd 1 ⟨rfl, Or.inr rfl⟩
    obtain ⟨ha, hn, hsh⟩ := h x (List.mem_cons_self ..)
    have hy := ha (by rw [ndW_pos]; exact hn) lx (lr ++ (⟨5, [41], 0⟩, q) :: c) (by rw [wkW_pos]; exact h2) hst
    have ih := ops_all q c xs [x] lr (fun z hz => ⟨(h z (List.mem_cons_of_mem _ hz)).1, (h z (List.mem_cons_of_mem _ hz)).2.1⟩) h3
    have hstar : stn 5 [42] (lx ++ lr ++ (⟨5, [41], 0⟩, q) :: c) = false := by
      obtain ⟨t, r, e1, hh⟩ := hd_all _ x (Nat.le_refl _) hsh
      rw [e1] at h2
      obtain ⟨p, l', rfl, _⟩ := map_one h2
      cases hb : stn 5 [42] ((t, p) :: l' ++ lr ++ (⟨5, [41], 0⟩, q) :: c) with
      | false => rfl
      | true =>
        simp only [List.cons_append, stn, Bool.and_eq_true, beq_iff_eq] at hb
        rcases hh.sym hb.1 with z | z
        · rw [hb.2] at z; cases z
        · rw [hb.2] at z; cases z.1
    rw [hstar, Bool.and_false, if_neg (by simp)]
    unfold opsP
    rw [List.append_assoc, hy]
    simp only []
    rw [← hlen]
    exact ih
theorem ra_call {d : Nat} {k : Cal} (hk : k ∈ cals) {xs : List Ex} (hx : xs.length = k.cnt ∨ k.all = true ∧ xs.length = 0) (h : ∀ x ∈ xs, ShE x ∧ ∀ d, RA d 1 x) : RA d 9 (mkE k.kind k.op xs) := by
  intro hd l c hl hs
  have e0 : (mkE k.kind k.op xs).line = 9 := cals_line k hk _
  rw [e0, ndW_own, call_nd hk] at hd
  rw [e0, wkW_own, call_wk hk] at hl
  obtain ⟨d, rfl⟩ : ∃ d', d = d' + 1 := ⟨d - 1, by omega⟩
  obtain ⟨p, q, r, rfl, h1⟩ := map_two hl
  obtain ⟨li, s, rfl, h2, h3⟩ := List.map_eq_append_iff.1 h1
  obtain ⟨q', t, rfl, ht⟩ := map_one h3
  obtain rfl : t = [] := by simpa using ht
  have hin := in_all (d := d) hk hx (fun x hx' => ⟨(h x hx').2 d, by have := ndM_mem hx'; omega, (h x hx').1⟩) q' c li h2
  have hnn := cals_not k hk
  have hlit : litT ((⟨1, k.name, 0⟩, p) :: (⟨5, [40], 0⟩, q) :: (li ++ (⟨5, [41], 0⟩, q') :: c)) = none := by
    have g1 : (k.name == [110, 117, 108, 108]) = false := beq_eq_false_iff_ne.2 hnn.2.1
    have g2 : (k.name == [116, 114, 117, 101]) = false := beq_eq_false_iff_ne.2 hnn.2.2.1
    have g3 : (k.name == [102, 97, 108, 115, 101]) = false := beq_eq_false_iff_ne.2 hnn.2.2.2
    unfold litT
    simp only []
    rw [if_neg (by decide), if_neg (by decide), if_neg (by decide), if_pos trivial, g1, g2, g3]
    rfl
  have hcal : calT ((⟨1, k.name, 0⟩, p) :: (⟨5, [40], 0⟩, q) :: (li ++ (⟨5, [41], 0⟩, q') :: c)) = some k := by
    unfold calT
    simp only []
    rw [if_pos (by simp), calN_self hk]
  have ea : (⟨1, k.name, 0⟩, p) :: (⟨5, [40], 0⟩, q) :: (li ++ [(⟨5, [41], 0⟩, q')]) ++ c = ((⟨1, k.name, 0⟩ : Tk), p) :: (⟨5, [40], 0⟩, q) :: (li ++ (⟨5, [41], 0⟩, q') :: c) := by simp
  rw [ea, lnF_item]
  unfold itemP
  rw [if_neg (by simp [stn]), hlit]
  simp only []
  rw [hcal]
  simp only [List.tail_cons]
  have hbrk : brkP ((prv (d + 1)).map (·.orr)) (fun g => inP g k) ((⟨5, [40], 0⟩, q) :: (li ++ (⟨5, [41], 0⟩, q') :: c)) = .ok (xs, c) := by
    show brkP (some (lns d).orr) (fun g => inP g k) _ = _
    unfold brkP
    simp only [List.tail_cons]
    rw [lnF_orr, hin]
    rfl
  rw [hbrk]
/-! ### All -/
theorem rb_any {d : Nat} {n : Int} {e : Ex} (hn : n = 1 ∨ n = 2 ∨ n = 5 ∨ n = 6 ∨ n = 7) (h : ShE e) (ihB : ∀ x, SizeOf.sizeOf x < SizeOf.sizeOf e → ShE x → RB d n x) (ihA : ∀ x, SizeOf.sizeOf x < SizeOf.sizeOf e → ShE x → RA d (n + 1) x) (hA : RA d (n + 1) e) : RB d n e := by
  by_cases he : e.line = n
  · cases shp h with
    | lit v hv => have : (9 : Int) = n := he; omega
    | col t c hc ht => have : (9 : Int) = n := he; omega
    | one o x om ok hx =>
      rw [one_line om ok] at he
      have : ∀ o ∈ oprs, o.kind = 3 → o.line = 3 ∨ o.line = 8 := by decide
      have := this o om ok
      omega
    | two o x y om ok hx hy =>
      rw [two_line om ok] at he
      subst he
      exact rb_two om ok (by omega) (ihB x (sz_mem (by simp)) hx) (ihA y (sz_mem (by simp)) hy)
    | null i x hi hx => rw [null_line hi] at he; omega
    | call c xs cm hl hx =>
      have e0 : (mkE c.kind c.op xs).line = 9 := cals_line c cm _
      rw [e0] at he
      omega
  · exact rb_next he hA
/-- All lines of one expression. -/
structure RAll (d : Nat) (e : Ex) : Prop where
  a9 : RA d 9 e
  a8 : RA d 8 e
  b7 : RB d 7 e
  b6 : RB d 6 e
  b5 : RB d 5 e
  a4 : RA d 4 e
  a3 : RA d 3 e
  b2 : RB d 2 e
  b1 : RB d 1 e
theorem RAll.a7 {d : Nat} {e : Ex} (h : RAll d e) : RA d 7 e := ra_row (by decide) h.b7
theorem RAll.a6 {d : Nat} {e : Ex} (h : RAll d e) : RA d 6 e := ra_row (by decide) h.b6
theorem RAll.a5 {d : Nat} {e : Ex} (h : RAll d e) : RA d 5 e := ra_row (by decide) h.b5
theorem RAll.a2 {d : Nat} {e : Ex} (h : RAll d e) : RA d 2 e := ra_row (by decide) h.b2
theorem RAll.a1 {d : Nat} {e : Ex} (h : RAll d e) : RA d 1 e := ra_row (by decide) h.b1
theorem rall_step {d : Nat} {e : Ex} (h : ShE e) (ih : ∀ x, SizeOf.sizeOf x < SizeOf.sizeOf e → ShE x → ∀ d, RAll d x) (ihd : ∀ d', d = d' + 1 → RA d' 1 e) : RAll d e := by
  have a9 : RA d 9 e := by
    by_cases he : e.line = 9
    · cases shp h with
      | lit v hv => exact ra_lit hv
      | col t c hc ht => exact ra_col hc ht
      | one o x om ok hx => rw [one_line om ok] at he; have := oprs_line o om; omega
      | two o x y om ok hx hy => rw [two_line om ok] at he; have := oprs_line o om; omega
      | null i x hi hx => rw [null_line hi] at he; omega
      | call c xs cm hl hx => exact ra_call cm hl fun x hx' => ⟨hx x hx', fun d => (ih x (sz_mem hx') (hx x hx') d).a1⟩
    · exact ra_brk he ihd
  have ahead (n : Int) (hn : n = 3 ∨ n = 8) (hA : RA d (n + 1) e) (hx : ∀ x, SizeOf.sizeOf x < SizeOf.sizeOf e → ShE x → ∀ d, RA d n x) : RA d n e := by
    by_cases he : e.line = n
    · cases shp h with
      | lit v hv => have : (9 : Int) = n := he; omega
      | col t c hc ht => have : (9 : Int) = n := he; omega
      | one o x om ok hx' =>
        rw [one_line om ok] at he
        subst he
        exact ra_one om ok fun d' => hx x (sz_mem (by simp)) hx' d'
      | two o x y om ok hx' hy =>
        rw [two_line om ok] at he
        have : ∀ o ∈ oprs, o.kind = 4 → o.line ≠ 3 ∧ o.line ≠ 8 := by decide
        have := this o om ok
        omega
      | null i x hi hx' => rw [null_line hi] at he; omega
      | call c xs cm hl hx' =>
        have e0 : (mkE c.kind c.op xs).line = 9 := cals_line c cm _
        rw [e0] at he
        omega
    · exact ra_ahead hn h he hA
  have a8 : RA d 8 e := ahead 8 (Or.inr rfl) a9 fun x hx hs d => (ih x hx hs d).a8
  have b7 : RB d 7 e := rb_any (by decide) h (fun x hx hs => (ih x hx hs d).b7) (fun x hx hs => (ih x hx hs d).a8) a8
  have b6 : RB d 6 e := rb_any (by decide) h (fun x hx hs => (ih x hx hs d).b6) (fun x hx hs => (ih x hx hs d).a7) (ra_row (by decide) b7)
  have b5 : RB d 5 e := rb_any (by decide) h (fun x hx hs => (ih x hx hs d).b5) (fun x hx hs => (ih x hx hs d).a6) (ra_row (by decide) b6)
  have a5 : RA d 5 e := ra_row (by decide) b5
  have a4 : RA d 4 e := by
    by_cases he : e.line = 4
    · cases shp h with
      | lit v hv => have : (9 : Int) = 4 := he; omega
      | col t c hc ht => have : (9 : Int) = 4 := he; omega
      | one o x om ok hx =>
        rw [one_line om ok] at he
        have : ∀ o ∈ oprs, o.kind = 3 → o.line = 3 ∨ o.line = 8 := by decide
        have := this o om ok
        omega
      | two o x y om ok hx hy =>
        rw [two_line om ok] at he
        exact ra_cmp om ok he (ih x (sz_mem (by simp)) hx d).a5 (ih y (sz_mem (by simp)) hy d).a5
      | null i x hi hx => exact ra_null hi (ih x (sz_mem (by simp)) hx d).a5
      | call c xs cm hl hx =>
        have e0 : (mkE c.kind c.op xs).line = 9 := cals_line c cm _
        rw [e0] at he
        omega
    · exact ra_test he a5
  have a3 : RA d 3 e := ahead 3 (Or.inl rfl) a4 fun x hx hs d => (ih x hx hs d).a3
  have b2 : RB d 2 e := rb_any (by decide) h (fun x hx hs => (ih x hx hs d).b2) (fun x hx hs => (ih x hx hs d).a3) a3
  have b1 : RB d 1 e := rb_any (by decide) h (fun x hx hs => (ih x hx hs d).b1) (fun x hx hs => (ih x hx hs d).a2) (ra_row (by decide) b2)
  exact ⟨a9, a8, b7, b6, b5, a4, a3, b2, b1⟩
theorem rall : ∀ (N : Nat) (e : Ex), SizeOf.sizeOf e ≤ N → ShE e → ∀ d, RAll d e := by
  intro N
  induction N with
  | zero => intro e he; cases e; simp at he
  | succ N ih =>
    intro e he h d
    induction d with
    | zero => exact rall_step h (fun x hx hs d => ih x (by omega) hs d) (fun d' q => by omega)
    | succ d ihd =>
      refine rall_step h (fun x hx hs d => ih x (by omega) hs d) (fun d' q => ?_)
      obtain rfl : d = d' := by omega
      exact ihd.a1
/-- What is read is read from what it is written as. -/
theorem back_all {l r : Ts} {e : Ex} (hl : TkG l) (h : (lns 32).orr l = .ok (e, r)) : ∃ T, toksOf (prE e) = .ok T ∧ (lns 32).orr T = .ok (e, []) := by
  have hA := (bk_lns 32).2.2 l e r hl h
  obtain ⟨T, h1, h2⟩ := toks_pr hA.1
  refine ⟨T, h1, ?_⟩
  have := (rall _ e (Nat.le_refl _) hA.1 32).a1 hA.2 T [] (by rw [wkW_pos]; exact h2) (st_nil 1)
  rw [List.append_nil] at this
  rw [lnF_orr]
  exact this
end Go.Proofs.YtekapdpfbkdflaaGreatDoor
