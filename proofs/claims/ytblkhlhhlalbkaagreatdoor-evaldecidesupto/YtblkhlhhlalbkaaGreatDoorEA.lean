/- Plain mathematics of expressions: what is read from words, line by line of the grammar. No program is named here. No conditions. Plain mathematics of expressions: what is read has no more than three operands, and values within the reach of its words. No program is named here. No conditions. -/
import Derived.Test.YtblkhlhhlalbkaaGreatDoorLA
import Derived.Test.YtblkhlhhlalbkaaGreatDoorVA
namespace Go.Proofs.YtblkhlhhlalbkaaGreatDoor
set_option linter.unusedVariables false

/-- An expression: kind, operator, value, table, name, operands. -/
structure Ex where
  k : Int
  op : Int
  v : Val
  t : List UInt8
  n : List UInt8
  xs : List Ex
def v0 : Val := ⟨0, 0, ⟨#[]⟩⟩
/-- Words from a place on. -/
abbrev Ts := List (Tk × Nat)
/-- What a reading answers: what was read, and the words behind; or the words at which something does not fit, and the error. -/
abbrev Rd (α : Type) := Except (Ts × Int) (α × Ts)

/-- Does that word stand first? -/
def stn (k : Int) (s : List UInt8) : Ts → Bool
  | [] => false
  | x :: _ => x.1.k == k && x.1.s == s

/-- An operator: the kind of its expression, its number, the word that stands for it, its line. -/
structure Opr where
  kind : Int
  op : Int
  tok : Int
  txt : List UInt8
  line : Int
def oprs : List Opr := [
  ⟨4, 3, 1, [111, 114], 1⟩, ⟨4, 4, 1, [97, 110, 100], 2⟩, ⟨3, 2, 1, [110, 111, 116], 3⟩,
  ⟨4, 5, 5, [61], 4⟩, ⟨4, 6, 5, [60, 62], 4⟩, ⟨4, 7, 5, [60], 4⟩, ⟨4, 8, 5, [60, 61], 4⟩, ⟨4, 9, 5, [62], 4⟩, ⟨4, 10, 5, [62, 61], 4⟩,
  ⟨4, 16, 5, [124, 124], 5⟩, ⟨4, 11, 5, [43], 6⟩, ⟨4, 12, 5, [45], 6⟩, ⟨4, 13, 5, [42], 7⟩, ⟨4, 14, 5, [47], 7⟩, ⟨4, 15, 5, [37], 7⟩, ⟨3, 1, 5, [45], 8⟩]
/-- The operator of a line that stands first. -/
def opAt (n : Int) (l : Ts) : Option Opr := oprs.find? fun o => o.line == n && stn o.tok o.txt l

/-- An expression of an operator and its operands. -/
def mkE (k op : Int) (xs : List Ex) : Ex := ⟨k, op, v0, [], [], xs⟩
def litE (v : Val) : Ex := ⟨1, 0, v, [], [], []⟩
def colE (t n : List UInt8) : Ex := ⟨2, 0, v0, t, n, []⟩

/-- A row of operators of a line, and parts between them. -/
def rowL (n : Int) (P : Ts → Rd Ex) : Nat → Ex → Ts → Rd Ex
  | 0, e, l => .ok (e, l)
  | f + 1, e, l => match opAt n l with
    | none => .ok (e, l)
    | some o => match P l.tail with
      | .error x => .error x
      | .ok y => rowL n P f (mkE o.kind o.op [e, y.1]) y.2
def rowP (n : Int) (P : Ts → Rd Ex) (l : Ts) : Rd Ex :=
  match P l with
  | .error x => .error x
  | .ok y => rowL n P y.2.length y.1 y.2

/-- A word that must stand there. -/
def mustP (k : Int) (s : List UInt8) (l : Ts) : Except (Ts × Int) Ts := if stn k s l then .ok l.tail else .error (l, 20)
/-- The test's NULL or NOT NULL. -/
def nullP (l : Ts) : Rd Int :=
  if stn 1 [110, 111, 116] l then
    match mustP 1 [110, 117, 108, 108] l.tail with
    | .error x => .error x
    | .ok r => .ok (1, r)
  else match mustP 1 [110, 117, 108, 108] l with
    | .error x => .error x
    | .ok r => .ok (0, r)
/-- The line with one operator at most. -/
def testP (P : Ts → Rd Ex) (l : Ts) : Rd Ex :=
  match P l with
  | .error x => .error x
  | .ok y =>
    if stn 1 [105, 115] y.2 then
      match nullP y.2.tail with
      | .error x => .error x
      | .ok z => .ok (mkE 7 z.1 [y.1], z.2)
    else match opAt 4 y.2 with
      | none => .ok y
      | some o => match P y.2.tail with
        | .error x => .error x
        | .ok z => .ok (mkE o.kind o.op [y.1, z.1], z.2)

/-- A line on which its operator may stand ahead of the line itself. -/
def aheadP (n : Int) (P : Ts → Rd Ex) (prev : Option (Ts → Rd Ex)) (l : Ts) : Rd Ex :=
  match opAt n l with
  | none => P l
  | some o => match prev with
    | none => .error (l, 21)
    | some g => match g l.tail with
      | .error x => .error x
      | .ok y => .ok (mkE o.kind o.op [y.1], y.2)

/-- A function or an aggregate. -/
structure Cal where
  kind : Int
  op : Int
  name : List UInt8
  cnt : Nat
def cals : List Cal := [
  ⟨5, 1, [108, 101, 110, 103, 116, 104], 1⟩, ⟨5, 2, [97, 98, 115], 1⟩, ⟨5, 3, [117, 112, 112, 101, 114], 1⟩, ⟨5, 4, [108, 111, 119, 101, 114], 1⟩,
  ⟨5, 6, [99, 111, 97, 108, 101, 115, 99, 101], 2⟩, ⟨5, 5, [115, 117, 98, 115, 116, 114], 3⟩,
  ⟨6, 1, [99, 111, 117, 110, 116], 1⟩, ⟨6, 2, [115, 117, 109], 1⟩, ⟨6, 3, [109, 105, 110], 1⟩, ⟨6, 4, [109, 97, 120], 1⟩]
def calN (s : List UInt8) : Option Cal := cals.find? fun c => c.name == s
def Cal.all (c : Cal) : Bool := c.kind == 6 && c.op == 1

/-- The literal that stands first. -/
def litT : Ts → Option Val
  | [] => none
  | x :: _ =>
    if x.1.k = 2 then some ⟨2, x.1.n, ⟨#[]⟩⟩
    else if x.1.k = 3 then some ⟨3, 0, ⟨x.1.s.toArray⟩⟩
    else if x.1.k = 4 then some ⟨4, 0, ⟨x.1.s.toArray⟩⟩
    else if x.1.k = 1 then
      if x.1.s == [110, 117, 108, 108] then some v0
      else if x.1.s == [116, 114, 117, 101] then some ⟨1, 1, ⟨#[]⟩⟩
      else if x.1.s == [102, 97, 108, 115, 101] then some ⟨1, 0, ⟨#[]⟩⟩
      else none
    else none
/-- The function or aggregate that stands first, with a bracket behind it. -/
def calT : Ts → Option Cal
  | x :: y :: _ => if x.1.k = 1 ∧ y.1.k = 5 ∧ y.1.s = [40] then calN x.1.s else none
  | _ => none

/-- Operands behind the first. -/
def opsL (g : Ts → Rd Ex) : Nat → List Ex → Ts → Rd (List Ex)
  | 0, acc, l => .ok (acc, l)
  | n + 1, acc, l => if stn 5 [44] l then
      match g l.tail with
      | .error x => .error x
      | .ok y => opsL g n (acc ++ [y.1]) y.2
    else .error (l, 20)
def opsP (g : Ts → Rd Ex) (n : Nat) (l : Ts) : Rd (List Ex) :=
  match g l with
  | .error x => .error x
  | .ok y => opsL g (n - 1) [y.1] y.2
/-- What stands within a call's brackets. -/
def inP (g : Ts → Rd Ex) (c : Cal) (l : Ts) : Rd (List Ex) :=
  if c.all && stn 5 [42] l then .ok ([], l.tail) else opsP g c.cnt l
/-- Brackets about something. -/
def brkP {α : Type} (prev : Option (Ts → Rd Ex)) (h : (Ts → Rd Ex) → Ts → Rd α) (l : Ts) : Rd α :=
  match prev with
  | none => .error (l, 21)
  | some g => match h g l.tail with
    | .error x => .error x
    | .ok y => match mustP 5 [41] y.2 with
      | .error x => .error x
      | .ok r => .ok (y.1, r)
def nam (c : Int) : Bool := (decide (97 ≤ c) && decide (c ≤ 122)) || dig c || (c == 95)
/-- Is it a keyword? -/
def kws : List (List UInt8) := [[115, 101, 108, 101, 99, 116], [100, 105, 115, 116, 105, 110, 99, 116], [102, 114, 111, 109], [106, 111, 105, 110], [111, 110], [119, 104, 101, 114, 101], [103, 114, 111, 117, 112], [98, 121], [104, 97, 118, 105, 110, 103], [111, 114, 100, 101, 114], [97, 115, 99], [100, 101, 115, 99], [108, 105, 109, 105, 116], [111, 102, 102, 115, 101, 116], [97, 115], [105, 110, 115, 101, 114, 116], [105, 110, 116, 111], [118, 97, 108, 117, 101, 115], [117, 112, 100, 97, 116, 101], [115, 101, 116], [100, 101, 108, 101, 116, 101], [99, 114, 101, 97, 116, 101], [116, 97, 98, 108, 101], [117, 110, 105, 113, 117, 101], [105, 110, 100, 101, 120], [100, 114, 111, 112], [110, 111, 116], [110, 117, 108, 108], [105, 115], [97, 110, 100], [111, 114], [116, 114, 117, 101], [102, 97, 108, 115, 101], [98, 101, 103, 105, 110], [99, 111, 109, 109, 105, 116], [114, 111, 108, 108, 98, 97, 99, 107], [116, 111], [115, 97, 118, 101, 112, 111, 105, 110, 116], [114, 101, 108, 101, 97, 115, 101], [105, 110, 116], [116, 101, 120, 116], [98, 108, 111, 98], [98, 111, 111, 108]]
def kw (l : List UInt8) : Bool := kws.any fun x => l == x
/-- Is it a right name? -/
def nmB (l : List UInt8) : Bool := decide (0 < l.length) && (decide (l.length ≤ 24) && (!isD (l.headD 48) && (!kw l && l.all fun c => nam (bi c))))
/-- A name that must stand there. -/
def nameP : Ts → Rd (List UInt8)
  | [] => .error ([], 20)
  | x :: r => if x.1.k = 1 ∧ nmB x.1.s = true then .ok (x.1.s, r) else .error (x :: r, 20)
/-- A column. -/
def colP (l : Ts) : Rd Ex :=
  match nameP l with
  | .error x => .error x
  | .ok y => if stn 5 [46] y.2 then
      match nameP y.2.tail with
      | .error x => .error x
      | .ok z => .ok (colE y.1 z.1, z.2)
    else .ok (colE [] y.1, y.2)
/-- An item. -/
def itemP (prev : Option (Ts → Rd Ex)) (l : Ts) : Rd Ex :=
  if stn 5 [40] l then brkP prev (fun g => g) l
  else match litT l with
  | some v => .ok (litE v, l.tail)
  | none => match calT l with
    | some c => match brkP prev (fun g => inP g c) l.tail with
      | .error x => .error x
      | .ok y => .ok (mkE c.kind c.op y.1, y.2)
    | none => colP l
/-- The lines of the grammar that may be met one nesting deeper. -/
structure Lns where
  sg : Ts → Rd Ex
  nt : Ts → Rd Ex
  orr : Ts → Rd Ex
def signP (p : Option Lns) : Ts → Rd Ex := aheadP 8 (itemP (p.map (·.orr))) (p.map (·.sg))
def catP (p : Option Lns) : Ts → Rd Ex := rowP 5 (rowP 6 (rowP 7 (signP p)))
def notP (p : Option Lns) : Ts → Rd Ex := aheadP 3 (testP (catP p)) (p.map (·.nt))
def orP (p : Option Lns) : Ts → Rd Ex := rowP 1 (rowP 2 (notP p))
def mkL (p : Option Lns) : Lns := ⟨signP p, notP p, orP p⟩
/-- The lines with so much nesting left. -/
def lns : Nat → Lns
  | 0 => mkL none
  | d + 1 => mkL (some (lns d))
/-- The lines one nesting deeper, if there are. -/
def prv : Nat → Option Lns
  | 0 => none
  | d + 1 => some (lns d)
theorem lns_eq (d : Nat) : lns d = mkL (prv d) := by cases d <;> rfl
/-- The place of words within others. -/
def plc (xs l : Ts) : Nat := match l with
  | x :: _ => x.2
  | [] => match xs.getLast? with
    | some x => x.2 + 1
    | none => 0

/-! ### What is left is a part of what there was -/
def Sf {α : Type} (P : Ts → Rd α) : Prop := ∀ l y, P l = .ok y → y.2 <:+ l
theorem suf_tail {l : Ts} : l.tail <:+ l := List.tail_suffix l
theorem suf_trans {a b c : Ts} (h : a <:+ b) (g : b <:+ c) : a <:+ c := h.trans g
theorem sf_rowL {n : Int} {P : Ts → Rd Ex} (h : Sf P) : ∀ (f : Nat) (e : Ex), Sf (rowL n P f e)
  | 0, e, l, y, q => by cases q; exact List.suffix_refl _
  | f + 1, e, l, y, q => by
    unfold rowL at q
    split at q
    · cases q; exact List.suffix_refl _
    · split at q
      · cases q
      · rename_i z hz
        exact (sf_rowL h f _ _ _ q).trans ((h _ _ hz).trans suf_tail)
theorem sf_row {n : Int} {P : Ts → Rd Ex} (h : Sf P) : Sf (rowP n P) := by
  intro l y q
  unfold rowP at q
  split at q
  · cases q
  · rename_i z hz
    exact (sf_rowL h _ _ _ _ q).trans (h _ _ hz)
theorem sf_must {k : Int} {s : List UInt8} {l r : Ts} (h : mustP k s l = .ok r) : r <:+ l := by
  unfold mustP at h
  split at h
  · cases h; exact suf_tail
  · cases h
theorem sf_null : Sf nullP := by
  intro l y q
  unfold nullP at q
  split at q
  · split at q
    · cases q
    · rename_i r hr; cases q; exact (sf_must hr).trans suf_tail
  · split at q
    · cases q
    · rename_i r hr; cases q; exact sf_must hr
theorem sf_test {P : Ts → Rd Ex} (h : Sf P) : Sf (testP P) := by
  intro l y q
  unfold testP at q
  split at q
  · cases q
  · rename_i z hz
    split at q
    · split at q
      · cases q
      · rename_i u hu; cases q; exact ((sf_null _ _ hu).trans suf_tail).trans (h _ _ hz)
    · split at q
      · cases q; exact h _ _ hz
      · split at q
        · cases q
        · rename_i u hu; cases q; exact ((h _ _ hu).trans suf_tail).trans (h _ _ hz)
def SfO (p : Option (Ts → Rd Ex)) : Prop := ∀ g, p = some g → Sf g
theorem sf_ahead {n : Int} {P : Ts → Rd Ex} {p : Option (Ts → Rd Ex)} (h : Sf P) (hp : SfO p) : Sf (aheadP n P p) := by
  intro l y q
  unfold aheadP at q
  split at q
  · exact h _ _ q
  · split at q
    · cases q
    · rename_i g
      split at q
      · cases q
      · rename_i z hz; cases q; exact (hp g rfl _ _ hz).trans suf_tail
theorem sf_opsL {g : Ts → Rd Ex} (h : Sf g) : ∀ (n : Nat) (acc : List Ex), Sf (opsL g n acc)
  | 0, acc, l, y, q => by cases q; exact List.suffix_refl _
  | n + 1, acc, l, y, q => by
    unfold opsL at q
    split at q
    · split at q
      · cases q
      · rename_i z hz
        exact (sf_opsL h n _ _ _ q).trans ((h _ _ hz).trans suf_tail)
    · cases q
theorem sf_in {g : Ts → Rd Ex} (h : Sf g) (c : Cal) : Sf (inP g c) := by
  intro l y q
  unfold inP at q
  split at q
  · cases q; exact suf_tail
  · unfold opsP at q
    split at q
    · cases q
    · rename_i z hz
      exact (sf_opsL h _ _ _ _ q).trans (h _ _ hz)
theorem sf_brk {α : Type} {p : Option (Ts → Rd Ex)} {h : (Ts → Rd Ex) → Ts → Rd α} (hp : ∀ g, p = some g → Sf (h g)) : Sf (brkP p h) := by
  intro l y q
  unfold brkP at q
  split at q
  · cases q
  · rename_i g
    split at q
    · cases q
    · rename_i z hz
      split at q
      · cases q
      · rename_i r hr; cases q; exact ((sf_must hr).trans (hp g rfl _ _ hz)).trans suf_tail
theorem sf_name : Sf nameP := by
  intro l y q
  cases l with
  | nil => cases q
  | cons x r =>
    by_cases h : x.1.k = 1 ∧ nmB x.1.s = true
    · rw [nameP, if_pos h] at q; cases q; exact List.suffix_cons _ _
    · rw [nameP, if_neg h] at q; cases q
theorem sf_col : Sf colP := by
  intro l y q
  unfold colP at q
  split at q
  · cases q
  · rename_i z hz
    split at q
    · split at q
      · cases q
      · rename_i u hu; cases q; exact ((sf_name _ _ hu).trans suf_tail).trans (sf_name _ _ hz)
    · cases q; exact sf_name _ _ hz
theorem sf_item {p : Option (Ts → Rd Ex)} (hp : SfO p) : Sf (itemP p) := by
  intro l y q
  unfold itemP at q
  split at q
  · exact sf_brk hp _ _ q
  · split at q
    · cases q; exact suf_tail
    · split at q
      · split at q
        · cases q
        · rename_i z hz; cases q
          exact (sf_brk (fun g hg => sf_in (hp g hg) _) _ _ hz).trans suf_tail
      · exact sf_col _ _ q
theorem sfo_map {p : Option Lns} {f : Lns → Ts → Rd Ex} (h : ∀ q, p = some q → Sf (f q)) : SfO (p.map f) := by
  intro g hg
  cases p with
  | none => cases hg
  | some q => cases hg; exact h q rfl
def SfL (p : Lns) : Prop := Sf p.sg ∧ Sf p.nt ∧ Sf p.orr
theorem sf_mkL {p : Option Lns} (h : ∀ q, p = some q → SfL q) : SfL (mkL p) := by
  have h1 : Sf (signP p) := sf_ahead (sf_item (sfo_map fun q hq => (h q hq).2.2)) (sfo_map fun q hq => (h q hq).1)
  have h2 : Sf (notP p) := sf_ahead (sf_test (sf_row (sf_row (sf_row h1)))) (sfo_map fun q hq => (h q hq).2.1)
  exact ⟨h1, h2, sf_row (sf_row h2)⟩
theorem sf_lns : ∀ d, SfL (lns d)
  | 0 => sf_mkL (fun q hq => by cases hq)
  | d + 1 => sf_mkL (fun q hq => by cases hq; exact sf_lns d)
theorem sf_prv {d : Nat} {q : Lns} (h : prv d = some q) : SfL q := by
  cases d with
  | zero => cases h
  | succ d => cases h; exact sf_lns d
theorem opAt_some {n : Int} {l : Ts} {o : Opr} (h : opAt n l = some o) : o ∈ oprs ∧ o.line = n ∧ stn o.tok o.txt l = true := by
  have h1 := List.find?_some h
  simp only [Bool.and_eq_true, beq_iff_eq] at h1
  exact ⟨List.mem_of_find?_eq_some h, h1.1, h1.2⟩
theorem stn_pos {k : Int} {s : List UInt8} {l : Ts} (h : stn k s l = true) : ∃ x r, l = x :: r ∧ x.1.k = k ∧ x.1.s = s := by
  match l, h with
  | x :: r, h =>
    simp only [stn, Bool.and_eq_true, beq_iff_eq] at h
    exact ⟨x, r, rfl, h.1, h.2⟩
end Go.Proofs.YtblkhlhhlalbkaaGreatDoor
namespace Go.Proofs.YtblkhlhhlalbkaaGreatDoor
set_option linter.unusedVariables false

/-- An expression whose values lie within the reach, so many levels deep. -/
def OkE : Nat → Ex → Prop
  | 0, e => e.v.s.size ≤ 2147483648 ∧ -9223372036854775808 ≤ e.v.n ∧ e.v.n ≤ 9223372036854775807 ∧ e.xs.length ≤ 3
  | n + 1, e => (e.v.s.size ≤ 2147483648 ∧ -9223372036854775808 ≤ e.v.n ∧ e.v.n ≤ 9223372036854775807 ∧ e.xs.length ≤ 3) ∧ ∀ z ∈ e.xs, OkE n z
theorem OkE.base {n : Nat} {e : Ex} (h : OkE n e) : e.v.s.size ≤ 2147483648 ∧ -9223372036854775808 ≤ e.v.n ∧ e.v.n ≤ 9223372036854775807 ∧ e.xs.length ≤ 3 := by
  cases n with
  | zero => exact h
  | succ n => exact h.1
def OkA (e : Ex) : Prop := ∀ k, OkE k e
theorem oka_mk {e : Ex} (h : e.v.s.size ≤ 2147483648 ∧ -9223372036854775808 ≤ e.v.n ∧ e.v.n ≤ 9223372036854775807 ∧ e.xs.length ≤ 3) (hs : ∀ x ∈ e.xs, OkA x) : OkA e
  | 0 => h
  | k + 1 => ⟨h, fun x hx => hs x hx k⟩
theorem oka_lit {v : Val} (h : v.s.size ≤ 2147483648 ∧ -9223372036854775808 ≤ v.n ∧ v.n ≤ 9223372036854775807) : OkA (litE v) := oka_mk ⟨h.1, h.2.1, h.2.2, by simp [litE]⟩ (fun x hx => by simp [litE] at hx)
theorem v0_ok : v0.s.size ≤ 2147483648 ∧ -9223372036854775808 ≤ v0.n ∧ v0.n ≤ 9223372036854775807 := ⟨by decide, by decide, by decide⟩
theorem oka_col (t n : List UInt8) : OkA (colE t n) := oka_mk ⟨v0_ok.1, v0_ok.2.1, v0_ok.2.2, by simp [colE]⟩ (fun x hx => by simp [colE] at hx)
theorem oka_mkE (k op : Int) {xs : List Ex} (hl : xs.length ≤ 3) (hs : ∀ x ∈ xs, OkA x) : OkA (mkE k op xs) := oka_mk ⟨v0_ok.1, v0_ok.2.1, v0_ok.2.2, hl⟩ hs
theorem oka_two (k op : Int) {x y : Ex} (hx : OkA x) (hy : OkA y) : OkA (mkE k op [x, y]) := oka_mkE k op (by simp) (fun z hz => by
  simp only [List.mem_cons, List.not_mem_nil, or_false] at hz
  rcases hz with rfl | rfl
  · exact hx
  · exact hy)
theorem oka_one (k op : Int) {x : Ex} (hx : OkA x) : OkA (mkE k op [x]) := oka_mkE k op (by simp) (fun z hz => by
  simp only [List.mem_cons, List.not_mem_nil, or_false] at hz
  rw [hz]; exact hx)
/-- Words within the reach. -/
def TkOk (l : Ts) : Prop := ∀ x ∈ l, x.1.s.length ≤ 2147483648 ∧ -9223372036854775808 ≤ x.1.n ∧ x.1.n ≤ 9223372036854775807
theorem TkOk.suf {l r : Ts} (h : TkOk l) (s : r <:+ l) : TkOk r := fun x hx => h x (s.subset hx)
theorem TkOk.tail {l : Ts} (h : TkOk l) : TkOk l.tail := h.suf (List.tail_suffix l)
def Gd (P : Ts → Rd Ex) : Prop := ∀ l e r, TkOk l → P l = .ok (e, r) → OkA e
theorem gd_rowL {n : Int} {P : Ts → Rd Ex} (h : Gd P) (hs : Sf P) : ∀ (f : Nat) (e : Ex) (l : Ts) (e' : Ex) (r : Ts), TkOk l → OkA e → rowL n P f e l = .ok (e', r) → OkA e'
  | 0, e, l, e', r, hl, he, q => by cases q; exact he
  | f + 1, e, l, e', r, hl, he, q => by
    unfold rowL at q
    split at q
    · cases q; exact he
    · split at q
      · cases q
      · rename_i z hz
        obtain ⟨z1, z2⟩ := z
        exact gd_rowL h hs f _ _ _ _ (hl.tail.suf (hs _ _ hz)) (oka_two _ _ he (h _ _ _ hl.tail hz)) q
theorem gd_row {n : Int} {P : Ts → Rd Ex} (h : Gd P) (hs : Sf P) : Gd (rowP n P) := by
  intro l e r hl q
  unfold rowP at q
  split at q
  · cases q
  · rename_i z hz
    obtain ⟨z1, z2⟩ := z
    exact gd_rowL h hs _ _ _ _ _ (hl.suf (hs _ _ hz)) (h _ _ _ hl hz) q
theorem gd_test {P : Ts → Rd Ex} (h : Gd P) (hs : Sf P) : Gd (testP P) := by
  intro l e r hl q
  unfold testP at q
  split at q
  · cases q
  · rename_i z hz
    obtain ⟨z1, z2⟩ := z
    have h1 := h _ _ _ hl hz
    have h2 := hl.suf (hs _ _ hz)
    split at q
    · split at q
      · cases q
      · rename_i u hu; cases q; exact oka_one _ _ h1
    · split at q
      · cases q; exact h1
      · split at q
        · cases q
        · rename_i u hu
          obtain ⟨u1, u2⟩ := u
          cases q
          exact oka_two _ _ h1 (h _ _ _ h2.tail hu)
def GdO (p : Option (Ts → Rd Ex)) : Prop := ∀ g, p = some g → Gd g
theorem gd_ahead {n : Int} {P : Ts → Rd Ex} {p : Option (Ts → Rd Ex)} (h : Gd P) (hp : GdO p) : Gd (aheadP n P p) := by
  intro l e r hl q
  unfold aheadP at q
  split at q
  · exact h _ _ _ hl q
  · split at q
    · cases q
    · rename_i g
      split at q
      · cases q
      · rename_i z hz
        obtain ⟨z1, z2⟩ := z
        cases q
        exact oka_one _ _ (hp g rfl _ _ _ hl.tail hz)
theorem gd_opsL {g : Ts → Rd Ex} (h : Gd g) (hs : Sf g) : ∀ (n : Nat) (acc : List Ex) (l : Ts) (es : List Ex) (r : Ts), TkOk l → (∀ x ∈ acc, OkA x) → opsL g n acc l = .ok (es, r) → es.length = acc.length + n ∧ ∀ x ∈ es, OkA x
  | 0, acc, l, es, r, hl, ha, q => by cases q; exact ⟨rfl, ha⟩
  | n + 1, acc, l, es, r, hl, ha, q => by
    unfold opsL at q
    split at q
    · split at q
      · cases q
      · rename_i z hz
        obtain ⟨z1, z2⟩ := z
        have := gd_opsL h hs n _ _ _ _ (hl.tail.suf (hs _ _ hz)) (fun x hx => by
          rcases List.mem_append.1 hx with hx | hx
          · exact ha x hx
          · simp only [List.mem_cons, List.not_mem_nil, or_false] at hx
            rw [hx]; exact h _ _ _ hl.tail hz) q
        simp only [List.length_append, List.length_cons, List.length_nil] at this
        exact ⟨by omega, this.2⟩
    · cases q
theorem cals_cnt3 : ∀ c ∈ cals, 1 ≤ c.cnt ∧ c.cnt ≤ 3 := by decide
theorem gd_in {g : Ts → Rd Ex} (h : Gd g) (hs : Sf g) {c : Cal} (hc : c ∈ cals) {l : Ts} {es : List Ex} {r : Ts} (hl : TkOk l) (q : inP g c l = .ok (es, r)) : es.length ≤ 3 ∧ ∀ x ∈ es, OkA x := by
  have hcc := cals_cnt3 c hc
  unfold inP at q
  split at q
  · cases q; exact ⟨by simp, fun x hx => by simp at hx⟩
  · unfold opsP at q
    split at q
    · cases q
    · rename_i z hz
      obtain ⟨z1, z2⟩ := z
      have := gd_opsL h hs _ _ _ _ _ (hl.suf (hs _ _ hz)) (fun x hx => by
        simp only [List.mem_cons, List.not_mem_nil, or_false] at hx
        rw [hx]; exact h _ _ _ hl hz) q
      simp only [List.length_cons, List.length_nil] at this
      exact ⟨by omega, this.2⟩
theorem brk_get {α : Type} {p : Option (Ts → Rd Ex)} {h : (Ts → Rd Ex) → Ts → Rd α} {l : Ts} {a : α} {r : Ts} (q : brkP p h l = .ok (a, r)) : ∃ g r', p = some g ∧ h g l.tail = .ok (a, r') := by
  unfold brkP at q
  split at q
  · cases q
  · rename_i g
    split at q
    · cases q
    · rename_i z hz
      obtain ⟨z1, z2⟩ := z
      split at q
      · cases q
      · cases q; exact ⟨g, _, rfl, hz⟩
theorem gd_col : Gd colP := by
  intro l e r hl q
  unfold colP at q
  split at q
  · cases q
  · split at q
    · split at q
      · cases q
      · cases q; exact oka_col _ _
    · cases q; exact oka_col _ _
theorem litT_ok {l : Ts} (hl : TkOk l) {v : Val} (h : litT l = some v) : v.s.size ≤ 2147483648 ∧ -9223372036854775808 ≤ v.n ∧ v.n ≤ 9223372036854775807 := by
  cases l with
  | nil => cases h
  | cons x r =>
    have hx := hl x (List.mem_cons_self ..)
    unfold litT at h
    simp only [] at h
    split at h
    · cases h; exact ⟨Nat.zero_le _, hx.2⟩
    · split at h
      · cases h; exact ⟨by show x.1.s.length ≤ _; exact hx.1, by show (-9223372036854775808 : Int) ≤ 0; decide, by show (0 : Int) ≤ 9223372036854775807; decide⟩
      · split at h
        · cases h; exact ⟨by show x.1.s.length ≤ _; exact hx.1, by show (-9223372036854775808 : Int) ≤ 0; decide, by show (0 : Int) ≤ 9223372036854775807; decide⟩
        · split at h
          · split at h
            · cases h; exact v0_ok
            · split at h
              · cases h; exact ⟨by decide, by decide, by decide⟩
              · split at h
                · cases h; exact ⟨by decide, by decide, by decide⟩
                · cases h
          · cases h
theorem calT_mem {l : Ts} {c : Cal} (h : calT l = some c) : c ∈ cals := by
  match l, h with
  | x :: y :: r, h =>
    unfold calT at h
    simp only [] at h
    split at h
    · exact List.mem_of_find?_eq_some h
    · cases h
theorem gd_item {p : Option (Ts → Rd Ex)} (hp : GdO p) (hs : SfO p) : Gd (itemP p) := by
  intro l e r hl q
  unfold itemP at q
  split at q
  · obtain ⟨g, r', hg, q'⟩ := brk_get q
    exact hp g hg _ _ _ hl.tail q'
  · split at q
    · rename_i v hv
      cases q
      exact oka_lit (litT_ok hl hv)
    · split at q
      · rename_i c hc
        split at q
        · cases q
        · rename_i z hz
          obtain ⟨z1, z2⟩ := z
          cases q
          obtain ⟨g, r', hg, q'⟩ := brk_get hz
          have := gd_in (hp g hg) (hs g hg) (calT_mem hc) hl.tail.tail q'
          exact oka_mkE _ _ this.1 this.2
      · exact gd_col _ _ _ hl q
def GdL (p : Lns) : Prop := Gd p.sg ∧ Gd p.nt ∧ Gd p.orr
theorem gdO_map {p : Option Lns} {f : Lns → Ts → Rd Ex} (h : ∀ q, p = some q → Gd (f q)) : GdO (p.map f) := by
  intro g hg
  cases p with
  | none => cases hg
  | some q => cases hg; exact h q rfl
theorem gd_mkL {p : Option Lns} (hs : ∀ q, p = some q → SfL q) (h : ∀ q, p = some q → GdL q) : GdL (mkL p) := by
  have s1 : Sf (signP p) := sf_ahead (sf_item (sfo_map fun q hq => (hs q hq).2.2)) (sfo_map fun q hq => (hs q hq).1)
  have s2 : Sf (catP p) := sf_row (sf_row (sf_row s1))
  have s3 : Sf (notP p) := sf_ahead (sf_test s2) (sfo_map fun q hq => (hs q hq).2.1)
  have h1 : Gd (signP p) := gd_ahead (gd_item (gdO_map fun q hq => (h q hq).2.2) (sfo_map fun q hq => (hs q hq).2.2)) (gdO_map fun q hq => (h q hq).1)
  have h2 : Gd (catP p) := gd_row (gd_row (gd_row h1 s1) (sf_row s1)) (sf_row (sf_row s1))
  have h3 : Gd (notP p) := gd_ahead (gd_test h2 s2) (gdO_map fun q hq => (h q hq).2.1)
  exact ⟨h1, h3, gd_row (gd_row h3 s3) (sf_row s3)⟩
theorem gd_lns : ∀ d, GdL (lns d)
  | 0 => gd_mkL (fun q hq => by cases hq) (fun q hq => by cases hq)
  | d + 1 => gd_mkL (fun q hq => by cases hq; exact sf_lns d) (fun q hq => by cases hq; exact gd_lns d)
end Go.Proofs.YtblkhlhhlalbkaaGreatDoor
