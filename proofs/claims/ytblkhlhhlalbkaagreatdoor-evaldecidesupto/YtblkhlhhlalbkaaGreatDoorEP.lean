/- Plain mathematics of evaluation: what an expression is worth over a row, as a plain function. No program is named here. No conditions. The four texts of the law's own trial: their words, the expressions that they are, what they are worth. No program is named here. No conditions. -/
import Derived.Test.YtblkhlhhlalbkaaGreatDoorVL
import Derived.Test.YtblkhlhhlalbkaaGreatDoorCY
import Derived.Test.YtblkhlhhlalbkaaGreatDoorVC
import Derived.KernelRfl
namespace Go.Proofs.YtblkhlhhlalbkaaGreatDoor
open Go.Lib
set_option linter.unusedVariables false
set_option maxRecDepth 20000

/-- An expression: kind, operator, value, table, name, place, type, operands. -/
structure Gx where
  k : Int
  op : Int
  v : Val
  t : List UInt8
  n : List UInt8
  c : Int
  y : Int
  xs : List Gx
/-- Do two expressions agree, but for their operands? -/
def fldG (a b : Gx) : Bool := a.k == b.k && a.op == b.op && a.v.eqb b.v && a.t == b.t && a.n == b.n
def smL (f : Gx → Gx → Bool) : List Gx → List Gx → Bool
  | [], [] => true
  | x :: r, y :: s => f x y && smL f r s
  | [], _ :: _ => false
  | _ :: _, [] => false
/-- Are two expressions, of at most so many levels, the same? -/
def smN : Nat → Gx → Gx → Bool
  | 0, a, b => fldG a b && smL (fun _ _ => false) a.xs b.xs
  | m + 1, a, b => fldG a b && smL (smN m) a.xs b.xs
/-- An expression of at most so many levels. -/
def DpN : Nat → Gx → Prop
  | 0, e => e.xs = []
  | m + 1, e => ∀ x ∈ e.xs, DpN m x
theorem eqb_refl (v : Val) : v.eqb v = true := by simp [Val.eqb, eqv]
theorem fldG_refl (e : Gx) : fldG e e = true := by simp [fldG, eqb_refl]
theorem smL_refl {f : Gx → Gx → Bool} : ∀ {l : List Gx}, (∀ x ∈ l, f x x = true) → smL f l l = true
  | [], _ => rfl
  | x :: r, h => by
    rw [smL, h x (by simp), smL_refl (fun y hy => h y (by simp [hy]))]
    rfl
theorem smN_refl : ∀ {m : Nat} {e : Gx}, DpN m e → smN m e e = true
  | 0, e, h => by
    have h0 : e.xs = [] := h
    rw [smN, fldG_refl, h0]
    rfl
  | m + 1, e, h => by
    rw [smN, fldG_refl, smL_refl (fun x hx => smN_refl (h x hx))]
    rfl
theorem smL_len {f : Gx → Gx → Bool} : ∀ {a b : List Gx}, smL f a b = true → a.length = b.length
  | [], [], _ => rfl
  | x :: r, y :: s, h => by
    rw [smL, Bool.and_eq_true] at h
    simp [smL_len h.2]
  | [], _ :: _, h => by rw [smL] at h; cases h
  | _ :: _, [], h => by rw [smL] at h; cases h
theorem smL_at {f : Gx → Gx → Bool} : ∀ {a b : List Gx}, a.length = b.length → (smL f a b = true ↔ ∀ i (h : i < a.length) (h' : i < b.length), f a[i] b[i] = true)
  | [], [], _ => by simp [smL]
  | x :: r, y :: s, h => by
    rw [smL, Bool.and_eq_true, smL_at (by simpa using h)]
    constructor
    · rintro ⟨h0, h1⟩ i hi hi'
      match i, hi, hi' with
      | 0, _, _ => exact h0
      | i + 1, hi, hi' => exact h1 i (by simpa using hi) (by simpa using hi')
    · intro q
      exact ⟨q 0 (by simp) (by simp), fun i hi hi' => q (i + 1) (by simpa using hi) (by simpa using hi')⟩
  | [], _ :: _, h => by simp at h
  | _ :: _, [], h => by simp at h
/-- Is it an expression for which nothing is written? -/
def emptyB (k op : Int) (v : Val) (t n : List UInt8) (m : Nat) : Bool := !fitsB k op m || (k == 1 && (litV v).isEmpty) || (k == 2 && (t.isEmpty && n.isEmpty))
def noneB (e : Gx) : Bool := emptyB e.k e.op e.v e.t e.n e.xs.length
/-- An operand of which nothing is known. -/
def zeroE : Ex := ⟨0, 0, v0, [], [], []⟩
theorem nullB_ne (op : Int) : nullB op ≠ [] := by unfold nullB; split <;> simp
theorem pr_none (k op : Int) (v : Val) (t n : List UInt8) (xs : List (Int × List UInt8)) : (prB k op v t n xs = []) = (emptyB k op v t n xs.length = true) := by
  unfold prB emptyB
  cases hf : fitsB k op xs.length with
  | false => simp
  | true =>
    simp only [Bool.true_eq_false, if_false, Bool.not_true, Bool.false_or]
    by_cases h1 : k = 1
    · subst h1
      simp
    by_cases h2 : k = 2
    · subst h2
      simp only [if_neg h1, colB]
      have e1 : ((2 : Int) == 1) = false := rfl
      by_cases ht : t = []
      · simp [ht, e1]
      · simp [ht, e1]
    have e1 : (k == 1) = false := beq_eq_false_iff_ne.2 h1
    have e2 : (k == 2) = false := beq_eq_false_iff_ne.2 h2
    rw [if_neg h1, if_neg h2, e1, e2]
    simp only [Bool.false_and, Bool.or_self, Bool.false_eq_true]
    unfold fitsB at hf
    rw [if_neg (by omega)] at hf
    by_cases h3 : k = 3
    · subst h3
      rw [if_pos rfl]
      rw [if_pos rfl, Bool.and_eq_true, Option.isSome_iff_exists] at hf
      obtain ⟨⟨o, ho⟩, hl⟩ := hf
      rw [ho]
      match xs, hl with
      | [x], _ => simp
    rw [if_neg h3] at hf ⊢
    by_cases h4 : k = 4
    · subst h4
      rw [if_pos rfl]
      rw [if_pos rfl, Bool.and_eq_true, Option.isSome_iff_exists] at hf
      obtain ⟨⟨o, ho⟩, hl⟩ := hf
      rw [ho]
      match xs, hl with
      | [x, y], _ => simp
    rw [if_neg h4] at hf ⊢
    by_cases h7 : k = 7
    · subst h7
      rw [if_pos rfl]
      rw [if_pos rfl, Bool.and_eq_true] at hf
      match xs, hf.2 with
      | [x], _ => simp [nullB_ne]
    rw [if_neg h7] at hf ⊢
    by_cases h5 : k = 5 ∨ k = 6
    · rw [if_pos h5] at hf
      cases hc : calOf k op with
      | none => rw [hc] at hf; simp at hf
      | some o => simp
    · rw [if_neg h5] at hf
      cases hf

/-! ### What an expression is worth -/
/-- Does the first operand decide? -/
def decB (k op : Int) (v : Val) : Bool :=
  if k = 4 ∧ op = 4 then v.eqb (truthV false) else if k = 4 ∧ op = 3 then v.eqb (truthV true) else if k = 5 ∧ op = 6 then !(v.k == 0) else false
/-- What an operator or a function makes of its operands. -/
def apB (k op : Int) (vs : List Val) : Ans :=
  if k = 3 then unV op (vs.getD 0 nullV) else if k = 4 then binV op (vs.getD 0 nullV) (vs.getD 1 nullV) else if k = 5 then callV op vs else ⟨truthV (((vs.getD 0 nullV).k == 0) == (op == 0)), 0⟩
/-- The first error. -/
def feB : List Ans → Int
  | [] => 0
  | a :: r => if a.e ≠ 0 then a.e else feB r
def mdB (k op : Int) : List Ans → Ans
  | [] => ⟨nullV, 5⟩
  | a :: r => if a.e ≠ 0 then ⟨nullV, a.e⟩ else if decB k op a.v then ⟨a.v, 0⟩ else if feB r ≠ 0 then ⟨nullV, feB r⟩ else apB k op ((a :: r).map (·.v))
def evB (M : Nat) (row : List Val) (kn : List (Gx × Val)) (e : Gx) (rs : List Ans) : Ans :=
  match kn.find? (fun q => smN M q.1 e) with
  | some q => ⟨q.2, 0⟩
  | none => if noneB e then ⟨nullV, 5⟩ else if e.k = 1 then ⟨e.v, 0⟩ else if e.k = 2 then (if 0 ≤ e.c ∧ e.c < row.length then ⟨row.getD e.c.toNat nullV, 0⟩ else ⟨nullV, 2⟩) else if e.k = 6 then ⟨nullV, 36⟩ else mdB e.k e.op rs
/-- What an expression of at most so many levels is worth. -/
def evN (M : Nat) (row : List Val) (kn : List (Gx × Val)) : Nat → Gx → Ans
  | 0, e => evB M row kn e []
  | m + 1, e => evB M row kn e (e.xs.map (evN M row kn m))

/-! ### Values that are right, and within the reach -/
def RtV (v : Val) : Prop := inR v.n ∧ v.s.size ≤ 2147483648 ∧ 0 ≤ v.k ∧ v.k ≤ 4 ∧ v.right = true
theorem rt_null : RtV nullV := ⟨by decide, by decide, by decide, by decide, by decide⟩
theorem rt_truth (b : Bool) : RtV (truthV b) := by cases b <;> exact ⟨by decide, by decide, by decide, by decide, by decide⟩
theorem rt_num {n : Int} (h : inR n) : RtV (numV n) := ⟨h, by show (0 : Nat) ≤ _; omega, by show (0 : Int) ≤ 2; decide, by show (2 : Int) ≤ 4; decide, by simp [Val.right, numV]⟩
theorem rt_text {s : ByteArray} (h : s.size ≤ 2147483648) : RtV (textV s) := ⟨by show inR 0; decide, h, by show (0 : Int) ≤ 3; decide, by show (3 : Int) ≤ 4; decide, by simp [Val.right, textV]⟩
theorem RtV.null {v : Val} (h : RtV v) (h0 : v.k = 0) : v = nullV := by
  obtain ⟨k, n, s⟩ := v
  obtain ⟨_, _, _, _, hr⟩ := h
  simp only at h0
  subst h0
  simp only [Val.right] at hr
  simp at hr
  obtain ⟨rfl, hs⟩ := hr
  obtain ⟨⟨s⟩⟩ := s
  obtain rfl : s = [] := by simpa using hs
  rfl
theorem eqb_null {v : Val} (h : RtV v) : v.eqb nullV = (v.k == 0) := by
  cases hk : v.k == 0 with
  | true => rw [h.null (by simpa using hk)]; rfl
  | false => unfold Val.eqb eqv; rw [show nullV.k = 0 from rfl, hk]; rfl
theorem rt_over {n : Int} : RtV (over n).v := by
  unfold over
  split
  · rename_i h; exact rt_num h
  · exact rt_null
theorem tmod_inR {a b : Int} (hb : b ≠ 0) (h : inR a) : inR (a.tmod b) := by
  obtain ⟨h1, h2⟩ := h
  have := Int.natAbs_tmod a b
  have h3 : (a.tmod b).natAbs ≤ a.natAbs := by rw [this]; exact Nat.mod_le _ _
  rcases Int.le_total 0 a with h0 | h0
  · have := Int.tmod_nonneg b h0
    generalize a.tmod b = m at *
    constructor <;> omega
  · have h4 := Int.tmod_nonneg b (show 0 ≤ -a by omega)
    rw [Int.neg_tmod] at h4
    generalize a.tmod b = m at *
    constructor <;> omega
theorem rt_un {op : Int} {a : Val} (h : RtV a) : RtV (unV op a).v := by
  unfold unV
  repeat' split
  all_goals first | exact rt_null | exact rt_truth _ | exact rt_over
theorem rt_sum {op a b : Int} (ha : inR a) : RtV (sumV op a b).v := by
  unfold sumV
  repeat' split
  all_goals first | exact rt_null | exact rt_over | skip
  rename_i hb h5
  exact rt_num (tmod_inR hb ha)
theorem rt_join {s t : ByteArray} : RtV (joinV s t).v := by
  unfold joinV
  split
  · exact rt_null
  · rename_i h
    exact rt_text (by simp only [ByteArray.size_append]; omega)
theorem rt_bin {op : Int} {a b : Val} (ha : RtV a) (hb : RtV b) : RtV (binV op a b).v := by
  unfold binV
  repeat' split
  all_goals first | exact rt_null | exact rt_truth _ | exact rt_join | exact rt_sum ha.1 | skip
  · unfold andV
    repeat' split
    all_goals first | exact rt_null | exact rt_truth _
  · unfold orV
    repeat' split
    all_goals first | exact rt_null | exact rt_truth _
theorem exV_size (f o : Nat) (s : ByteArray) : (kExV f o s).size = s.size := by
  obtain ⟨⟨s⟩⟩ := s
  simp [kExV, ByteArray.size]
theorem partV_size (s : ByteArray) (p n : Int) : (partV s p n).size ≤ s.size := by
  unfold partV
  split
  · show (0 : Nat) ≤ _; omega
  · rw [ByteArray.size_extract]; omega
theorem rt_worth {f : Int} {xs : List Val} (h : ∀ v ∈ xs, RtV v) : RtV (worthV f xs).v := by
  unfold worthV
  repeat' split
  all_goals first | exact rt_null | skip
  · rename_i v _
    have := (h v (by simp)).2.1
    exact rt_num ⟨by omega, by omega⟩
  · rename_i v _ _
    unfold absV
    split
    · exact rt_over
    · exact rt_num (h v (by simp)).1
  · rename_i v _ _ _
    exact rt_text (by rw [exV_size]; exact (h v (by simp)).2.1)
  · rename_i v _ _ _
    exact rt_text (by rw [exV_size]; exact (h v (by simp)).2.1)
  · rename_i v a b
    exact rt_text (Nat.le_trans (partV_size _ _ _) (h v (by simp)).2.1)
theorem rt_getD {xs : List Val} (h : ∀ v ∈ xs, RtV v) (i : Nat) : RtV (xs.getD i nullV) := by
  rw [List.getD_eq_getElem?_getD]
  cases hx : xs[i]? with
  | none => exact rt_null
  | some v => exact h v (List.mem_of_getElem? hx)
theorem rt_call {f : Int} {xs : List Val} (h : ∀ v ∈ xs, RtV v) : RtV (callV f xs).v := by
  unfold callV
  repeat' split
  all_goals first | exact rt_null | exact rt_worth h | skip
  unfold coalV
  repeat' split
  · exact rt_getD h 1
  · exact rt_getD h 0
  · exact rt_null
theorem rt_ap {k op : Int} {vs : List Val} (h : ∀ v ∈ vs, RtV v) : RtV (apB k op vs).v := by
  unfold apB
  repeat' split
  · exact rt_un (rt_getD h 0)
  · exact rt_bin (rt_getD h 0) (rt_getD h 1)
  · exact rt_call h
  · exact rt_truth _
theorem rt_md {k op : Int} {rs : List Ans} (h : ∀ a ∈ rs, RtV a.v) : RtV (mdB k op rs).v := by
  unfold mdB
  repeat' split
  all_goals first | exact rt_null | skip
  · rename_i a r _ _
    exact h a (by simp)
  · refine rt_ap (fun v hv => ?_)
    obtain ⟨a, ha, rfl⟩ := List.mem_map.1 hv
    exact h a ha
/-- All values within are right, so many levels deep. -/
def RtB (e : Gx) : Prop := RtV e.v ∧ e.t.length ≤ 2147483648 ∧ e.n.length ≤ 2147483648
def RtN : Nat → Gx → Prop
  | 0, e => RtB e
  | m + 1, e => RtB e ∧ ∀ x ∈ e.xs, RtN m x
theorem RtN.base {m : Nat} {e : Gx} (h : RtN m e) : RtB e := by
  cases m with
  | zero => exact h
  | succ m => exact h.1
theorem rt_evB {M : Nat} {row : List Val} {kn : List (Gx × Val)} {e : Gx} {rs : List Ans} (hr : ∀ v ∈ row, RtV v) (hk : ∀ q ∈ kn, RtV q.2) (he : RtV e.v) (h : ∀ a ∈ rs, RtV a.v) : RtV (evB M row kn e rs).v := by
  unfold evB
  split
  · rename_i q hq
    exact hk q (List.mem_of_find?_eq_some hq)
  · repeat' split
    · exact rt_null
    · exact he
    · exact rt_getD hr _
    · exact rt_null
    · exact rt_null
    · exact rt_md h
theorem rt_evN {M : Nat} {row : List Val} {kn : List (Gx × Val)} (hr : ∀ v ∈ row, RtV v) (hk : ∀ q ∈ kn, RtV q.2) : ∀ m e, RtN m e → RtV (evN M row kn m e).v
  | 0, e, he => rt_evB hr hk he.1 (fun a ha => by cases ha)
  | m + 1, e, he => rt_evB hr hk he.1.1 (fun a ha => by
    obtain ⟨x, hx, rfl⟩ := List.mem_map.1 ha
    exact rt_evN hr hk m x (he.2 x hx))
/-- An error answers nothing besides. -/
theorem over_err (n : Int) : (over n).e ≠ 0 → (over n).v = nullV := by
  unfold over
  split
  · intro h; exact absurd rfl h
  · intro _; rfl
theorem un_err (op : Int) (a : Val) : (unV op a).e ≠ 0 → (unV op a).v = nullV := by
  unfold unV
  repeat' split
  all_goals first | exact over_err _ | (intro h; first | rfl | exact absurd rfl h)
theorem sum_err (op a b : Int) : (sumV op a b).e ≠ 0 → (sumV op a b).v = nullV := by
  unfold sumV
  repeat' split
  all_goals first | exact over_err _ | (intro h; first | rfl | exact absurd rfl h)
theorem bin_err (op : Int) (a b : Val) : (binV op a b).e ≠ 0 → (binV op a b).v = nullV := by
  unfold binV joinV
  repeat' split
  all_goals first | exact sum_err _ _ _ | (intro h; first | rfl | exact absurd rfl h)
theorem call_err (f : Int) (xs : List Val) : (callV f xs).e ≠ 0 → (callV f xs).v = nullV := by
  unfold callV coalV worthV absV
  repeat' split
  all_goals first | exact over_err _ | (intro h; first | rfl | exact absurd rfl h)
theorem ap_err (k op : Int) (vs : List Val) : (apB k op vs).e ≠ 0 → (apB k op vs).v = nullV := by
  unfold apB
  repeat' split
  · exact un_err _ _
  · exact bin_err _ _ _
  · exact call_err _ _
  · intro h; exact absurd rfl h
theorem md_err (k op : Int) (rs : List Ans) : (mdB k op rs).e ≠ 0 → (mdB k op rs).v = nullV := by
  unfold mdB
  repeat' split
  all_goals first | exact ap_err _ _ _ | (intro h; first | rfl | exact absurd rfl h)
theorem evB_err (M : Nat) (row : List Val) (kn : List (Gx × Val)) (e : Gx) (rs : List Ans) : (evB M row kn e rs).e ≠ 0 → (evB M row kn e rs).v = nullV := by
  unfold evB
  repeat' split
  all_goals first | exact md_err _ _ _ | (intro h; first | rfl | exact absurd rfl h)
theorem evN_err (M : Nat) (row : List Val) (kn : List (Gx × Val)) : ∀ m e, (evN M row kn m e).e ≠ 0 → (evN M row kn m e).v = nullV
  | 0, e => evB_err M row kn e _
  | m + 1, e => evB_err M row kn e _
/-- As many operands as its operator or function takes. -/
theorem fitN_len {e : Gx} (h : noneB e = false) : fitsB e.k e.op e.xs.length = true := by
  unfold noneB emptyB at h
  simp only [Bool.or_eq_false_iff, Bool.not_eq_false'] at h
  exact h.1.1
theorem fitN_two {k op : Int} {n : Nat} (h : fitsB k op n = true) (hk : k = 4) : n = 2 := by
  subst hk
  unfold fitsB at h
  simp at h
  exact h.2
theorem fitN_pos {k op : Int} {n : Nat} (h : fitsB k op n = true) (h1 : k ≠ 1) (h2 : k ≠ 2) (h6 : k ≠ 6) : 0 < n := by
  unfold fitsB at h
  rw [if_neg (by omega)] at h
  repeat' split at h
  all_goals try (simp only [Bool.and_eq_true, beq_iff_eq] at h; omega)
  · rename_i c hc
    have hm := List.mem_of_find?_eq_some hc
    have hp := List.find?_some hc
    simp only [Bool.and_eq_true, beq_iff_eq] at hp
    have : ∀ o ∈ cals, 0 < o.cnt ∧ (o.all = true → o.kind = 6) := by decide
    have h3 := this c hm
    simp only [Bool.or_eq_true, beq_iff_eq, Bool.and_eq_true] at h
    rcases h with h | h
    · omega
    · have := h3.2 h.1
      omega
  · cases h
  · cases h
end Go.Proofs.YtblkhlhhlalbkaaGreatDoor
namespace Go.Proofs.YtblkhlhhlalbkaaGreatDoor
open Go.Lib
set_option linter.unusedVariables false
set_option maxRecDepth 20000

def txA : List UInt8 := [98, 32, 60, 62, 32, 48, 32, 65, 78, 68, 32, 97, 32, 47, 32, 98, 32, 61, 32, 49]
def txAT : Ts := [(⟨1, [98], 0⟩, 0), (⟨5, [60, 62], 0⟩, 2), (⟨2, [], 0⟩, 5), (⟨1, [97, 110, 100], 0⟩, 7), (⟨1, [97], 0⟩, 11), (⟨5, [47], 0⟩, 13), (⟨1, [98], 0⟩, 15), (⟨5, [61], 0⟩, 17), (⟨2, [], 1⟩, 19)]
def txAE : Ex := mkE 4 4 [mkE 4 6 [colE [] [98], numE 0], mkE 4 5 [mkE 4 14 [colE [] [97], colE [] [98]], numE 1]]
def txB : List UInt8 := [49, 32, 47, 32, 48]
def txBT : Ts := [(⟨2, [], 1⟩, 0), (⟨5, [47], 0⟩, 2), (⟨2, [], 0⟩, 4)]
def txBE : Ex := mkE 4 14 [numE 1, numE 0]
def txC : List UInt8 := [115, 117, 109, 40, 97, 41, 32, 43, 32, 49]
def txCT : Ts := [(⟨1, [115, 117, 109], 0⟩, 0), (⟨5, [40], 0⟩, 3), (⟨1, [97], 0⟩, 4), (⟨5, [41], 0⟩, 5), (⟨5, [43], 0⟩, 7), (⟨2, [], 1⟩, 9)]
def txCE : Ex := mkE 4 11 [mkE 6 2 [colE [] [97]], numE 1]
def txD : List UInt8 := [115, 117, 109, 40, 97, 41]
def txDT : Ts := [(⟨1, [115, 117, 109], 0⟩, 0), (⟨5, [40], 0⟩, 3), (⟨1, [97], 0⟩, 4), (⟨5, [41], 0⟩, 5)]
def txDE : Ex := mkE 6 2 [colE [] [97]]
theorem toks_txA : toksOf txA = .ok txAT := by kernel_rfl
theorem toks_txB : toksOf txB = .ok txBT := by kernel_rfl
theorem toks_txC : toksOf txC = .ok txCT := by kernel_rfl
theorem toks_txD : toksOf txD = .ok txDT := by kernel_rfl
theorem read_txA : (lns 32).orr txAT = .ok (txAE, []) := by kernel_rfl
theorem read_txB : (lns 32).orr txBT = .ok (txBE, []) := by kernel_rfl
theorem read_txC : (lns 32).orr txCT = .ok (txCE, []) := by kernel_rfl
theorem read_txD : (lns 32).orr txDT = .ok (txDE, []) := by kernel_rfl

/-- An expression that was read, as one of any kind. -/
def upN : Nat → Ex → Gx
  | 0, e => ⟨e.k, e.op, e.v, e.t, e.n, 0, 0, []⟩
  | m + 1, e => ⟨e.k, e.op, e.v, e.t, e.n, 0, 0, e.xs.map (upN m)⟩
/-- No deeper than that, and no wider than the reach. -/
def DpE : Nat → Ex → Prop
  | 0, e => e.xs = []
  | m + 1, e => e.xs.length ≤ 1048576 ∧ ∀ x ∈ e.xs, DpE m x
/-- The same, but for the places of columns. -/
def Vr : Nat → Gx → Gx → Prop
  | 0, a, b => b.k = a.k ∧ b.op = a.op ∧ b.v = a.v ∧ b.t = a.t ∧ b.n = a.n ∧ b.xs = []
  | m + 1, a, b => (b.k = a.k ∧ b.op = a.op ∧ b.v = a.v ∧ b.t = a.t ∧ b.n = a.n) ∧ b.xs.length = a.xs.length ∧ ∀ i (h : i < a.xs.length) (h' : i < b.xs.length), Vr m a.xs[i] b.xs[i]
theorem vr_len {m : Nat} {a b : Gx} (h : Vr (m + 1) a b) : b.xs.length = a.xs.length := h.2.1
def rowA : List Val := [⟨2, 7, ⟨#[]⟩⟩, ⟨2, 0, ⟨#[]⟩⟩]
theorem ev_txB : evN 1 rowA [] 1 (upN 1 txBE) = ⟨nullV, 41⟩ := by kernel_rfl
theorem ev_txC : evN 2 rowA [(upN 1 txDE, ⟨2, 5, ⟨#[]⟩⟩)] 2 (upN 2 txCE) = ⟨⟨2, 6, ⟨#[]⟩⟩, 0⟩ := by kernel_rfl
theorem dp_txA : DpE 3 txAE := by simp [DpE, txAE, mkE, colE, numE, litE]
theorem dp_txB : DpE 1 txBE := by simp [DpE, txBE, mkE, numE, litE]
theorem dp_txC : DpE 2 txCE := by simp [DpE, txCE, mkE, colE, numE, litE]
theorem dp_txD : DpE 1 txDE := by simp [DpE, txDE, mkE, colE]
end Go.Proofs.YtblkhlhhlalbkaaGreatDoor
