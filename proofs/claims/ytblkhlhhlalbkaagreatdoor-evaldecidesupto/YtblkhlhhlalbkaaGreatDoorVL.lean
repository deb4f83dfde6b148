/- What value.Literal answers: the value as it stands in a statement. Conditions: its text is shorter than 2 to the 31st bytes; the library's table of powers of ten lies in memory as its text lays it. Plain mathematics of expressions: how an expression is written. No program is named here. No conditions. Plain mathematics of expressions: what three digits with an operator between are read as, and how they are written; the law's own two texts. No program is named here. No conditions. -/
import Derived.Test.YtblkhlhhlalbkaaGreatDoorVC
import Derived.Test.YtblkhlhhlalbkaaGreatDoorVB
import Derived.Test.YtblkhlhhlalbkaaGreatDoorLitPlain
import Derived.Lib.SmallJoins
import Derived.Test.YtblkhlhhlalbkaaGreatDoorEA
import Derived.KernelRfl
namespace Go.Proofs.YtblkhlhhlalbkaaGreatDoor
open Go.RowKit Go.Lib Go.Sort
set_option linter.unusedVariables false
set_option maxRecDepth 20000

/-- What is written. -/
def litV (a : Val) : List UInt8 :=
  if checkV a ≠ 0 then [] else if a.k = 1 then (if a.n = 0 then [70, 65, 76, 83, 69] else [84, 82, 85, 69]) else if a.k = 2 then itoa a.n else
  if a.k = 3 then 39 :: (rep a.s.data.toList ++ [39]) else if a.k = 4 then 88 :: 39 :: (hexL a.s.data.toList ++ [39]) else [78, 85, 76, 76]

theorem truth_any (n : Int) (w : World) :
    Calls Tryz.prog 151 #[.int .i64 n] w fun e w' => e = .returned (.string ⟨(if n = 0 then [70, 65, 76, 83, 69] else [84, 82, 85, 69] : List UInt8).toArray⟩) ∧ w' = w := by
  by_cases h : n = 0
  · subst h
    go_enter Tryz.func151, Tryz.ntmps151
    go_wp2
    go_ret
    exact ⟨rfl, rfl⟩
  · have e : (n == 0) = false := beq_eq_false_iff_ne.2 h
    rw [if_neg h]
    clear h
    go_enter Tryz.func151, Tryz.ntmps151
    go_wp2
    go_ret
    exact ⟨rfl, rfl⟩

/-- What the library reads of its own variables. -/
structure Ready (w : World) : Prop where
  maxLen : ∃ m, w.cell? ⟨3, 0, none⟩ = some (.int .i64 m)
  pow : Lib.TabIs Tryz.prog w "internal/strconv.uint64pow10" .u64 Lib.pow10Tab

theorem gPow : Tryz.prog.globalNamed "internal/strconv.uint64pow10" = some 6 := by kernel_rfl

theorem Ready.below {w w' : World} (h : Ready w) (hb : Below w.heap.size w w') : Ready w' := by
  obtain ⟨⟨m, hm⟩, hp⟩ := h
  exact ⟨⟨m, below_cell hb hm⟩, Joins.tab_stays gPow hp hb (Nat.le_refl _)⟩

theorem ret_str {a : ByteArray} {l : List UInt8} (h : a.data.toList = l) : Ending.returned (.string a) = .returned (.string ⟨l.toArray⟩) := by
  obtain ⟨⟨x⟩⟩ := a
  simp only [] at h
  rw [h]

theorem box_cells (w w1 : World) (k n : Int) (s : ByteArray) (hb : Below (w.alloc (.cells #[.int .i64 k, .int .i64 n, .string s] 23)).heap.size (w.alloc (.cells #[.int .i64 k, .int .i64 n, .string s] 23)) w1) :
    w1.cell? ⟨w.heap.size, 0, none⟩ = some (.int .i64 k) ∧ w1.cell? ⟨w.heap.size, 1, none⟩ = some (.int .i64 n) ∧ w1.cell? ⟨w.heap.size, 2, none⟩ = some (.string s) ∧ Below w.heap.size w w1 :=
  ⟨below_cell hb (by go_simp), below_cell hb (by go_simp), below_cell hb (by go_simp), (show Below w.heap.size w (w.alloc _) by go_grown).trans (hb.mono (by simp))⟩

set_option maxHeartbeats 400000 in
theorem literal_bad (a : Val) (w : World) (hc : checkV a ≠ 0) :
    Calls Tryz.prog 97 #[a.v] w fun e w' => e = .returned (.string ⟨(litV a).toArray⟩) ∧ Below w.heap.size w w' := by
  have H2 : Hid (litV a = []) := if_pos hc
  have hch := fun w => check_any a w
  have hc' : (checkV a != 0) = true := bne_iff_ne.2 hc
  obtain ⟨k, n, s⟩ := a
  generalize checkV ⟨k, n, s⟩ = c at *
  rw [H2.out]
  unfold Val.v at *
  have HC : Hid (∀ w, Calls Tryz.prog 150 #[.agg #[.int .i64 k, .int .i64 n, .string s]] w fun e w' => e = .returned (.int .i64 c) ∧ Below w.heap.size w w') := hch
  clear hch hc H2
  go_enter Tryz.func97, Tryz.ntmps97
  go_wp2_with (go_at_call 150; refine (HC.out _).mono ?_; rintro e w1 ⟨rfl, hb1⟩)
  go_ret
  exact ⟨rfl, (box_cells w w1 k n s hb1).2.2.2⟩

/-- Behind the check of a right value. -/
def Checks (k n : Int) (s : ByteArray) : Prop := ∀ w, Calls Tryz.prog 150 #[.agg #[.int .i64 k, .int .i64 n, .string s]] w fun e w' => e = .returned (.int .i64 0) ∧ Below w.heap.size w w'

set_option maxHeartbeats 400000 in
theorem literal_null (n : Int) (s : ByteArray) (w : World) (HC : Checks 0 n s) :
    Calls Tryz.prog 97 #[.agg #[.int .i64 0, .int .i64 n, .string s]] w fun e w' => e = .returned (.string ⟨([78, 85, 76, 76] : List UInt8).toArray⟩) ∧ Below w.heap.size w w' := by
  go_enter Tryz.func97, Tryz.ntmps97
  go_wp2_with (go_at_call 150; refine (HC _).mono ?_; rintro e w1 ⟨rfl, hb1⟩; obtain ⟨x0, x1, x2, B1⟩ := box_cells w w1 0 n s hb1; clear hb1)
  go_ret
  exact ⟨rfl, B1⟩

set_option maxHeartbeats 400000 in
theorem literal_bool (n : Int) (s : ByteArray) (w : World) (HC : Checks 1 n s) :
    Calls Tryz.prog 97 #[.agg #[.int .i64 1, .int .i64 n, .string s]] w fun e w' => e = .returned (.string ⟨(if n = 0 then [70, 65, 76, 83, 69] else [84, 82, 85, 69] : List UInt8).toArray⟩) ∧ Below w.heap.size w w' := by
  have HT := fun w => truth_any n w
  generalize (⟨(if n = 0 then [70, 65, 76, 83, 69] else [84, 82, 85, 69] : List UInt8).toArray⟩ : ByteArray) = r at *
  have H3 : Hid (∀ w, Calls Tryz.prog 151 #[.int .i64 n] w fun e w' => e = .returned (.string r) ∧ w' = w) := HT
  clear HT
  go_enter Tryz.func97, Tryz.ntmps97
  go_wp2_with (first
    | (go_at_call 150; refine (HC _).mono ?_; rintro e w1 ⟨rfl, hb1⟩; obtain ⟨x0, x1, x2, B1⟩ := box_cells w w1 1 n s hb1; clear hb1)
    | (go_at_call 151; refine (H3.out _).mono ?_; rintro e w2 ⟨rfl, rfl⟩))
  go_ret
  exact ⟨rfl, B1⟩

set_option maxHeartbeats 400000 in
theorem literal_int (n : Int) (s : ByteArray) (w : World) (hw : Ready w) (hn0 : -9223372036854775808 ≤ n) (hn1 : n ≤ 9223372036854775807) (HC : Checks 2 n s) :
    Calls Tryz.prog 97 #[.agg #[.int .i64 2, .int .i64 n, .string s]] w fun e w' => e = .returned (.string ⟨(itoa n).toArray⟩) ∧ Below w.heap.size w w' := by
  have HT := fun w hw => Tryz.strconv_FormatInt_10 n hn0 hn1 w hw
  generalize (⟨(itoa n).toArray⟩ : ByteArray) = r at *
  have H3 : Hid (∀ w, Lib.TabIs Tryz.prog w "internal/strconv.uint64pow10" .u64 Lib.pow10Tab → Calls Tryz.prog 152 #[.int .i64 n, .int .i64 10] w fun e w' => e = .returned (.string r) ∧ ∃ k os, w' = grow (w.drewN k) os) := HT
  have HW : Hid (Ready w) := hw
  clear HT hw hn0 hn1
  go_enter Tryz.func97, Tryz.ntmps97
  go_wp2_with (first
    | (go_at_call 150; refine (HC _).mono ?_; rintro e w1 ⟨rfl, hb1⟩; obtain ⟨x0, x1, x2, B1⟩ := box_cells w w1 2 n s hb1; clear hb1)
    | (go_at_call 152; refine (H3.out _ (HW.out.below B1).pow).mono ?_; rintro e w2 ⟨rfl, kq, osq, hw2⟩
       have B2 : Below w1.heap.size w1 w2 := by rw [hw2]; exact below_regrown w1 (w1.drewN kq).drawn osq
       clear hw2))
  go_ret
  exact ⟨rfl, B1.trans (B2.mono B1.size)⟩

set_option maxHeartbeats 400000 in
theorem literal_text (n : Int) (s : ByteArray) (w : World) (hw : Ready w) (hs : s.size ≤ 2147483648) (HC : Checks 3 n s) :
    Calls Tryz.prog 97 #[.agg #[.int .i64 3, .int .i64 n, .string s]] w fun e w' => e = .returned (.string ⟨(39 :: (rep s.data.toList ++ [39])).toArray⟩) ∧ Below w.heap.size w w' := by
  have hcb := countB_le ⟨#[39]⟩ (by decide) s.size s (Nat.le_refl _)
  have HT : ∀ w m, w.cell? ⟨3, 0, none⟩ = some (.int .i64 m) → Calls Tryz.prog 153 #[.string s, .string ⟨#[39]⟩, .string ⟨#[39, 39]⟩] w fun e w' => e = .returned (.string ⟨(rep s.data.toList).toArray⟩) ∧ Below w.heap.size w w' := fun w m hm => by
    have := Tryz.strings_ReplaceAll s ⟨#[39]⟩ ⟨#[39, 39]⟩ m w (by omega) hm (by decide) (by
      have e2 : (⟨#[39, 39]⟩ : ByteArray).size = 2 := rfl
      rw [e2]; omega)
    rw [show ((⟨#[39]⟩ : ByteArray).data.toList) = [39] from rfl, show ((⟨#[39, 39]⟩ : ByteArray).data.toList) = [39, 39] from rfl, replaceAll_rep] at this
    exact this
  have hrl := (rep_length_le s.data.toList).2
  have hsl : s.data.toList.length = s.size := by simp
  have e4 : ∀ l : List UInt8, (39 :: (l ++ [39])).toArray = (⟨#[39]⟩ ++ ⟨l.toArray⟩ ++ ⟨#[39]⟩ : ByteArray).data := by
    intro l; simp
  rw [e4]
  have hrs : (⟨(rep s.data.toList).toArray⟩ : ByteArray).size ≤ 4294967296 := by simp [ByteArray.size]; omega
  generalize (⟨(rep s.data.toList).toArray⟩ : ByteArray) = r at *
  have H3 : Hid (∀ w m, w.cell? ⟨3, 0, none⟩ = some (.int .i64 m) → Calls Tryz.prog 153 #[.string s, .string ⟨#[39]⟩, .string ⟨#[39, 39]⟩] w fun e w' => e = .returned (.string r) ∧ Below w.heap.size w w') := HT
  have HW : Hid (Ready w) := hw
  clear HT hw hcb hrl hsl e4
  go_enter Tryz.func97, Tryz.ntmps97
  go_wp2_with (first
    | (go_at_call 150; refine (HC _).mono ?_; rintro e w1 ⟨rfl, hb1⟩; obtain ⟨x0, x1, x2, B1⟩ := box_cells w w1 3 n s hb1; clear hb1)
    | (go_at_call 153; obtain ⟨m, hm⟩ := (HW.out.below B1).maxLen; refine (H3.out _ m hm).mono ?_; rintro e w2 ⟨rfl, B2⟩; clear hm))
  go_ret
  exact ⟨rfl, B1.trans (B2.mono B1.size)⟩

set_option maxHeartbeats 400000 in
theorem literal_blob (n : Int) (s : ByteArray) (w : World) (hs : s.size ≤ 2147483648) (HC : Checks 4 n s) :
    Calls Tryz.prog 97 #[.agg #[.int .i64 4, .int .i64 n, .string s]] w fun e w' => e = .returned (.string ⟨(88 :: 39 :: (hexL s.data.toList ++ [39])).toArray⟩) ∧ Below w.heap.size w w' := by
  have HT := fun w => hex_any s w (by omega)
  have hrl := hexL_length s.data.toList
  have hsl : s.data.toList.length = s.size := by simp
  have e4 : ∀ l : List UInt8, (88 :: 39 :: (l ++ [39])).toArray = (⟨#[88, 39]⟩ ++ ⟨l.toArray⟩ ++ ⟨#[39]⟩ : ByteArray).data := by
    intro l; simp
  rw [e4]
  have hrs : (⟨(hexL s.data.toList).toArray⟩ : ByteArray).size ≤ 4294967296 := by simp [ByteArray.size]; omega
  generalize (⟨(hexL s.data.toList).toArray⟩ : ByteArray) = r at *
  have H3 : Hid (∀ w, Calls Tryz.prog 154 #[.string s] w fun e w' => e = .returned (.string r) ∧ Below w.heap.size w w') := HT
  clear HT hrl hsl e4
  go_enter Tryz.func97, Tryz.ntmps97
  go_wp2_with (first
    | (go_at_call 150; refine (HC _).mono ?_; rintro e w1 ⟨rfl, hb1⟩; obtain ⟨x0, x1, x2, B1⟩ := box_cells w w1 4 n s hb1; clear hb1)
    | (go_at_call 154; refine (H3.out _).mono ?_; rintro e w2 ⟨rfl, B2⟩))
  go_ret
  exact ⟨rfl, B1.trans (B2.mono B1.size)⟩

theorem checkV_zero {a : Val} (h : checkV a = 0) : ¬ (a.k < 0 ∨ 4 < a.k) ∧ a.right = true := by
  unfold checkV at h
  split at h
  · omega
  · split at h
    · exact ⟨by assumption, by assumption⟩
    · omega

theorem literal_any (a : Val) (w : World) (hw : Ready w) (hs : a.s.size ≤ 2147483648) (hn0 : -9223372036854775808 ≤ a.n) (hn1 : a.n ≤ 9223372036854775807) :
    Calls Tryz.prog 97 #[a.v] w fun e w' => e = .returned (.string ⟨(litV a).toArray⟩) ∧ Below w.heap.size w w' := by
  by_cases hc : checkV a = 0
  · have hk := (checkV_zero hc).1
    have hch : ∀ w, Calls Tryz.prog 150 #[a.v] w fun e w' => e = .returned (.int .i64 0) ∧ Below w.heap.size w w' := fun w => by have := check_any a w; rw [hc] at this; exact this
    have hl : litV a = if a.k = 1 then (if a.n = 0 then [70, 65, 76, 83, 69] else [84, 82, 85, 69]) else if a.k = 2 then itoa a.n else if a.k = 3 then 39 :: (rep a.s.data.toList ++ [39]) else if a.k = 4 then 88 :: 39 :: (hexL a.s.data.toList ++ [39]) else [78, 85, 76, 76] := if_neg (by omega)
    rw [hl]
    clear hl hc
    obtain ⟨k, n, s⟩ := a
    simp only [] at hk hs hn0 hn1
    have hk5 : k = 0 ∨ k = 1 ∨ k = 2 ∨ k = 3 ∨ k = 4 := by omega
    rcases hk5 with rfl | rfl | rfl | rfl | rfl
    · exact literal_null n s w hch
    · exact literal_bool n s w hch
    · exact literal_int n s w hw hn0 hn1 hch
    · exact literal_text n s w hw hs hch
    · exact literal_blob n s w hs hch
  · exact literal_bad a w hc
end Go.Proofs.YtblkhlhhlalbkaaGreatDoor
namespace Go.Proofs.YtblkhlhhlalbkaaGreatDoor
open Go.Lib
set_option linter.unusedVariables false

/-- The operator of an expression. -/
def opOf (k op : Int) : Option Opr := oprs.find? fun o => o.kind == k && o.op == op
/-- The call of an expression. -/
def calOf (k op : Int) : Option Cal := cals.find? fun o => o.kind == k && o.op == op
/-- Is it an expression that the grammar has? -/
def fitsB (k op : Int) (n : Nat) : Bool :=
  if k = 1 ∨ k = 2 then op == 0 && n == 0
  else if k = 3 then (opOf k op).isSome && n == 1
  else if k = 4 then (opOf k op).isSome && n == 2
  else if k = 7 then (op == 0 || op == 1) && n == 1
  else if k = 5 ∨ k = 6 then match calOf k op with
    | some c => n == c.cnt || (c.all && n == 0)
    | none => false
  else false
/-- Its line of the grammar. -/
def lineB (k op : Int) (n : Nat) : Int :=
  if fitsB k op n = false then 9 else match opOf k op with
    | some o => o.line
    | none => if k = 7 then 4 else 9
def Ex.line (e : Ex) : Int := lineB e.k e.op e.xs.length
/-- An operand, in brackets if it needs them. -/
def wrapB (least : Int) (x : Int × List UInt8) : List UInt8 := if least ≤ x.1 then x.2 else 40 :: (x.2 ++ [41])
/-- With a comma and a blank between each two. -/
def joinC : List (Int × List UInt8) → List UInt8
  | [] => []
  | x :: r => x.2 ++ joinT r
where joinT : List (Int × List UInt8) → List UInt8
  | [] => []
  | x :: r => 44 :: 32 :: (x.2 ++ joinT r)
def nullB (op : Int) : List UInt8 := if op = 1 then [32, 73, 83, 32, 78, 79, 84, 32, 78, 85, 76, 76] else [32, 73, 83, 32, 78, 85, 76, 76]
def colB (t n : List UInt8) : List UInt8 := if t = [] then n else t ++ 46 :: n
/-- An expression, as it is written, by the lines and the texts of its operands. -/
def prB (k op : Int) (v : Val) (t n : List UInt8) (xs : List (Int × List UInt8)) : List UInt8 :=
  if fitsB k op xs.length = false then []
  else if k = 1 then litV v
  else if k = 2 then colB t n
  else if k = 3 then match opOf k op, xs with
    | some o, x :: _ => toUpperA o.txt ++ 32 :: wrapB o.line x
    | _, _ => []
  else if k = 4 then match opOf k op, xs with
    | some o, x :: y :: _ => wrapB (if o.line = 4 then 5 else o.line) x ++ 32 :: (toUpperA o.txt ++ 32 :: wrapB (o.line + 1) y)
    | _, _ => []
  else if k = 7 then match xs with
    | x :: _ => wrapB 5 x ++ nullB op
    | [] => []
  else match calOf k op with
    | some c => toUpperA c.name ++ 40 :: ((if xs.isEmpty then [42] else joinC xs) ++ [41])
    | none => []
def prE : Ex → List UInt8
  | ⟨k, op, v, t, n, xs⟩ => prB k op v t n (prL xs)
  where
  prL : List Ex → List (Int × List UInt8)
    | [] => []
    | x :: r => (x.line, prE x) :: prL r
theorem prL_map : ∀ xs : List Ex, prE.prL xs = xs.map fun x => (x.line, prE x)
  | [] => by simp [prE.prL]
  | x :: r => by simp [prE.prL, prL_map r]
theorem prE_eq (e : Ex) : prE e = prB e.k e.op e.v e.t e.n (e.xs.map fun x => (x.line, prE x)) := by
  obtain ⟨k, op, v, t, n, xs⟩ := e
  rw [prE, prL_map]
end Go.Proofs.YtblkhlhhlalbkaaGreatDoor
namespace Go.Proofs.YtblkhlhhlalbkaaGreatDoor
open Go.Lib
set_option linter.unusedVariables false
set_option maxRecDepth 20000

/-! ### The law's own texts -/
def exA : List UInt8 := [40, 49, 32, 45, 32, 40, 50, 32, 45, 32, 51, 41, 41, 32, 61, 32, 52, 32, 120]
def exB : List UInt8 := [108, 101, 110, 103, 116, 104, 40, 97, 44, 32, 98, 41]
def exAT : Ts := [(⟨5, [40], 0⟩, 0), (⟨2, [], 1⟩, 1), (⟨5, [45], 0⟩, 3), (⟨5, [40], 0⟩, 5), (⟨2, [], 2⟩, 6), (⟨5, [45], 0⟩, 8), (⟨2, [], 3⟩, 10), (⟨5, [41], 0⟩, 11), (⟨5, [41], 0⟩, 12), (⟨5, [61], 0⟩, 14), (⟨2, [], 4⟩, 16), (⟨1, [120], 0⟩, 18)]
def exBT : Ts := [(⟨1, [108, 101, 110, 103, 116, 104], 0⟩, 0), (⟨5, [40], 0⟩, 6), (⟨1, [97], 0⟩, 7), (⟨5, [44], 0⟩, 8), (⟨1, [98], 0⟩, 10), (⟨5, [41], 0⟩, 11)]
theorem toks_exA : toksOf exA = .ok exAT := by kernel_rfl
theorem toks_exB : toksOf exB = .ok exBT := by kernel_rfl
def numE (n : Int) : Ex := litE ⟨2, n, ⟨#[]⟩⟩
def exE : Ex := mkE 4 5 [mkE 4 12 [numE 1, mkE 4 12 [numE 2, numE 3]], numE 4]
theorem read_exA : (lns 32).orr exAT = .ok (exE, [(⟨1, [120], 0⟩, 18)]) := by kernel_rfl
theorem read_exB : (lns 32).orr exBT = .error ([(⟨5, [44], 0⟩, 8), (⟨1, [98], 0⟩, 10), (⟨5, [41], 0⟩, 11)], 20) := by kernel_rfl
theorem print_exA : prE exE = [49, 32, 45, 32, 40, 50, 32, 45, 32, 51, 41, 32, 61, 32, 52] := by kernel_rfl

/-! ### Three digits -/
/-- The operators, as they are written in the law. -/
def sgn8 : List (List UInt8) := [[43], [45], [42], [47], [37], [124, 124], [97, 110, 100], [111, 114]]
structure Sg where
  txt : List UInt8
  tk : Tk
  op : Int
def sgs : List Sg := [⟨[43], ⟨5, [43], 0⟩, 11⟩, ⟨[45], ⟨5, [45], 0⟩, 12⟩, ⟨[42], ⟨5, [42], 0⟩, 13⟩, ⟨[47], ⟨5, [47], 0⟩, 14⟩, ⟨[37], ⟨5, [37], 0⟩, 15⟩, ⟨[124, 124], ⟨5, [124, 124], 0⟩, 16⟩, ⟨[97, 110, 100], ⟨1, [97, 110, 100], 0⟩, 4⟩, ⟨[111, 114], ⟨1, [111, 114], 0⟩, 3⟩]
theorem sgs_txt : sgs.map (·.txt) = sgn8 := rfl
/-- The three texts. -/
def tL (x y z : UInt8) (s : List UInt8) : List UInt8 := x :: 32 :: (s ++ 32 :: y :: 32 :: (s ++ [32, z]))
def tM (x y z : UInt8) (s : List UInt8) : List UInt8 := 40 :: x :: 32 :: (s ++ 32 :: y :: 41 :: 32 :: (s ++ [32, z]))
def tR (x y z : UInt8) (s : List UInt8) : List UInt8 := x :: 32 :: (s ++ 32 :: 40 :: y :: 32 :: (s ++ [32, z, 41]))
/-- A digit. -/
def Dg (c : UInt8) : Prop := 48 ≤ c.toNat ∧ c.toNat ≤ 57
def vD (c : UInt8) : Int := ((c.toNat - 48 : Nat) : Int)
theorem dg_dig {c : UInt8} (h : Dg c) : dig (bi c) = true := by
  obtain ⟨h0, h1⟩ := h
  unfold dig bi
  simp
  omega
theorem dg_q {c : UInt8} (h : Dg c) : (bi c == 39) = false := by
  obtain ⟨h0, h1⟩ := h
  unfold bi
  rw [beq_eq_false_iff_ne]
  omega
theorem dg_b {c : UInt8} (h : Dg c) : blk (bi c) = false := by
  obtain ⟨h0, h1⟩ := h
  unfold blk bi
  simp only [Bool.or_eq_false_iff, beq_eq_false_iff_ne]
  omega
theorem dg_r {c : UInt8} (h : Dg c) (r : List UInt8) : isR (c :: r) = false := by
  obtain ⟨h0, h1⟩ := h
  cases r with
  | nil => rfl
  | cons d r =>
    have : (bi c == 45) = false := by unfold bi; rw [beq_eq_false_iff_ne]; omega
    show (bi c == 45 && bi d == 45) = false
    rw [this]
    rfl
/-- A digit, and no word's letter behind. -/
theorem first_dg {c : UInt8} (h : Dg c) (r : List UInt8) (hr : ∀ d s, r = d :: s → isD d = false) : first1 (c :: r) = some (⟨2, [], vD c⟩, 1) := by
  have hw : cntW isD (c :: r) = 1 := by
    unfold cntW
    rw [if_pos (show isD c = true from dg_dig h)]
    cases r with
    | nil => rfl
    | cons d s => unfold cntW; rw [if_neg (by rw [hr d s rfl]; simp)]
  unfold first1
  simp only [dg_q h, dg_dig h, hw, Bool.false_eq_true, if_false, if_true]
  have hv : numD (List.take 1 (c :: r)) = some (vD c) := by
    have hc := h.2
    show numD [c] = _
    have h1 : valD 0 [c] = c.toNat - 48 := by
      show 10 * 0 + (c.toNat - 48) = c.toNat - 48
      omega
    unfold numD vD
    rw [h1, if_pos (by omega)]
  rw [hv]
  rfl
theorem toks_dg {f : Nat} {c : UInt8} (h : Dg c) (r : List UInt8) (hr : ∀ d s, r = d :: s → isD d = false) (i : Nat) : toks (f + 1) (c :: r) i = (toks f r (i + 1)).map ((⟨2, [], vD c⟩, i) :: ·) := by
  rw [toks, dg_b h, if_neg (by simp), dg_r h, if_neg (by simp), first_dg h r hr]
  rfl
theorem toks_sp (f : Nat) (r : List UInt8) (i : Nat) : toks (f + 1) (32 :: r) i = toks f r (i + 1) := rfl
theorem toks_op (f : Nat) (r : List UInt8) (i : Nat) : toks (f + 1) (40 :: r) i = (toks f r (i + 1)).map ((⟨5, [40], 0⟩, i) :: ·) := by
  cases r <;> rfl
theorem toks_cl (f : Nat) (r : List UInt8) (i : Nat) : toks (f + 1) (41 :: r) i = (toks f r (i + 1)).map ((⟨5, [41], 0⟩, i) :: ·) := by
  cases r <;> rfl
theorem toks_nil (f i : Nat) : toks f [] i = .ok [] := by cases f <;> rfl
theorem toks_sg {g : Sg} (hg : g ∈ sgs) (f : Nat) (r : List UInt8) (i : Nat) : toks (f + 1) (g.txt ++ 32 :: r) i = (toks f (32 :: r) (i + g.txt.length)).map ((g.tk, i) :: ·) := by
  simp only [sgs, List.mem_cons, List.not_mem_nil, or_false] at hg
  rcases hg with rfl | rfl | rfl | rfl | rfl | rfl | rfl | rfl <;> rfl
theorem isD_sp : isD 32 = false := rfl
theorem isD_41 : isD 41 = false := rfl
theorem sgs_len {g : Sg} (hg : g ∈ sgs) : g.txt.length ≤ 3 := by
  simp only [sgs, List.mem_cons, List.not_mem_nil, or_false] at hg
  rcases hg with rfl | rfl | rfl | rfl | rfl | rfl | rfl | rfl <;> decide
theorem toks_tL {x y z : UInt8} (hx : Dg x) (hy : Dg y) (hz : Dg z) {g : Sg} (hg : g ∈ sgs) : ∃ a b c d, toksOf (tL x y z g.txt) = .ok [(⟨2, [], vD x⟩, 0), (g.tk, a), (⟨2, [], vD y⟩, b), (g.tk, c), (⟨2, [], vD z⟩, d)] := by
  refine ⟨0 + 1 + 1, 0 + 1 + 1 + g.txt.length + 1, 0 + 1 + 1 + g.txt.length + 1 + 1 + 1, 0 + 1 + 1 + g.txt.length + 1 + 1 + 1 + g.txt.length + 1, ?_⟩
  unfold toksOf
  rw [toks_fuel _ 100 _ _ (by omega) (by have := sgs_len hg; simp [tL]; omega)]
  unfold tL
  rw [toks_dg hx _ (by rintro d s ⟨⟩; rfl), toks_sp, toks_sg hg, toks_sp, toks_dg hy _ (by rintro d s ⟨⟩; rfl), toks_sp, toks_sg hg, toks_sp, toks_dg hz _ (by rintro d s ⟨⟩), toks_nil]
  rfl
theorem toks_tM {x y z : UInt8} (hx : Dg x) (hy : Dg y) (hz : Dg z) {g : Sg} (hg : g ∈ sgs) : ∃ a b c d e f, toksOf (tM x y z g.txt) = .ok [(⟨5, [40], 0⟩, 0), (⟨2, [], vD x⟩, a), (g.tk, b), (⟨2, [], vD y⟩, c), (⟨5, [41], 0⟩, d), (g.tk, e), (⟨2, [], vD z⟩, f)] := by
  refine ⟨0 + 1, 0 + 1 + 1 + 1, 0 + 1 + 1 + 1 + g.txt.length + 1, 0 + 1 + 1 + 1 + g.txt.length + 1 + 1, 0 + 1 + 1 + 1 + g.txt.length + 1 + 1 + 1 + 1, 0 + 1 + 1 + 1 + g.txt.length + 1 + 1 + 1 + 1 + g.txt.length + 1, ?_⟩
  unfold toksOf
  rw [toks_fuel _ 100 _ _ (by omega) (by have := sgs_len hg; simp [tM]; omega)]
  unfold tM
  rw [toks_op, toks_dg hx _ (by rintro d s ⟨⟩; rfl), toks_sp, toks_sg hg, toks_sp, toks_dg hy _ (by rintro d s ⟨⟩; rfl), toks_cl, toks_sp, toks_sg hg, toks_sp, toks_dg hz _ (by rintro d s ⟨⟩), toks_nil]
  rfl
theorem toks_tR {x y z : UInt8} (hx : Dg x) (hy : Dg y) (hz : Dg z) {g : Sg} (hg : g ∈ sgs) : ∃ a b c d e f, toksOf (tR x y z g.txt) = .ok [(⟨2, [], vD x⟩, 0), (g.tk, a), (⟨5, [40], 0⟩, b), (⟨2, [], vD y⟩, c), (g.tk, d), (⟨2, [], vD z⟩, e), (⟨5, [41], 0⟩, f)] := by
  refine ⟨0 + 1 + 1, 0 + 1 + 1 + g.txt.length + 1, 0 + 1 + 1 + g.txt.length + 1 + 1, 0 + 1 + 1 + g.txt.length + 1 + 1 + 1 + 1, 0 + 1 + 1 + g.txt.length + 1 + 1 + 1 + 1 + g.txt.length + 1, 0 + 1 + 1 + g.txt.length + 1 + 1 + 1 + 1 + g.txt.length + 1 + 1, ?_⟩
  unfold toksOf
  rw [toks_fuel _ 100 _ _ (by omega) (by have := sgs_len hg; simp [tR]; omega)]
  unfold tR
  rw [toks_dg hx _ (by rintro d s ⟨⟩; rfl), toks_sp, toks_sg hg, toks_sp, toks_op, toks_dg hy _ (by rintro d s ⟨⟩; rfl), toks_sp, toks_sg hg, toks_sp, toks_dg hz _ (by rintro d s ⟨⟩; rfl), toks_cl, toks_nil]
  rfl
def exL (op a b c : Int) : Ex := mkE 4 op [mkE 4 op [numE a, numE b], numE c]
def exR (op a b c : Int) : Ex := mkE 4 op [numE a, mkE 4 op [numE b, numE c]]
theorem read_tL {g : Sg} (hg : g ∈ sgs) (x y z : Int) (a b c d : Nat) : (lns 32).orr [(⟨2, [], x⟩, 0), (g.tk, a), (⟨2, [], y⟩, b), (g.tk, c), (⟨2, [], z⟩, d)] = .ok (exL g.op x y z, []) := by
  simp only [sgs, List.mem_cons, List.not_mem_nil, or_false] at hg
  rcases hg with rfl | rfl | rfl | rfl | rfl | rfl | rfl | rfl <;> kernel_rfl
theorem read_tM {g : Sg} (hg : g ∈ sgs) (x y z : Int) (a b c d e f : Nat) : (lns 32).orr [(⟨5, [40], 0⟩, 0), (⟨2, [], x⟩, a), (g.tk, b), (⟨2, [], y⟩, c), (⟨5, [41], 0⟩, d), (g.tk, e), (⟨2, [], z⟩, f)] = .ok (exL g.op x y z, []) := by
  simp only [sgs, List.mem_cons, List.not_mem_nil, or_false] at hg
  rcases hg with rfl | rfl | rfl | rfl | rfl | rfl | rfl | rfl <;> kernel_rfl
theorem read_tR {g : Sg} (hg : g ∈ sgs) (x y z : Int) (a b c d e f : Nat) : (lns 32).orr [(⟨2, [], x⟩, 0), (g.tk, a), (⟨5, [40], 0⟩, b), (⟨2, [], y⟩, c), (g.tk, d), (⟨2, [], z⟩, e), (⟨5, [41], 0⟩, f)] = .ok (exR g.op x y z, []) := by
  simp only [sgs, List.mem_cons, List.not_mem_nil, or_false] at hg
  rcases hg with rfl | rfl | rfl | rfl | rfl | rfl | rfl | rfl <;> kernel_rfl
theorem litV_num (n : Int) : litV ⟨2, n, ⟨#[]⟩⟩ = itoa n := rfl
theorem prE_num (n : Int) : prE (numE n) = itoa n := rfl
theorem prE_L {g : Sg} (hg : g ∈ sgs) (x y z : Int) : (prE (exR g.op x y z)).length = (prE (exL g.op x y z)).length + 2 := by
  simp only [sgs, List.mem_cons, List.not_mem_nil, or_false] at hg
  rcases hg with rfl | rfl | rfl | rfl | rfl | rfl | rfl | rfl
  · show (itoa x ++ 32 :: ([43] ++ 32 :: 40 :: (itoa y ++ 32 :: ([43] ++ 32 :: itoa z) ++ [41]))).length = ((itoa x ++ 32 :: ([43] ++ 32 :: itoa y)) ++ 32 :: ([43] ++ 32 :: itoa z)).length + 2
    simp; omega
  · show (itoa x ++ 32 :: ([45] ++ 32 :: 40 :: (itoa y ++ 32 :: ([45] ++ 32 :: itoa z) ++ [41]))).length = ((itoa x ++ 32 :: ([45] ++ 32 :: itoa y)) ++ 32 :: ([45] ++ 32 :: itoa z)).length + 2
    simp; omega
  · show (itoa x ++ 32 :: ([42] ++ 32 :: 40 :: (itoa y ++ 32 :: ([42] ++ 32 :: itoa z) ++ [41]))).length = ((itoa x ++ 32 :: ([42] ++ 32 :: itoa y)) ++ 32 :: ([42] ++ 32 :: itoa z)).length + 2
    simp; omega
  · show (itoa x ++ 32 :: ([47] ++ 32 :: 40 :: (itoa y ++ 32 :: ([47] ++ 32 :: itoa z) ++ [41]))).length = ((itoa x ++ 32 :: ([47] ++ 32 :: itoa y)) ++ 32 :: ([47] ++ 32 :: itoa z)).length + 2
    simp; omega
  · show (itoa x ++ 32 :: ([37] ++ 32 :: 40 :: (itoa y ++ 32 :: ([37] ++ 32 :: itoa z) ++ [41]))).length = ((itoa x ++ 32 :: ([37] ++ 32 :: itoa y)) ++ 32 :: ([37] ++ 32 :: itoa z)).length + 2
    simp; omega
  · show (itoa x ++ 32 :: ([124, 124] ++ 32 :: 40 :: (itoa y ++ 32 :: ([124, 124] ++ 32 :: itoa z) ++ [41]))).length = ((itoa x ++ 32 :: ([124, 124] ++ 32 :: itoa y)) ++ 32 :: ([124, 124] ++ 32 :: itoa z)).length + 2
    simp; omega
  · show (itoa x ++ 32 :: ([65, 78, 68] ++ 32 :: 40 :: (itoa y ++ 32 :: ([65, 78, 68] ++ 32 :: itoa z) ++ [41]))).length = ((itoa x ++ 32 :: ([65, 78, 68] ++ 32 :: itoa y)) ++ 32 :: ([65, 78, 68] ++ 32 :: itoa z)).length + 2
    simp; omega
  · show (itoa x ++ 32 :: ([79, 82] ++ 32 :: 40 :: (itoa y ++ 32 :: ([79, 82] ++ 32 :: itoa z) ++ [41]))).length = ((itoa x ++ 32 :: ([79, 82] ++ 32 :: itoa y)) ++ 32 :: ([79, 82] ++ 32 :: itoa z)).length + 2
    simp; omega
theorem exLR (op x y z : Int) : exL op x y z ≠ exR op x y z := by
  intro h
  have h1 : (exL op x y z).xs.map (·.k) = (exR op x y z).xs.map (·.k) := by rw [h]
  simp [exL, exR, mkE, numE, litE] at h1
end Go.Proofs.YtblkhlhhlalbkaaGreatDoor
