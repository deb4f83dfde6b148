/- Plain mathematics of expressions: what three digits with an operator between are read as, and how they are written; the law's own two texts. No program is named here. No conditions. -/
import Derived.Test.YtekapdpfbkdflaaGreatDoorExPrP
import Derived.KernelRfl
namespace Go.Proofs.YtekapdpfbkdflaaGreatDoor
open Go.Lib
set_option linter.unusedVariables false
set_option maxRecDepth 20000

/-! ### The law's own texts -/
def exA : List UInt8 := [40, 49, 32, 45, 32, 40, 50, 32, 45, 32, 51, 41, 41, 32, 61, 32, 52, 32, 120]
def exB : List UInt8 := [108, 101, 110, 103, 116, 104, 40, 97, 44, 32, 98, 41]
def exAT : Ts := [(⟨5, [40], 0⟩, 0), (⟨2, [], 1⟩, 1), (⟨5, [45], 0⟩, 3), (⟨5, [40], 0⟩, 5), (⟨2, [], 2⟩, 6), (⟨5, [45], 0⟩, 8), (⟨2, [], 3⟩, 10), (⟨5, [41], 0⟩, 11), (⟨5, [41], 0⟩, 12), (⟨5, [61], 0⟩, 14), (⟨2, [], 4⟩, 16), (⟨1, [120], 0⟩, 18)]
def exBT : Ts := [(⟨1, [108, 101, 110, 103, 116, 104], 0⟩, 0), (⟨5, [40], 0⟩, 6), (⟨1, [97], 0⟩, 7), (⟨5, [44], 0⟩, 8), (⟨1, [98], 0⟩, 10), (⟨5, [41], 0⟩, 11)]
theorem toks_exA : toksOf exA = .ok exAT := by kernel_rfl
theorem toks_exB : toksOf exB = .ok exBT := by kernel_rfl
def numE (n : Int) : Ex := litE ⟨2, n, ⟨#[]⟩⟩
def exE : Ex := mkE 4 5 [mkE 4 12 [numE 1, mkE 4 12 [numE 2, numE 3]], numE 4]
theorem read_exA : (lns 32).orr exAT = .ok (exE, [(⟨1, [120], 0⟩, 18)]) := by kernel_rfl
theorem read_exB : (lns 32).orr exBT = .error ([(⟨5, [44], 0⟩, 8), (⟨1, [98], 0⟩, 10), (⟨5, [41], 0⟩, 11)], 20) := by kernel_rfl
theorem print_exA : prE exE = [49, 32, 45, 32, 40, 50, 32, 45, 32, 51, 41, 32, 61, 32, 52] := by kernel_rfl

/-! ### Three digits -/
/-- The operators, as they are written in the law. -/
def sgn8 : List (List UInt8) := [[43], [45], [42], [47], [37], [124, 124], [97, 110, 100], [111, 114]]
structure Sg where
  txt : List UInt8
  tk : Tk
  op : Int
def sgs : List Sg := [⟨[43], ⟨5, [43], 0⟩, 11⟩, ⟨[45], ⟨5, [45], 0⟩, 12⟩, ⟨[42], ⟨5, [42], 0⟩, 13⟩, ⟨[47], ⟨5, [47], 0⟩, 14⟩, ⟨[37], ⟨5, [37], 0⟩, 15⟩, ⟨[124, 124], ⟨5, [124, 124], 0⟩, 16⟩, ⟨[97, 110, 100], ⟨1, [97, 110, 100], 0⟩, 4⟩, ⟨[111, 114], ⟨1, [111, 114], 0⟩, 3⟩]
theorem sgs_txt : sgs.map (·.txt) = sgn8 := rfl
/-- The three texts. -/
def tL (x y z : UInt8) (s : List UInt8) : List UInt8 := x :: 32 :: (s ++ 32 :: y :: 32 :: (s ++ [32, z]))
def tM (x y z : UInt8) (s : List UInt8) : List UInt8 := 40 :: x :: 32 :: (s ++ 32 :: y :: 41 :: 32 :: (s ++ [32, z]))
def tR (x y z : UInt8) (s : List UInt8) : List UInt8 := x :: 32 :: (s ++ 32 :: 40 :: y :: 32 :: (s ++ [32, z, 41]))
/-- A digit. -/
def Dg (c : UInt8) : Prop := 48 ≤ c.toNat ∧ c.toNat ≤ 57
def vD (c : UInt8) : Int := ((c.toNat - 48 : Nat) : Int)
theorem dg_dig {c : UInt8} (h : Dg c) : dig (bi c) = true := by
  obtain ⟨h0, h1⟩ := h
  unfold dig bi
  simp
  omega
theorem dg_q {c : UInt8} (h : Dg c) : (bi c == 39) = false := by
  obtain ⟨h0, h1⟩ := h
  unfold bi
  rw [beq_eq_false_iff_ne]
  omega
theorem dg_b {c : UInt8} (h : Dg c) : blk (bi c) = false := by
  obtain ⟨h0, h1⟩ := h
  unfold blk bi
  simp only [Bool.or_eq_false_iff, beq_eq_false_iff_ne]
  omega
theorem dg_r {c : UInt8} (h : Dg c) (r : List UInt8) : isR (c :: r) = false := by
  obtain ⟨h0, h1⟩ := h
  cases r with
  | nil => rfl
  | cons d r =>
    have : (bi c == 45) = false := by unfold bi; rw [beq_eq_false_iff_ne]; omega
    show (bi c == 45 && bi d == 45) = false
    rw [this]
    rfl
/-- A digit, and no word's letter behind. -/
theorem first_dg {c : UInt8} (h : Dg c) (r : List UInt8) (hr : ∀ d s, r = d :: s → isD d = false) : first1 (c :: r) = some (⟨2, [], vD c⟩, 1) := by
  have hw : cntW isD (c :: r) = 1 := by
    unfold cntW
    rw [if_pos (show isD c = true from dg_dig h)]
    cases r with
    | nil => rfl
    | cons d s => unfold cntW; rw [if_neg (by rw [hr d s rfl]; simp)]
  unfold first1
  simp only [dg_q h, dg_dig h, hw, Bool.false_eq_true, if_false, if_true]
  have hv : numD (List.take 1 (c :: r)) = some (vD c) := by
    have hc := h.2
    show numD [c] = _
    have h1 : valD 0 [c] = c.toNat - 48 := by
      show 10 * 0 + (c.toNat - 48) = c.toNat - 48
      omega
    unfold numD vD
    rw [h1, if_pos (by omega)]
  rw [hv]
  rfl
theorem toks_dg {f : Nat} {c : UInt8} (h : Dg c) (r : List UInt8) (hr : ∀ d s, r = d :: s → isD d = false) (i : Nat) : toks (f + 1) (c :: r) i = (toks f r (i + 1)).map ((⟨2, [], vD c⟩, i) :: ·) := by
  rw [toks, dg_b h, if_neg (by simp), dg_r h, if_neg (by simp), first_dg h r hr]
  rfl
theorem toks_sp (f : Nat) (r : List UInt8) (i : Nat) : toks (f + 1) (32 :: r) i = toks f r (i + 1) := rfl
theorem toks_op (f : Nat) (r : List UInt8) (i : Nat) : toks (f + 1) (40 :: r) i = (toks f r (i + 1)).map ((⟨5, [40], 0⟩, i) :: ·) := by
  cases r <;> rfl
theorem toks_cl (f : Nat) (r : List UInt8) (i : Nat) : toks (f + 1) (41 :: r) i = (toks f r (i + 1)).map ((⟨5, [41], 0⟩, i) :: ·) := by
  cases r <;> rfl
theorem toks_nil (f i : Nat) : toks f [] i = .ok [] := by cases f <;> rfl
theorem toks_sg {g : Sg} (hg : g ∈ sgs) (f : Nat) (r : List UInt8) (i : Nat) : toks (f + 1) (g.txt ++ 32 :: r) i = (toks f (32 :: r) (i + g.txt.length)).map ((g.tk, i) :: ·) := by
  simp only [sgs, List.mem_cons, List.not_mem_nil, or_false] at hg
  rcases hg with rfl | rfl | rfl | rfl | rfl | rfl | rfl | rfl <;> rfl
theorem isD_sp : isD 32 = false := rfl
theorem isD_41 : isD 41 = false := rfl
theorem sgs_len {g : Sg} (hg : g ∈ sgs) : g.txt.length ≤ 3 := by
  simp only [sgs, List.mem_cons, List.not_mem_nil, or_false] at hg
  rcases hg with rfl | rfl | rfl | rfl | rfl | rfl | rfl | rfl <;> decide
theorem toks_tL {x y z : UInt8} (hx : Dg x) (hy : Dg y) (hz : Dg z) {g : Sg} (hg : g ∈ sgs) : ∃ a b c d, toksOf (tL x y z g.txt) = .ok [(⟨2, [], vD x⟩, 0), (g.tk, a), (⟨2, [], vD y⟩, b), (g.tk, c), (⟨2, [], vD z⟩, d)] := by
  refine ⟨0 + 1 + 1, 0 + 1 + 1 + g.txt.length + 1, 0 + 1 + 1 + g.txt.length + 1 + 1 + 1, 0 + 1 + 1 + g.txt.length + 1 + 1 + 1 + g.txt.length + 1, ?_⟩
  unfold toksOf
  rw [toks_fuel _ 100 _ _ (by omega) (by have := sgs_len hg; simp [tL]; omega)]
  unfold tL
  rw [toks_dg hx _ (by rintro d s ⟨⟩; rfl), toks_sp, toks_sg hg, toks_sp, toks_dg hy _ (by rintro d s ⟨⟩; rfl), toks_sp, toks_sg hg, toks_sp, toks_dg hz _ (by rintro d s ⟨⟩), toks_nil]
  rfl
theorem toks_tM {x y z : UInt8} (hx : Dg x) (hy : Dg y) (hz : Dg z) {g : Sg} (hg : g ∈ sgs) : ∃ a b c d e f, toksOf (tM x y z g.txt) = .ok [(⟨5, [40], 0⟩, 0), (⟨2, [], vD x⟩, a), (g.tk, b), (⟨2, [], vD y⟩, c), (⟨5, [41], 0⟩, d), (g.tk, e), (⟨2, [], vD z⟩, f)] := by
  refine ⟨0 + 1, 0 + 1 + 1 + 1, 0 + 1 + 1 + 1 + g.txt.length + 1, 0 + 1 + 1 + 1 + g.txt.length + 1 + 1, 0 + 1 + 1 + 1 + g.txt.length + 1 + 1 + 1 + 1, 0 + 1 + 1 + 1 + g.txt.length + 1 + 1 + 1 + 1 + g.txt.length + 1, ?_⟩
  unfold toksOf
  rw [toks_fuel _ 100 _ _ (by omega) (by have := sgs_len hg; simp [tM]; omega)]
  unfold tM
  rw [toks_op, toks_dg hx _ (by rintro d s ⟨⟩; rfl), toks_sp, toks_sg hg, toks_sp, toks_dg hy _ (by rintro d s ⟨⟩; rfl), toks_cl, toks_sp, toks_sg hg, toks_sp, toks_dg hz _ (by rintro d s ⟨⟩), toks_nil]
  rfl
theorem toks_tR {x y z : UInt8} (hx : Dg x) (hy : Dg y) (hz : Dg z) {g : Sg} (hg : g ∈ sgs) : ∃ a b c d e f, toksOf (tR x y z g.txt) = .ok [(⟨2, [], vD x⟩, 0), (g.tk, a), (⟨5, [40], 0⟩, b), (⟨2, [], vD y⟩, c), (g.tk, d), (⟨2, [], vD z⟩, e), (⟨5, [41], 0⟩, f)] := by
  refine ⟨0 + 1 + 1, 0 + 1 + 1 + g.txt.length + 1, 0 + 1 + 1 + g.txt.length + 1 + 1, 0 + 1 + 1 + g.txt.length + 1 + 1 + 1 + 1, 0 + 1 + 1 + g.txt.length + 1 + 1 + 1 + 1 + g.txt.length + 1, 0 + 1 + 1 + g.txt.length + 1 + 1 + 1 + 1 + g.txt.length + 1 + 1, ?_⟩
  unfold toksOf
  rw [toks_fuel _ 100 _ _ (by omega) (by have := sgs_len hg; simp [tR]; omega)]
  unfold tR
  rw [toks_dg hx _ (by rintro d s ⟨⟩; rfl), toks_sp, toks_sg hg, toks_sp, toks_op, toks_dg hy _ (by rintro d s ⟨⟩; rfl), toks_sp, toks_sg hg, toks_sp, toks_dg hz _ (by rintro d s ⟨⟩; rfl), toks_cl, toks_nil]
  rfl
def exL (op a b c : Int) : Ex := mkE 4 op [mkE 4 op [numE a, numE b], numE c]
def exR (op a b c : Int) : Ex := mkE 4 op [numE a, mkE 4 op [numE b, numE c]]
theorem read_tL {g : Sg} (hg : g ∈ sgs) (x y z : Int) (a b c d : Nat) : (lns 32).orr [(⟨2, [], x⟩, 0), (g.tk, a), (⟨2, [], y⟩, b), (g.tk, c), (⟨2, [], z⟩, d)] = .ok (exL g.op x y z, []) := by
  simp only [sgs, List.mem_cons, List.not_mem_nil, or_false] at hg
  rcases hg with rfl | rfl | rfl | rfl | rfl | rfl | rfl | rfl <;> kernel_rfl
theorem read_tM {g : Sg} (hg : g ∈ sgs) (x y z : Int) (a b c d e f : Nat) : (lns 32).orr [(⟨5, [40], 0⟩, 0), (⟨2, [], x⟩, a), (g.tk, b), (⟨2, [], y⟩, c), (⟨5, [41], 0⟩, d), (g.tk, e), (⟨2, [], z⟩, f)] = .ok (exL g.op x y z, []) := by
  simp only [sgs, List.mem_cons, List.not_mem_nil, or_false] at hg
  rcases hg with rfl | rfl | rfl | rfl | rfl | rfl | rfl | rfl <;> kernel_rfl
theorem read_tR {g : Sg} (hg : g ∈ sgs) (x y z : Int) (a b c d e f : Nat) : (lns 32).orr [(⟨2, [], x⟩, 0), (g.tk, a), (⟨5, [40], 0⟩, b), (⟨2, [], y⟩, c), (g.tk, d), (⟨2, [], z⟩, e), (⟨5, [41], 0⟩, f)] = .ok (exR g.op x y z, []) := by
  simp only [sgs, List.mem_cons, List.not_mem_nil, or_false] at hg
  rcases hg with rfl | rfl | rfl | rfl | rfl | rfl | rfl | rfl <;> kernel_rfl
theorem litV_num (n : Int) : litV ⟨2, n, ⟨#[]⟩⟩ = itoa n := rfl
theorem prE_num (n : Int) : prE (numE n) = itoa n := rfl
theorem prE_L {g : Sg} (hg : g ∈ sgs) (x y z : Int) : (prE (exR g.op x y z)).length = (prE (exL g.op x y z)).length + 2 := by
  simp only [sgs, List.mem_cons, List.not_mem_nil, or_false] at hg
  rcases hg with rfl | rfl | rfl | rfl | rfl | rfl | rfl | rfl
  · show (itoa x ++ 32 :: ([43] ++ 32 :: 40 :: (itoa y ++ 32 :: ([43] ++ 32 :: itoa z) ++ [41]))).length = ((itoa x ++ 32 :: ([43] ++ 32 :: itoa y)) ++ 32 :: ([43] ++ 32 :: itoa z)).length + 2
    simp; omega
  · show (itoa x ++ 32 :: ([45] ++ 32 :: 40 :: (itoa y ++ 32 :: ([45] ++ 32 :: itoa z) ++ [41]))).length = ((itoa x ++ 32 :: ([45] ++ 32 :: itoa y)) ++ 32 :: ([45] ++ 32 :: itoa z)).length + 2
    simp; omega
  · show (itoa x ++ 32 :: ([42] ++ 32 :: 40 :: (itoa y ++ 32 :: ([42] ++ 32 :: itoa z) ++ [41]))).length = ((itoa x ++ 32 :: ([42] ++ 32 :: itoa y)) ++ 32 :: ([42] ++ 32 :: itoa z)).length + 2
    simp; omega
  · show (itoa x ++ 32 :: ([47] ++ 32 :: 40 :: (itoa y ++ 32 :: ([47] ++ 32 :: itoa z) ++ [41]))).length = ((itoa x ++ 32 :: ([47] ++ 32 :: itoa y)) ++ 32 :: ([47] ++ 32 :: itoa z)).length + 2
    simp; omega
  · show (itoa x ++ 32 :: ([37] ++ 32 :: 40 :: (itoa y ++ 32 :: ([37] ++ 32 :: itoa z) ++ [41]))).length = ((itoa x ++ 32 :: ([37] ++ 32 :: itoa y)) ++ 32 :: ([37] ++ 32 :: itoa z)).length + 2
    simp; omega
  · show (itoa x ++ 32 :: ([124, 124] ++ 32 :: 40 :: (itoa y ++ 32 :: ([124, 124] ++ 32 :: itoa z) ++ [41]))).length = ((itoa x ++ 32 :: ([124, 124] ++ 32 :: itoa y)) ++ 32 :: ([124, 124] ++ 32 :: itoa z)).length + 2
    simp; omega
  · show (itoa x ++ 32 :: ([65, 78, 68] ++ 32 :: 40 :: (itoa y ++ 32 :: ([65, 78, 68] ++ 32 :: itoa z) ++ [41]))).length = ((itoa x ++ 32 :: ([65, 78, 68] ++ 32 :: itoa y)) ++ 32 :: ([65, 78, 68] ++ 32 :: itoa z)).length + 2
    simp; omega
  · show (itoa x ++ 32 :: ([79, 82] ++ 32 :: 40 :: (itoa y ++ 32 :: ([79, 82] ++ 32 :: itoa z) ++ [41]))).length = ((itoa x ++ 32 :: ([79, 82] ++ 32 :: itoa y)) ++ 32 :: ([79, 82] ++ 32 :: itoa z)).length + 2
    simp; omega
theorem exLR (op x y z : Int) : exL op x y z ≠ exR op x y z := by
  intro h
  have h1 : (exL op x y z).xs.map (·.k) = (exR op x y z).xs.map (·.k) := by rw [h]
  simp [exL, exR, mkE, numE, litE] at h1
end Go.Proofs.YtekapdpfbkdflaaGreatDoor
