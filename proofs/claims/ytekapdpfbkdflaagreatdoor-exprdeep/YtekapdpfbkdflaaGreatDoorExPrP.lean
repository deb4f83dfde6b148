/- Plain mathematics of expressions: how an expression is written. No program is named here. No conditions. -/
import Derived.Test.YtekapdpfbkdflaaGreatDoorExPlain
import Derived.Test.YtekapdpfbkdflaaGreatDoorValLit
namespace Go.Proofs.YtekapdpfbkdflaaGreatDoor
open Go.Lib
set_option linter.unusedVariables false

/-- The operator of an expression. -/
def opOf (k op : Int) : Option Opr := oprs.find? fun o => o.kind == k && o.op == op
/-- The call of an expression. -/
def calOf (k op : Int) : Option Cal := cals.find? fun o => o.kind == k && o.op == op
/-- Is it an expression that the grammar has? -/
def fitsB (k op : Int) (n : Nat) : Bool :=
  if k = 1 ∨ k = 2 then op == 0 && n == 0
  else if k = 3 then (opOf k op).isSome && n == 1
  else if k = 4 then (opOf k op).isSome && n == 2
  else if k = 7 then (op == 0 || op == 1) && n == 1
  else if k = 5 ∨ k = 6 then match calOf k op with
    | some c => n == c.cnt || (c.all && n == 0)
    | none => false
  else false
/-- Its line of the grammar. -/
def lineB (k op : Int) (n : Nat) : Int :=
  if fitsB k op n = false then 9 else match opOf k op with
    | some o => o.line
    | none => if k = 7 then 4 else 9
def Ex.line (e : Ex) : Int := lineB e.k e.op e.xs.length
/-- An operand, in brackets if it needs them. -/
def wrapB (least : Int) (x : Int × List UInt8) : List UInt8 := if least ≤ x.1 then x.2 else 40 :: (x.2 ++ [41])
/-- With a comma and a blank between each two. -/
def joinC : List (Int × List UInt8) → List UInt8
  | [] => []
  | x :: r => x.2 ++ joinT r
where joinT : List (Int × List UInt8) → List UInt8
  | [] => []
  | x :: r => 44 :: 32 :: (x.2 ++ joinT r)
def nullB (op : Int) : List UInt8 := if op = 1 then [32, 73, 83, 32, 78, 79, 84, 32, 78, 85, 76, 76] else [32, 73, 83, 32, 78, 85, 76, 76]
def colB (t n : List UInt8) : List UInt8 := if t = [] then n else t ++ 46 :: n
/-- An expression, as it is written, by the lines and the texts of its operands. -/
def prB (k op : Int) (v : Val) (t n : List UInt8) (xs : List (Int × List UInt8)) : List UInt8 :=
  if fitsB k op xs.length = false then []
  else if k = 1 then litV v
  else if k = 2 then colB t n
  else if k = 3 then match opOf k op, xs with
    | some o, x :: _ => toUpperA o.txt ++ 32 :: wrapB o.line x
    | _, _ => []
  else if k = 4 then match opOf k op, xs with
    | some o, x :: y :: _ => wrapB (if o.line = 4 then 5 else o.line) x ++ 32 :: (toUpperA o.txt ++ 32 :: wrapB (o.line + 1) y)
    | _, _ => []
  else if k = 7 then match xs with
    | x :: _ => wrapB 5 x ++ nullB op
    | [] => []
  else match calOf k op with
    | some c => toUpperA c.name ++ 40 :: ((if xs.isEmpty then [42] else joinC xs) ++ [41])
    | none => []
def prE : Ex → List UInt8
  | ⟨k, op, v, t, n, xs⟩ => prB k op v t n (prL xs)
  where
  prL : List Ex → List (Int × List UInt8)
    | [] => []
    | x :: r => (x.line, prE x) :: prL r
theorem prL_map : ∀ xs : List Ex, prE.prL xs = xs.map fun x => (x.line, prE x)
  | [] => by simp [prE.prL]
  | x :: r => by simp [prE.prL, prL_map r]
theorem prE_eq (e : Ex) : prE e = prB e.k e.op e.v e.t e.n (e.xs.map fun x => (x.line, prE x)) := by
  obtain ⟨k, op, v, t, n, xs⟩ := e
  rw [prE, prL_map]
end Go.Proofs.YtekapdpfbkdflaaGreatDoor
