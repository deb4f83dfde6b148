/- Plain mathematics of the operators and functions of values (chapter 2), as plain functions; no program is named here. No conditions. -/
import Derived.Test.YtfcecblppdgcbaaValPlain
namespace Go.Proofs.Ytfcecblppdgcbaa
open Go.Lib (compareBytes)

/-- NULL, a Bool, an Int, a Text. -/
def nullV : Val := ⟨0, 0, ⟨#[]⟩⟩
def truthV (b : Bool) : Val := if b then ⟨1, 1, ⟨#[]⟩⟩ else ⟨1, 0, ⟨#[]⟩⟩
def numV (n : Int) : Val := ⟨2, n, ⟨#[]⟩⟩
def textV (s : ByteArray) : Val := ⟨3, 0, s⟩

/-- Is it within the numbers? -/
abbrev inR (n : Int) : Prop := -9223372036854775808 ≤ n ∧ n ≤ 9223372036854775807

/-- The answer, an error beside it. -/
structure Ans where
  v : Val
  e : Int

def Ans.out (x : Ans) : Value := .tuple #[x.v.v, .int .i64 x.e]

def over (n : Int) : Ans := if inR n then ⟨numV n, 0⟩ else ⟨nullV, 40⟩

def sumV (op a b : Int) : Ans :=
  if op = 11 then over (a + b) else if op = 12 then over (a - b) else if op = 13 then over (a * b) else
  if b = 0 then ⟨nullV, 41⟩ else if op = 15 then ⟨numV (a.tmod b), 0⟩ else over (a.tdiv b)

def eqv (k n : Int) (s : ByteArray) (k2 n2 : Int) (s2 : ByteArray) : Bool := k == k2 && (n == n2 && s.data.toList == s2.data.toList)
def Val.eqb (a b : Val) : Bool := eqv a.k a.n a.s b.k b.n b.s

def nullOrV (k : Int) (v : Val) : Bool := v.k == 0 || v.k == k
def fitV (op : Int) (a b : Val) : Bool :=
  if op ≤ 4 then nullOrV 1 a && nullOrV 1 b else if op ≤ 10 then nullOrV b.k a || b.k == 0 else if op = 16 then nullOrV 3 a && nullOrV 3 b else nullOrV 2 a && nullOrV 2 b

def andV (a b : Val) : Val := if a.eqb (truthV false) || b.eqb (truthV false) then truthV false else if a.k = 0 ∨ b.k = 0 then nullV else truthV true
def orV (a b : Val) : Val := if a.eqb (truthV true) || b.eqb (truthV true) then truthV true else if a.k = 0 ∨ b.k = 0 then nullV else truthV false

def holdsV (op c : Int) : Bool :=
  if op = 5 then c == 0 else if op = 6 then c != 0 else if op = 7 then decide (c < 0) else if op = 8 then decide (c ≤ 0) else if op = 9 then decide (0 < c) else decide (0 ≤ c)

def joinV (s t : ByteArray) : Ans := if 2048 < s.size + t.size then ⟨nullV, 8⟩ else ⟨textV (s ++ t), 0⟩

def binV (op : Int) (a b : Val) : Ans :=
  if op < 3 ∨ 16 < op then ⟨nullV, 5⟩ else if fitV op a b = false then ⟨nullV, 35⟩ else
  if op = 4 then ⟨andV a b, 0⟩ else if op = 3 then ⟨orV a b, 0⟩ else if a.k = 0 ∨ b.k = 0 then ⟨nullV, 0⟩ else
  if op ≤ 10 then ⟨truthV (holdsV op (cmpV a b)), 0⟩ else if op = 16 then joinV a.s b.s else sumV op a.n b.n

def unV (op : Int) (a : Val) : Ans :=
  if op ≠ 1 ∧ op ≠ 2 then ⟨nullV, 5⟩ else if a.k = 0 then ⟨nullV, 0⟩ else
  if op = 2 then (if a.k = 1 then ⟨truthV (!a.eqb (truthV true)), 0⟩ else ⟨nullV, 35⟩) else if a.k = 2 then over (0 - a.n) else ⟨nullV, 35⟩

end Go.Proofs.Ytfcecblppdgcbaa
