package expr

import "quarry/api"

// The lines of the grammar: the further down, the tighter they bind.
const (
	lineOr = iota + 1
	lineAnd
	lineNot
	lineTest
	lineCat
	lineSum
	lineProd
	lineSign
	lineItem
)

// The Ops of ENull.
const (
	isNull    = 0
	isNotNull = 1
)

// operator is an operator of an expression of that kind, the token that stands
// for it, and the line on which it does.
type operator struct {
	kind, op int
	token    int
	text     string
	line     int
}

var operators = [...]operator{
	{api.EBin, api.Or, api.TWord, "or", lineOr},
	{api.EBin, api.And, api.TWord, "and", lineAnd},
	{api.EUnary, api.Not, api.TWord, "not", lineNot},
	{api.EBin, api.Eq, api.TSymbol, "=", lineTest},
	{api.EBin, api.Ne, api.TSymbol, "<>", lineTest},
	{api.EBin, api.Lt, api.TSymbol, "<", lineTest},
	{api.EBin, api.Le, api.TSymbol, "<=", lineTest},
	{api.EBin, api.Gt, api.TSymbol, ">", lineTest},
	{api.EBin, api.Ge, api.TSymbol, ">=", lineTest},
	{api.EBin, api.Cat, api.TSymbol, "||", lineCat},
	{api.EBin, api.Add, api.TSymbol, "+", lineSum},
	{api.EBin, api.Sub, api.TSymbol, "-", lineSum},
	{api.EBin, api.Mul, api.TSymbol, "*", lineProd},
	{api.EBin, api.Div, api.TSymbol, "/", lineProd},
	{api.EBin, api.Rem, api.TSymbol, "%", lineProd},
	{api.EUnary, api.Neg, api.TSymbol, "-", lineSign},
}

// operatorOf is the operator of an expression, if it has one.
func operatorOf(e api.Expr) (operator, bool) {
	for _, o := range operators {
		if o.kind == e.Kind && o.op == e.Op {
			return o, true
		}
	}
	return operator{}, false
}

// call is a function or an aggregate, by the kind of its expression.
type call struct {
	kind, op int
	name     string
	operands int
}

var calls = [...]call{
	{api.ECall, api.Length, "length", 1},
	{api.ECall, api.Abs, "abs", 1},
	{api.ECall, api.Upper, "upper", 1},
	{api.ECall, api.Lower, "lower", 1},
	{api.ECall, api.Coalesce, "coalesce", 2},
	{api.ECall, api.Substr, "substr", 3},
	{api.EAgg, api.Count, "count", 1},
	{api.EAgg, api.Sum, "sum", 1},
	{api.EAgg, api.Min, "min", 1},
	{api.EAgg, api.Max, "max", 1},
}

// callOf is the function or the aggregate of an expression, if it has one.
func callOf(e api.Expr) (call, bool) {
	for _, c := range calls {
		if c.kind == e.Kind && c.op == e.Op {
			return c, true
		}
	}
	return call{}, false
}

// callNamed is the function or the aggregate of that name, if there is one.
func callNamed(name string) (call, bool) {
	for _, c := range calls {
		if c.name == name {
			return c, true
		}
	}
	return call{}, false
}

// counts tells whether it may be asked of all rows, by a * instead of operands.
func (c call) counts() bool { return c.kind == api.EAgg && c.op == api.Count }
