package names

import (
	"slices"

	"quarry/api"
)

// typeOf is the type of an expression, no column, whose operands have theirs.
func typeOf(e api.Expr) int {
	switch e.Kind {
	case api.EUnary:
		return unary(e.Op, e.Args)
	case api.EBin:
		return binary(e.Op, e.Args)
	case api.ENull:
		return api.Bool
	case api.ECall:
		return call(e.Op, e.Args)
	case api.EAgg:
		return aggregate(e.Op, e.Args)
	}
	return e.Value.Kind
}

// mustGo looks whether expressions go as one of some types.
func mustGo(l []api.Expr, types ...int) {
	for _, e := range l {
		if e.Type != api.Null && !slices.Contains(types, e.Type) {
			panic(api.ErrType)
		}
	}
}

// common is the type as which both of two expressions go.
func common(a, b api.Expr) int {
	if a.Type == api.Null {
		return b.Type
	}
	mustGo([]api.Expr{b}, a.Type)
	return a.Type
}

func unary(op int, operand []api.Expr) int {
	is := api.Int
	if op == api.Not {
		is = api.Bool
	}
	mustGo(operand, is)
	return is
}

func binary(op int, operands []api.Expr) int {
	is := api.Int
	switch op {
	case api.Or, api.And:
		is = api.Bool
	case api.Eq, api.Ne, api.Lt, api.Le, api.Gt, api.Ge:
		common(operands[0], operands[1])
		return api.Bool
	case api.Cat:
		is = api.Text
	}
	mustGo(operands, is)
	return is
}

// call looks at the operands of a function as calc.Call does at their values.
func call(function int, operands []api.Expr) int {
	switch function {
	case api.Coalesce:
		return common(operands[0], operands[1])
	case api.Length:
		mustGo(operands, api.Text, api.Blob)
		return api.Int
	case api.Abs:
		mustGo(operands, api.Int)
		return api.Int
	}
	mustGo(operands[:1], api.Text)
	mustGo(operands[1:], api.Int) // of Substr
	return api.Text
}

func aggregate(op int, operand []api.Expr) int {
	switch op {
	case api.Min, api.Max:
		return operand[0].Type
	case api.Sum:
		mustGo(operand, api.Int)
	}
	return api.Int
}
