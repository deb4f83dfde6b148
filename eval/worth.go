package eval

import (
	"slices"

	"quarry/api"
	"quarry/calc"
	"quarry/expr"
	"quarry/shape"
	"quarry/throw"
)

// over is what expressions are worked out over. What goes wrong is thrown.
type over struct {
	row   []api.Value
	known []Known
}

// worth is the value of an expression.
func (o over) worth(e api.Expr) api.Value {
	is := func(k Known) bool { return expr.Same(k.Expr, e) }
	if at := slices.IndexFunc(o.known, is); at >= 0 {
		return o.known[at].Value
	}
	if shape.None(e) {
		panic(api.ErrKind)
	}
	switch e.Kind {
	case api.ELit:
		return e.Value
	case api.ECol:
		return o.column(e.Col)
	case api.EAgg:
		// an aggregate is of many rows, not of this one
		panic(api.ErrGroup)
	}
	return o.made(e)
}

func (o over) column(at int) api.Value {
	if at < 0 || at >= len(o.row) {
		panic(api.ErrRange)
	}
	return o.row[at]
}

// made is what an operator or a function makes of its operands. Where the first
// one decides, the others are not looked at: they may fail.
func (o over) made(e api.Expr) api.Value {
	operands := []api.Value{o.worth(e.Args[0])}
	if decides(e, operands[0]) {
		return operands[0]
	}
	for _, a := range e.Args[1:] {
		operands = append(operands, o.worth(a))
	}
	v, errno := applied(e, operands)
	throw.If(errno)
	return v
}

// decides tells whether an expression is worth its first operand, whatever the
// others are.
func decides(e api.Expr, first api.Value) bool {
	switch {
	case e.Kind == api.EBin && e.Op == api.And:
		return first == truth(false)
	case e.Kind == api.EBin && e.Op == api.Or:
		return first == truth(true)
	case e.Kind == api.ECall && e.Op == api.Coalesce:
		return !isNull(first)
	}
	return false
}

// applied is what calc makes of the operands of an expression.
func applied(e api.Expr, operands []api.Value) (api.Value, api.Errno) {
	switch e.Kind {
	case api.EUnary:
		return calc.Unary(e.Op, operands[0])
	case api.EBin:
		return calc.Binary(e.Op, operands[0], operands[1])
	case api.ECall:
		return calc.Call(e.Op, operands)
	}
	// ENull, of which the Op 0 asks for NULL, and 1 for all others
	return truth(isNull(operands[0]) == (e.Op == 0)), api.OK
}

func isNull(v api.Value) bool { return v == api.Value{} }

func truth(b bool) api.Value {
	if b {
		return api.Value{Kind: api.Bool, Int: 1}
	}
	return api.Value{Kind: api.Bool}
}
