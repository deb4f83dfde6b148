package eval

import (
	"fmt"
	"slices"

	"quarry/api"
	"quarry/calc"
	"quarry/expr"
	"quarry/value"
)

// outcome is what an expression is worth, or its error.
type outcome struct {
	v api.Value
	e api.Errno
}

// plain goes by the chapter's words: all operands are worked out, needed or not,
// the last one first, and then it is seen which of them count.
func plain(e api.Expr, row []api.Value, known []Known) outcome {
	for _, k := range known {
		if spelt(k.Expr) == spelt(e) {
			return outcome{v: k.Value}
		}
	}
	if expr.Print(e) == "" {
		return outcome{e: api.ErrKind}
	}
	var all []outcome
	for _, a := range slices.Backward(e.Args) {
		all = slices.Insert(all, 0, plain(a, row, known))
	}
	switch e.Kind {
	case api.ELit:
		return outcome{v: e.Value}
	case api.ECol:
		for at, v := range row {
			if at == e.Col {
				return outcome{v: v}
			}
		}
		return outcome{e: api.ErrRange}
	case api.EAgg:
		return outcome{e: api.ErrGroup}
	}
	return plainOf(e, all)
}

// plainOf is what becomes of what the operands are worth.
func plainOf(e api.Expr, all []outcome) outcome {
	first := all[0]
	null := first.v.Kind == api.Null
	switch {
	case first.e != api.OK:
		return first
	case e.Kind == api.EBin && e.Op == api.And && value.Literal(first.v) == "FALSE":
		return first
	case e.Kind == api.EBin && e.Op == api.Or && value.Literal(first.v) == "TRUE":
		return first
	case e.Kind == api.ECall && e.Op == api.Coalesce && !null:
		return first
	case e.Kind == api.ECall && e.Op == api.Coalesce:
		return all[1]
	case e.Kind == api.ENull && null == (e.Op == 0):
		return outcome{v: boolOf(1)}
	case e.Kind == api.ENull:
		return outcome{v: boolOf(0)}
	}
	var operands []api.Value
	for _, o := range all {
		if o.e != api.OK {
			return o
		}
		operands = append(operands, o.v)
	}
	var o outcome
	switch e.Kind {
	case api.EUnary:
		o.v, o.e = calc.Unary(e.Op, operands[0])
	case api.EBin:
		o.v, o.e = calc.Binary(e.Op, operands[0], operands[1])
	case api.ECall:
		o.v, o.e = calc.Call(e.Op, operands)
	}
	return o
}

// spelt is all of an expression that matters for whether it is the same.
func spelt(e api.Expr) string {
	text := fmt.Sprintf("%d %d %d %d %q %q %q (", e.Kind, e.Op, e.Value.Kind, e.Value.Int, e.Value.Text, e.Table, e.Name)
	for _, a := range e.Args {
		text += spelt(a) + ","
	}
	return text + ")"
}
