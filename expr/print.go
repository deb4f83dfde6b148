package expr

import (
	"strings"

	"quarry/api"
	"quarry/value"
)

// writer writes into one text, so that a long chain is not copied at each of
// its operators.
type writer struct {
	made strings.Builder
}

func (w *writer) text(parts ...string) {
	for _, s := range parts {
		w.made.WriteString(s)
	}
}

func (w *writer) expr(e api.Expr) {
	if !fits(e) {
		return
	}
	switch e.Kind {
	case api.ELit:
		w.text(value.Literal(e.Value))
	case api.ECol:
		w.column(e)
	case api.EUnary:
		o, _ := operatorOf(e)
		w.text(strings.ToUpper(o.text), " ")
		w.operand(e.Args[0], o.line)
	case api.EBin:
		w.pair(e)
	case api.ENull:
		w.operand(e.Args[0], lineCat)
		w.text(nullTest(e.Op))
	case api.ECall, api.EAgg:
		w.call(e)
	}
}

// fits tells whether an expression is one that the grammar has: of such a kind,
// with an Op and a number of operands that go with it.
func fits(e api.Expr) bool {
	operands := len(e.Args)
	switch e.Kind {
	case api.ELit, api.ECol:
		return e.Op == 0 && operands == 0
	case api.EUnary:
		_, ok := operatorOf(e)
		return ok && operands == 1
	case api.EBin:
		_, ok := operatorOf(e)
		return ok && operands == 2
	case api.ENull:
		return (e.Op == isNull || e.Op == isNotNull) && operands == 1
	case api.ECall, api.EAgg:
		c, ok := callOf(e)
		return ok && (operands == c.operands || c.counts() && operands == 0)
	}
	return false
}

// lineOf is the line of the grammar that an expression is of; what is written
// as nothing needs no brackets.
func lineOf(e api.Expr) int {
	if !fits(e) {
		return lineItem
	}
	if o, ok := operatorOf(e); ok {
		return o.line
	}
	if e.Kind == api.ENull {
		return lineTest
	}
	return lineItem
}

// operand writes an expression where one of that line, or a tighter one, must
// stand.
func (w *writer) operand(e api.Expr, number int) {
	if lineOf(e) >= number {
		w.expr(e)
		return
	}
	w.text("(")
	w.expr(e)
	w.text(")")
}

func (w *writer) column(e api.Expr) {
	if e.Table != "" {
		w.text(e.Table, ".")
	}
	w.text(e.Name)
}

func (w *writer) pair(e api.Expr) {
	o, _ := operatorOf(e)
	left := o.line
	if o.line == lineTest {
		// a test goes with no other one
		left = lineCat
	}
	w.operand(e.Args[0], left)
	w.text(" ", strings.ToUpper(o.text), " ")
	w.operand(e.Args[1], o.line+1)
}

func nullTest(op int) string {
	if op == isNotNull {
		return " IS NOT NULL"
	}
	return " IS NULL"
}

func (w *writer) call(e api.Expr) {
	c, _ := callOf(e)
	w.text(strings.ToUpper(c.name), "(")
	if len(e.Args) == 0 {
		w.text("*")
	}
	for i, a := range e.Args {
		if i > 0 {
			w.text(", ")
		}
		w.expr(a)
	}
	w.text(")")
}
