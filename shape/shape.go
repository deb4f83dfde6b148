// Package shape is for the layers that go through expressions part by part.
package shape

import (
	"quarry/api"
	"quarry/expr"
)

// None tells whether an expression is one for which expr.Print writes nothing. Its
// operands, which don't matter for that, are left out: a long chain would else be
// written anew for each of its operators.
func None(e api.Expr) bool {
	e.Args = make([]api.Expr, len(e.Args))
	return expr.Print(e) == ""
}
