package shape

import (
	"math"
	"strings"
	"testing"

	"quarry/api"
	"quarry/expr"
)

// parts are operands of which most are none themselves.
func parts(n int) []api.Expr {
	l := []api.Expr{{}, {Kind: api.ECol, Name: "a"}, {Kind: api.EBin, Op: 99}, {Kind: api.ELit}}
	return l[:n]
}

// Whether an expression is none hangs on its own Kind, Op, and number of Args, and
// on a column's names and a literal's value; it is what Print tells.
func TestNone(t *testing.T) {
	some := 0
	for _, kind := range []int{math.MinInt, -1, 0, 1, 2, 3, 4, 5, 6, 7, 8, math.MaxInt} {
		for op := -1; op < 19; op++ {
			for n := range 5 {
				for _, name := range []string{"", "a"} {
					e := api.Expr{Kind: kind, Op: op, Name: name, Args: parts(n)}
					if got := None(e); got != (expr.Print(e) == "") {
						t.Errorf("None of %+v: %t, and Print writes %q", e, got, expr.Print(e))
					} else if !got {
						some++
					}
				}
			}
		}
	}
	if want := 2*(1+1+2+14+2+6+5) - 1; some != want {
		t.Errorf("%d are some, want %d", some, want)
	}
	for _, v := range []api.Value{{}, {Kind: api.Int, Int: -1}, {Kind: api.Text}, {Kind: api.Blob}} {
		if None(api.Expr{Kind: api.ELit, Value: v}) {
			t.Errorf("None of the literal %+v", v)
		}
	}
	for _, v := range []api.Value{{Kind: 5}, {Int: 1}, {Kind: api.Bool, Int: 2}, {Kind: api.Text, Int: 1}} {
		if !None(api.Expr{Kind: api.ELit, Value: v}) {
			t.Errorf("not None of the literal %+v", v)
		}
	}
	if None(api.Expr{Kind: api.ECol, Table: "t"}) {
		t.Error("None of a column of t")
	}
}

// What is handed in stays as it is.
func TestMemory(t *testing.T) {
	e := api.Expr{Kind: api.EBin, Op: api.Add, Args: parts(4)[1:3]}
	None(e)
	if len(e.Args) != 2 || !expr.Same(e.Args[0], parts(4)[1]) || !expr.Same(e.Args[1], parts(4)[2]) || !expr.Same(e.Args[:3][2], parts(4)[3]) {
		t.Errorf("%+v", e.Args[:3])
	}
}

// The parts of a long chain are gone through in good time.
func TestLong(t *testing.T) {
	e := api.Expr{Kind: api.ECol, Name: strings.Repeat("a", 100)}
	for range 1 << 16 {
		e = api.Expr{Kind: api.EUnary, Op: api.Neg, Args: []api.Expr{e}}
		if None(e) {
			t.Fatal("none")
		}
	}
}
