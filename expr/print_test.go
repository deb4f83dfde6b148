package expr

import (
	"fmt"
	"math"
	"slices"
	"strings"
	"testing"

	"quarry/api"
)

func lit(v api.Value) api.Expr { return api.Expr{Kind: api.ELit, Value: v} }

func num(n int64) api.Expr { return lit(api.Value{Kind: api.Int, Int: n}) }

func col(name string) api.Expr { return api.Expr{Kind: api.ECol, Name: name} }

func of(kind, op int, args ...api.Expr) api.Expr { return api.Expr{Kind: kind, Op: op, Args: args} }

// checkPrint looks at what stands for an expression.
func checkPrint(t *testing.T, e api.Expr, want string) {
	t.Helper()
	if s := Print(e); s != want {
		t.Errorf("Print(%s): %q, want %q", short(dump(e)), short(s), short(want))
	}
}

// checkPrints reads texts, and prints what was read.
func checkPrints(t *testing.T, texts map[string]string) {
	t.Helper()
	for text, want := range texts {
		e, _, err := Read(tokensOf(t, text), 0)
		if err != nil {
			t.Errorf("Read(%s): %v", text, err)
			continue
		}
		checkPrint(t, e, want)
	}
}

// 13.2: values and names.
func TestPrintItems(t *testing.T) {
	for want, v := range map[string]api.Value{
		"NULL": {}, "TRUE": {Kind: api.Bool, Int: 1}, "FALSE": {Kind: api.Bool}, "0": {Kind: api.Int}, "-7": {Kind: api.Int, Int: -7},
		"9223372036854775807": {Kind: api.Int, Int: math.MaxInt64}, "-9223372036854775808": {Kind: api.Int, Int: math.MinInt64},
		"''": {Kind: api.Text}, "'it''s'": {Kind: api.Text, Text: "it's"}, "X''": {Kind: api.Blob}, "X'0AFF'": {Kind: api.Blob, Text: "\x0a\xff"},
	} {
		checkPrint(t, lit(v), want)
		checkPrint(t, of(api.EUnary, api.Neg, lit(v)), "- "+want)
		checkPrint(t, of(api.EBin, api.Sub, lit(v), lit(v)), want+" - "+want)
	}
	for _, v := range []api.Value{{Kind: 5}, {Kind: -1}, {Kind: api.Bool, Int: 2}, {Kind: api.Int, Text: "a"}, {Kind: api.Text, Int: 1}, {Int: 1}, {Text: "a"}} {
		checkPrint(t, lit(v), "")
		checkPrint(t, of(api.EBin, api.Mul, lit(v), lit(v)), " * ")
	}
	checkPrint(t, col("a"), "a")
	checkPrint(t, col(""), "")
	checkPrint(t, api.Expr{Kind: api.ECol, Table: "t", Name: "a"}, "t.a")
	checkPrint(t, api.Expr{Kind: api.ECol, Table: "t"}, "t.")
	checkPrint(t, api.Expr{Kind: api.ECol, Table: "No Name", Name: "select"}, "No Name.select")
	// what names mean does not stand there
	checkPrint(t, api.Expr{Kind: api.ECol, Table: "t", Name: "a", Col: 7, Type: api.Text}, "t.a")
	checkPrint(t, api.Expr{Kind: api.ELit, Value: api.Value{Kind: api.Int, Int: 3}, Col: 7, Type: api.Int, Table: "t", Name: "n"}, "3")
}

// 13.2: functions, aggregates and operators.
func TestPrintKinds(t *testing.T) {
	checkPrints(t, map[string]string{
		"length(a)": "LENGTH(a)", "abs(a)": "ABS(a)", "upper(a)": "UPPER(a)", "lower(a)": "LOWER(a)", "coalesce(a,b)": "COALESCE(a, b)", "substr(a,1,2)": "SUBSTR(a, 1, 2)",
		"count(*)": "COUNT(*)", "count(a)": "COUNT(a)", "sum(a)": "SUM(a)", "min(a)": "MIN(a)", "max(a)": "MAX(a)",
		"abs((a or b))": "ABS(a OR b)", "coalesce((a), (b or c))": "COALESCE(a, b OR c)", "sum((a = b))": "SUM(a = b)", "substr((not a), - b, (c is null))": "SUBSTR(NOT a, - b, c IS NULL)",
		"a or b": "a OR b", "a and b": "a AND b", "not a": "NOT a", "a=b": "a = b", "a<>b": "a <> b", "a<b": "a < b", "a<=b": "a <= b", "a>b": "a > b", "a>=b": "a >= b",
		"a||b": "a || b", "a+b": "a + b", "a-b": "a - b", "a*b": "a * b", "a/b": "a / b", "a%b": "a % b", "-a": "- a", "- -a": "- - a", "not not a": "NOT NOT a", "a - -1": "a - - 1",
		"a is null": "a IS NULL", "a is not null": "a IS NOT NULL", "null": "NULL", "True": "TRUE", "FALSE": "FALSE", "x'0a'": "X'0A'", "T.A": "t.a", "length": "length", "count.max": "count.max",
	})
	for op, name := range map[int]string{api.Length: "LENGTH", api.Abs: "ABS", api.Upper: "UPPER", api.Lower: "LOWER"} {
		checkPrint(t, of(api.ECall, op, num(1)), name+"(1)")
	}
	checkPrint(t, of(api.ECall, api.Coalesce, num(1), num(2)), "COALESCE(1, 2)")
	checkPrint(t, of(api.ECall, api.Substr, num(1), num(2), num(3)), "SUBSTR(1, 2, 3)")
}

// lineOfTests are the numbers of the lines, as the chapter lists them, of an
// expression of each kind and Op.
func lineOfTests() []struct {
	line int
	e    api.Expr
	text string
} {
	a, b := col("a"), col("b")
	return []struct {
		line int
		e    api.Expr
		text string
	}{
		{1, of(api.EBin, api.Or, a, b), "a OR b"}, {2, of(api.EBin, api.And, a, b), "a AND b"}, {3, of(api.EUnary, api.Not, a), "NOT a"},
		{4, of(api.EBin, api.Eq, a, b), "a = b"}, {4, of(api.EBin, api.Ne, a, b), "a <> b"}, {4, of(api.EBin, api.Lt, a, b), "a < b"}, {4, of(api.EBin, api.Le, a, b), "a <= b"}, {4, of(api.EBin, api.Gt, a, b), "a > b"}, {4, of(api.EBin, api.Ge, a, b), "a >= b"},
		{4, of(api.ENull, 0, a), "a IS NULL"}, {4, of(api.ENull, 1, a), "a IS NOT NULL"},
		{5, of(api.EBin, api.Cat, a, b), "a || b"}, {6, of(api.EBin, api.Add, a, b), "a + b"}, {6, of(api.EBin, api.Sub, a, b), "a - b"},
		{7, of(api.EBin, api.Mul, a, b), "a * b"}, {7, of(api.EBin, api.Div, a, b), "a / b"}, {7, of(api.EBin, api.Rem, a, b), "a % b"}, {8, of(api.EUnary, api.Neg, a), "- a"},
		{9, a, "a"}, {9, num(-1), "-1"}, {9, lit(api.Value{}), "NULL"}, {9, of(api.ECall, api.Abs, a), "ABS(a)"}, {9, of(api.EAgg, api.Sum, a), "SUM(a)"}, {9, of(api.EAgg, api.Count), "COUNT(*)"},
		{9, of(api.EBin, api.Or, a), ""}, {9, of(api.EUnary, api.Neg), ""}, {9, of(77, api.Or, a, b), ""}, {9, lit(api.Value{Kind: 9}), ""},
	}
}

// 13.2: brackets, with and without need, on both sides of each operator.
func TestPrintBrackets(t *testing.T) {
	needs := func(s string, line, needed int) string {
		if line < needed {
			return "(" + s + ")"
		}
		return s
	}
	for _, x := range lineOfTests() {
		for op, row := range map[int]struct {
			word        string
			left, right int
		}{
			api.Or: {"OR", 1, 2}, api.And: {"AND", 2, 3}, api.Eq: {"=", 5, 5}, api.Ne: {"<>", 5, 5}, api.Lt: {"<", 5, 5}, api.Le: {"<=", 5, 5}, api.Gt: {">", 5, 5}, api.Ge: {">=", 5, 5},
			api.Cat: {"||", 5, 6}, api.Add: {"+", 6, 7}, api.Sub: {"-", 6, 7}, api.Mul: {"*", 7, 8}, api.Div: {"/", 7, 8}, api.Rem: {"%", 7, 8},
		} {
			checkPrint(t, of(api.EBin, op, x.e, num(1)), needs(x.text, x.line, row.left)+" "+row.word+" 1")
			checkPrint(t, of(api.EBin, op, num(1), x.e), "1 "+row.word+" "+needs(x.text, x.line, row.right))
			checkPrint(t, of(api.EBin, op, x.e, x.e), needs(x.text, x.line, row.left)+" "+row.word+" "+needs(x.text, x.line, row.right))
		}
		checkPrint(t, of(api.ENull, 0, x.e), needs(x.text, x.line, 5)+" IS NULL")
		checkPrint(t, of(api.ENull, 1, x.e), needs(x.text, x.line, 5)+" IS NOT NULL")
		checkPrint(t, of(api.EUnary, api.Not, x.e), "NOT "+needs(x.text, x.line, 3))
		checkPrint(t, of(api.EUnary, api.Neg, x.e), "- "+needs(x.text, x.line, 8))
		checkPrint(t, of(api.ECall, api.Upper, x.e), "UPPER("+x.text+")")
		checkPrint(t, of(api.ECall, api.Substr, x.e, x.e, x.e), "SUBSTR("+x.text+", "+x.text+", "+x.text+")")
		checkPrint(t, of(api.EAgg, api.Count, x.e), "COUNT("+x.text+")")
	}
	checkPrints(t, map[string]string{
		"((a + b) + c)": "a + b + c", "a + (b + c)": "a + (b + c)", "a + (b * c)": "a + b * c", "(a + b) * c": "(a + b) * c", "a - (b - c) - d": "a - (b - c) - d", "(((a)))": "a",
		"(a = b) = c": "(a = b) = c", "a = (b = c)": "a = (b = c)", "(a is null) is null": "(a IS NULL) IS NULL", "not (a and b)": "NOT (a AND b)", "not (a = b)": "NOT a = b", "(not a) and b": "NOT a AND b", "(not a) = b": "(NOT a) = b",
		"-(a)": "- a", "-(-(a))": "- - a", "-(a * b)": "- (a * b)", "(-a) * b": "- a * b", "(a or b) and (c or d)": "(a OR b) AND (c OR d)", "a or (b or c)": "a OR (b OR c)", "(a and b) or (c and d)": "a AND b OR c AND d", "a and (b and c)": "a AND (b AND c)",
		"(a || b) + c": "(a || b) + c", "a || (b + c)": "a || b + c", "a || (b || c)": "a || (b || c)", "((a or b) and c) or d": "(a OR b) AND c OR d",
	})
}

// 13.2: nothing for an Op that the Kind has not, another number of Args, another Kind.
func TestPrintNothing(t *testing.T) {
	args := []api.Expr{col("a"), col("b"), col("c"), col("d"), col("e")}
	right := func(kind, op, n int) bool {
		switch kind {
		case api.ELit, api.ECol:
			return op == 0 && n == 0
		case api.EUnary:
			return n == 1 && (op == api.Neg || op == api.Not)
		case api.EBin:
			return n == 2 && op >= api.Or && op <= api.Cat
		case api.ECall:
			return op >= api.Length && op <= api.Lower && n == 1 || op == api.Coalesce && n == 2 || op == api.Substr && n == 3
		case api.EAgg:
			return op >= api.Count && op <= api.Max && n == 1 || op == api.Count && n == 0
		case api.ENull:
			return n == 1 && (op == 0 || op == 1)
		}
		return false
	}
	for _, kind := range []int{math.MinInt, -1, 0, 1, 2, 3, 4, 5, 6, 7, 8, 9, 100, math.MaxInt} {
		for _, op := range []int{math.MinInt, -2, -1, 0, 1, 2, 3, 4, 5, 6, 7, 8, 9, 10, 11, 12, 13, 14, 15, 16, 17, 18, 256, math.MaxInt} {
			for n := range len(args) + 1 {
				e := api.Expr{Kind: kind, Op: op, Name: "n", Args: args[:n]}
				if s := Print(e); (s != "") != right(kind, op, n) {
					t.Errorf("Print of kind %d, op %d, %d args: %q", kind, op, n, s)
				}
				if !right(kind, op, n) { // its line is item
					checkPrint(t, of(api.EUnary, api.Neg, e), "- ")
					checkPrint(t, of(api.EBin, api.Mul, e, e), " * ")
					checkPrint(t, of(api.ENull, 0, e), " IS NULL")
					checkPrint(t, of(api.ECall, api.Coalesce, e, e), "COALESCE(, )")
				}
			}
		}
	}
	checkPrint(t, api.Expr{}, "")
}

// 13.2, 13.3, R1: what is nested as deep as it may be.
func TestDeep(t *testing.T) {
	const deep = 1 << 16
	left, right, other := col("a"), col("a"), col("b")
	for range deep {
		left = of(api.EBin, api.Add, left, col("b"))
		right = of(api.EBin, api.Add, col("b"), right)
		other = of(api.EBin, api.Add, other, col("b"))
	}
	checkPrint(t, left, "a"+strings.Repeat(" + b", deep))
	checkPrint(t, right, strings.Repeat("b + (", deep-1)+"b + a"+strings.Repeat(")", deep-1))
	if !Same(left, left) || Same(left, right) || Same(left, other) || Same(right, left) || !Same(right, right) {
		t.Error("deep expressions are not held against one another")
	}
}

// 13.3: each field that matters, in itself and within Args.
func TestSame(t *testing.T) {
	base := api.Expr{Kind: api.EBin, Op: api.Add, Value: api.Value{Kind: api.Int, Int: 1, Text: "t"}, Table: "t", Name: "n", Col: 3, Type: api.Int, Args: []api.Expr{num(1), of(api.EUnary, api.Neg, col("a"))}}
	check := func(a, b api.Expr, want bool) {
		t.Helper()
		outer := func(e api.Expr) api.Expr { return of(api.ECall, api.Substr, num(1), e, num(3)) }
		for _, pair := range [][2]api.Expr{{a, b}, {b, a}, {outer(a), outer(b)}, {outer(outer(b)), outer(outer(a))}} {
			if Same(pair[0], pair[1]) != want {
				t.Errorf("Same(%+v, %+v): %v", pair[0], pair[1], !want)
			}
		}
	}
	other := func(change func(*api.Expr)) api.Expr {
		e := base
		e.Args = slices.Clone(base.Args)
		change(&e)
		return e
	}
	check(base, other(func(e *api.Expr) {}), true)
	check(base, other(func(e *api.Expr) { e.Col = 4 }), true)
	check(base, other(func(e *api.Expr) { e.Type = api.Text }), true)
	check(base, other(func(e *api.Expr) { e.Args[0].Col, e.Args[0].Type = 7, 7 }), true)
	check(base, other(func(e *api.Expr) { e.Kind = api.EAgg }), false)
	check(base, other(func(e *api.Expr) { e.Op = api.Sub }), false)
	check(base, other(func(e *api.Expr) { e.Value.Kind = api.Bool }), false)
	check(base, other(func(e *api.Expr) { e.Value.Int = 2 }), false)
	check(base, other(func(e *api.Expr) { e.Value.Text = "T" }), false)
	check(base, other(func(e *api.Expr) { e.Table = "u" }), false)
	check(base, other(func(e *api.Expr) { e.Table = "" }), false)
	check(base, other(func(e *api.Expr) { e.Name = "N" }), false)
	check(base, other(func(e *api.Expr) { e.Table, e.Name = e.Name, e.Table }), false)
	check(base, other(func(e *api.Expr) { e.Args[0] = num(2) }), false)
	check(base, other(func(e *api.Expr) { e.Args[1] = of(api.EUnary, api.Neg, col("b")) }), false)
	check(base, other(func(e *api.Expr) { e.Args[0], e.Args[1] = e.Args[1], e.Args[0] }), false)
	check(base, other(func(e *api.Expr) { e.Args = e.Args[:1] }), false)
	check(base, other(func(e *api.Expr) { e.Args = e.Args[1:] }), false)
	check(base, other(func(e *api.Expr) { e.Args = nil }), false)
	check(base, other(func(e *api.Expr) { e.Args = append(e.Args, num(1)) }), false)
	check(other(func(e *api.Expr) { e.Args = nil }), other(func(e *api.Expr) { e.Args = []api.Expr{} }), true)
	check(api.Expr{}, api.Expr{}, true)
	check(api.Expr{}, lit(api.Value{}), false)
	check(api.Expr{Kind: 99, Op: -5}, api.Expr{Kind: 99, Op: -5, Col: 1}, true)
	// the same text is not the same expression
	check(num(-1), of(api.EUnary, api.Neg, num(1)), false)
	check(lit(api.Value{Kind: api.Text, Text: "a"}), lit(api.Value{Kind: api.Blob, Text: "a"}), false)
	check(lit(api.Value{Kind: api.Bool, Int: 1}), num(1), false)
	check(of(api.EBin, api.Add, col("a"), col("b")), of(api.EBin, api.Add, col("b"), col("a")), false)
}

// R4: what is printed, or held against another, stays as it is.
func TestPrintMemory(t *testing.T) {
	e, _, err := Read(tokensOf(t, "not (a or b) and coalesce(1, - 2) = count(*)"), 0)
	if err != nil {
		t.Fatal(err)
	}
	was := fmt.Sprintf("%+v", e)
	Print(e)
	Same(e, e)
	if now := fmt.Sprintf("%+v", e); now != was {
		t.Errorf("it was %s, is %s", was, now)
	}
}
