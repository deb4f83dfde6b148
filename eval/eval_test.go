package eval

import (
	"fmt"
	"math"
	"strings"
	"testing"

	"quarry/api"
	"quarry/calc"
	"quarry/expr"
	"quarry/lexer"
	"quarry/value"
)

func boolOf(n int64) api.Value { return api.Value{Kind: api.Bool, Int: n} }

func intOf(n int64) api.Value { return api.Value{Kind: api.Int, Int: n} }

func textOf(s string) api.Value { return api.Value{Kind: api.Text, Text: s} }

func blobOf(s string) api.Value { return api.Value{Kind: api.Blob, Text: s} }

func rowOf(l ...api.Value) []api.Value { return l }

// ex reads an expression. The column a is at the place 0, b at 1, and so on;
// below is at -1, and each other name behind all rows of these tests.
func ex(text string) api.Expr {
	l, err := lexer.Tokens(text)
	if err != nil {
		panic(fmt.Sprintf("%q: %v", text, err))
	}
	e, behind, err := expr.Read(l, 0)
	if err != nil || behind != len(l) {
		panic(fmt.Sprintf("%q: %v", text, err))
	}
	return placed(e)
}

func placed(e api.Expr) api.Expr {
	if e.Kind == api.ECol {
		e.Col = 1 << 20
		if len(e.Name) == 1 {
			e.Col = int(e.Name[0] - 'a')
		}
		if e.Name == "below" {
			e.Col = -1
		}
	}
	for i, a := range e.Args {
		e.Args[i] = placed(a)
	}
	return e
}

// wantOf is what an expression must be worth, written as a literal, or the
// number of its error, with error ahead of it.
func wantOf(text string) outcome {
	var number int
	if _, err := fmt.Sscanf(text, "error %d", &number); err == nil {
		return outcome{e: api.Errno(number)}
	}
	below := strings.HasPrefix(text, "-")
	v := ex(strings.TrimPrefix(text, "-")).Value
	if below {
		v.Int = -v.Int
	}
	return outcome{v: v}
}

// hold looks at what an expression is worth.
func hold(t testing.TB, e api.Expr, row []api.Value, known []Known, want outcome) {
	t.Helper()
	if v, errno := Eval(e, row, known); v != want.v || errno != want.e {
		t.Errorf("%s over %s, %s: %s, error %d, want %s", tell(e), show(row), show(known), show(v), errno, show(want))
	}
}

// check looks at what an expression is worth, and whether the chapter's words say
// so; with empty lists of both kinds. Nothing is changed by it.
func check(t testing.TB, e api.Expr, row []api.Value, known []Known, want outcome) {
	t.Helper()
	if o := plain(e, row, known); o != want {
		t.Errorf("%s over %s: the words say %s, want %s", tell(e), show(row), show(o), show(want))
	}
	was := fmt.Sprintf("%+v %+v %+v", e, row, known)
	hold(t, e, row, known, want)
	if len(row) == 0 {
		hold(t, e, []api.Value{}, known, want)
	}
	if len(known) == 0 {
		hold(t, e, row, []Known{}, want)
	}
	if fmt.Sprintf("%+v %+v %+v", e, row, known) != was {
		t.Fatalf("%s over %s: it has changed", tell(e), show(row))
	}
}

// tell is an expression as it stands in a text, if it can.
func tell(e api.Expr) string {
	if text := expr.Print(e); text != "" && len(text) < 1000 {
		return text
	}
	return show(e)
}

// show is something as a text that is not too long to be read.
func show(v any) string {
	return fmt.Sprintf("%.300s", fmt.Sprintf("%+v", v))
}

// checkAll looks at texts of expressions, over one row.
func checkAll(t *testing.T, row []api.Value, known []Known, wants map[string]string) {
	t.Helper()
	for text, want := range wants {
		check(t, ex(text), row, known, wantOf(want))
	}
}

// with is an expression of a kind, over some operands.
func with(kind, op int, operands ...api.Expr) api.Expr {
	return api.Expr{Kind: kind, Op: op, Args: operands}
}

// oneOfEach is right values of each kind.
func oneOfEach() []api.Value {
	return rowOf(api.Value{}, boolOf(0), boolOf(1), intOf(0), intOf(1), intOf(-7), intOf(math.MinInt64), intOf(math.MaxInt64), textOf(""), textOf("ab"), textOf("\x00\xffZz"), textOf(strings.Repeat("x", api.MaxRow)), blobOf(""), blobOf("ab"))
}

// The chapter's examples.
func TestExamples(t *testing.T) {
	row := rowOf(intOf(7), intOf(0))
	checkAll(t, row, nil, map[string]string{
		"a / b": "error 41", "b <> 0 and a / b = 1": "FALSE", "a is null or a / 0 = 1": "error 41", "coalesce(a, 1 / 0)": "7", "sum(a) + 1": "error 36",
	})
	check(t, ex("sum(a) + 1"), row, []Known{{ex("sum(a)"), intOf(5)}}, outcome{v: intOf(6)})
}

// 16.1: a literal, of each kind.
func TestLiterals(t *testing.T) {
	for _, v := range oneOfEach() {
		check(t, api.Expr{Kind: api.ELit, Value: v}, nil, nil, outcome{v: v})
	}
	checkAll(t, rowOf(intOf(1)), nil, map[string]string{"null": "NULL", "true": "TRUE", "false": "FALSE", "7": "7", "9223372036854775807": "9223372036854775807", "''": "''", "'it''s'": "'it''s'", "x''": "X''", "x'00ff'": "X'00FF'"})
}

// 16.1: a column is what stands at its place, whatever its name and type.
func TestColumns(t *testing.T) {
	row := oneOfEach()
	for at, v := range row {
		check(t, api.Expr{Kind: api.ECol, Name: "n", Col: at}, row, nil, outcome{v: v})
		check(t, api.Expr{Kind: api.ECol, Table: "t", Name: "a", Col: at, Type: api.Blob}, row, nil, outcome{v: v})
		check(t, api.Expr{Kind: api.ECol, Table: "t", Col: at}, row[:at+1], nil, outcome{v: v})
		check(t, api.Expr{Kind: api.ECol, Name: "n", Col: at}, row[:at], nil, outcome{e: api.ErrRange})
	}
	for _, at := range []int{math.MinInt, math.MinInt32, -len(row), -2, -1, len(row), len(row) + 1, 1 << 32, math.MaxInt32, math.MaxInt} {
		check(t, api.Expr{Kind: api.ECol, Name: "n", Col: at}, row, nil, outcome{e: api.ErrRange})
	}
	for _, at := range []int{-1, 0, 1} {
		check(t, api.Expr{Kind: api.ECol, Name: "n", Col: at}, nil, nil, outcome{e: api.ErrRange})
		check(t, api.Expr{Kind: api.ECol, Name: "n", Col: at}, row[:0], nil, outcome{e: api.ErrRange})
	}
	checkAll(t, rowOf(intOf(7), textOf("x")), nil, map[string]string{"a": "7", "b": "'x'", "t.a": "7", "u.b": "'x'", "c": "error 2", "below": "error 2", "a + c": "error 2", "c is null": "error 2", "coalesce(c, 1)": "error 2", "coalesce(b, c)": "'x'"})
}

// 16.1: an aggregate that is not known is none over a row, whatever it is of.
func TestAggregates(t *testing.T) {
	one := rowOf(intOf(1))
	for _, text := range []string{"count(*)", "count(a)", "sum(a)", "min(a)", "max(a)", "sum('x')", "sum(1 / 0)", "min(nope)", "max(count(*))", "sum(a + count(*))"} {
		for form, want := range map[string]string{
			"%s": "error 36", "%s is null": "error 36", "- %s": "error 36", "not %s": "error 36", "1 + %s": "error 36", "%s = 1 / 0": "error 36", "1 / 0 = %s": "error 41", "abs(%s)": "error 36", "substr('x', 1, %s)": "error 36", "coalesce(null, %s)": "error 36", "coalesce(1, %s)": "1", "true and %s": "error 36", "null or %s": "error 36", "1 > 2 and %s": "FALSE", "not false or %s": "TRUE",
		} {
			check(t, ex(fmt.Sprintf(form, text)), one, nil, wantOf(want))
		}
	}
	for op := api.Count; op <= api.Max; op++ {
		check(t, with(api.EAgg, op, api.Expr{}), one, nil, outcome{e: api.ErrGroup})
		check(t, with(api.EAgg, op, ex("a"), ex("a")), one, nil, outcome{e: api.ErrKind})
	}
	check(t, with(api.EAgg, api.Sum), one, nil, outcome{e: api.ErrKind})
}

// 16.1: each operator and each function makes of operands of all kinds what calc
// makes of them, but for what the first one decides; errors of calc are handed on.
func TestApplied(t *testing.T) {
	row := oneOfEach()
	told := map[api.Errno]int{}
	a, b, c := ex("a"), ex("b"), ex("c")
	for i, v := range row {
		for op := api.Neg; op <= api.Not; op++ {
			var o outcome
			o.v, o.e = calc.Unary(op, v)
			check(t, with(api.EUnary, op, a), row[i:], nil, o)
			told[o.e]++
		}
		for _, w := range row {
			two := rowOf(v, w)
			for op := api.Or; op <= api.Cat; op++ {
				var o outcome
				o.v, o.e = calc.Binary(op, v, w)
				if op == api.And && v == boolOf(0) || op == api.Or && v == boolOf(1) {
					o = outcome{v: v}
				}
				check(t, with(api.EBin, op, a, b), two, nil, o)
				told[o.e]++
			}
		}
	}
	for f := api.Length; f <= api.Substr; f++ {
		for n := range int(math.Pow(float64(len(row)), float64(calc.Args(f)))) {
			three := rowOf(row[n%len(row)], row[n/len(row)%len(row)], row[n/len(row)/len(row)])
			var o outcome
			o.v, o.e = calc.Call(f, three[:calc.Args(f)])
			check(t, with(api.ECall, f, []api.Expr{a, b, c}[:calc.Args(f)]...), three, nil, o)
			told[o.e]++
		}
	}
	for _, e := range []api.Errno{api.OK, api.ErrType, api.ErrOverflow, api.ErrDivide, api.ErrLong} {
		if told[e] == 0 {
			t.Errorf("error %d never came", e)
		}
	}
}

// 16.1: the same, written out.
func TestAppliedPlainly(t *testing.T) {
	row := rowOf(intOf(7), intOf(-2), textOf("Ab"), blobOf("Ab"), boolOf(1), boolOf(0), api.Value{}, intOf(math.MinInt64), textOf(strings.Repeat("x", api.MaxRow)))
	checkAll(t, row, nil, map[string]string{
		"- a": "-7", "- b": "2", "- g": "NULL", "- c": "error 35", "- e": "error 35", "- h": "error 40", "- - a": "7",
		"not e": "FALSE", "not f": "TRUE", "not g": "NULL", "not a": "error 35", "not not f": "FALSE",
		"a + b": "5", "a - b": "9", "a * b": "-14", "a / b": "-3", "a % b": "1", "b % a": "-2", "a + g": "NULL", "g / 0": "NULL", "a / 0": "error 41", "a % 0": "error 41", "h - 1": "error 40", "h / (0 - 1)": "error 40", "h % (0 - 1)": "0", "a + c": "error 35", "g * c": "error 35", "e - e": "error 35", "1 - 2 - 3": "-4", "1 - (2 - 3)": "2",
		"c || 'x'": "'Abx'", "'x' || c": "'xAb'", "c || g": "NULL", "c || a": "error 35", "d || c": "error 35", "i || ''": "'" + strings.Repeat("x", api.MaxRow) + "'", "i || 'y'": "error 8",
		"a = 7": "TRUE", "a = b": "FALSE", "a <> b": "TRUE", "a <> 7": "FALSE", "a < b": "FALSE", "b < a": "TRUE", "a <= 7": "TRUE", "a <= b": "FALSE", "b > a": "FALSE", "a > b": "TRUE", "a >= 7": "TRUE", "b >= a": "FALSE", "c < 'B'": "TRUE", "d = x'4162'": "TRUE", "f < e": "TRUE", "g = g": "NULL", "g <> a": "NULL", "a = c": "error 35", "c = d": "error 35", "e = a": "error 35", "g < c": "NULL",
		"e and e": "TRUE", "e and f": "FALSE", "f and e": "FALSE", "e and g": "NULL", "g and e": "NULL", "g and f": "FALSE", "f and g": "FALSE", "g and g": "NULL", "a and e": "error 35", "e and a": "error 35", "g and a": "error 35", "f and a": "FALSE", "a and f": "error 35",
		"e or f": "TRUE", "f or e": "TRUE", "f or f": "FALSE", "f or g": "NULL", "g or f": "NULL", "g or e": "TRUE", "e or g": "TRUE", "g or g": "NULL", "a or e": "error 35", "f or a": "error 35", "g or a": "error 35", "e or a": "TRUE", "a or f": "error 35",
		"a is null": "FALSE", "g is null": "TRUE", "a is not null": "TRUE", "g is not null": "FALSE", "f is null": "FALSE", "'' is null": "FALSE", "x'' is null": "FALSE", "0 is not null": "TRUE", "(g = g) is null": "TRUE", "a / 0 is null": "error 41",
		"length(c)": "2", "length(d)": "2", "length(a)": "error 35", "length(g)": "NULL", "abs(b)": "2", "abs(h)": "error 40", "abs(c)": "error 35", "upper(c)": "'AB'", "lower(c)": "'ab'", "upper(d)": "error 35", "lower(g)": "NULL", "substr(c, 2, 1)": "'b'", "substr(c, 0, a)": "'Ab'", "substr(c, g, 1)": "NULL", "substr(g, c, 1)": "error 35", "substr(c, 1, e)": "error 35", "substr(d, 1, 1)": "error 35",
		"coalesce(g, a)": "7", "coalesce(a, g)": "7", "coalesce(g, g)": "NULL", "coalesce(a, c)": "7", "coalesce(c, a)": "'Ab'", "coalesce(f, e)": "FALSE", "coalesce('', c)": "''", "coalesce(0, a)": "0",
	})
}

// 16.1: where the left operand decides, the right one may be what it likes; where
// it does not, its error is that of the whole, ahead of what is wrong with types.
func TestDecided(t *testing.T) {
	row := rowOf(boolOf(0), boolOf(1), api.Value{}, intOf(0))
	wrong := map[api.Errno]api.Expr{
		api.ErrDivide: ex("1 / 0"), api.ErrOverflow: ex("9223372036854775807 + 1"), api.ErrType: ex("1 + 'x'"), api.ErrRange: ex("nope"), api.ErrGroup: ex("count(*)"), api.ErrKind: {}, api.ErrLong: ex("'" + strings.Repeat("x", api.MaxRow) + "' || 'y'"),
	}
	for errno, e := range wrong {
		no, yes, null, number := ex("a"), ex("b"), ex("c"), ex("d")
		for _, one := range []struct {
			kind, op int
			left     api.Expr
			want     outcome
		}{
			{api.EBin, api.And, no, outcome{v: row[0]}}, {api.EBin, api.And, yes, outcome{e: errno}}, {api.EBin, api.And, null, outcome{e: errno}}, {api.EBin, api.And, number, outcome{e: errno}},
			{api.EBin, api.Or, yes, outcome{v: row[1]}}, {api.EBin, api.Or, no, outcome{e: errno}}, {api.EBin, api.Or, null, outcome{e: errno}}, {api.EBin, api.Or, number, outcome{e: errno}},
			{api.ECall, api.Coalesce, null, outcome{e: errno}}, {api.ECall, api.Coalesce, no, outcome{v: row[0]}}, {api.ECall, api.Coalesce, yes, outcome{v: row[1]}}, {api.ECall, api.Coalesce, number, outcome{v: row[3]}},
			// none of these decides: And and Or alone are of two truths
			{api.EBin, api.Eq, no, outcome{e: errno}}, {api.EBin, api.Mul, number, outcome{e: errno}}, {api.EBin, api.Add, null, outcome{e: errno}}, {api.EBin, api.Cat, null, outcome{e: errno}}, {api.EBin, api.Eq, null, outcome{e: errno}}, {api.EBin, api.Ge, yes, outcome{e: errno}}, {api.EBin, api.Cat, number, outcome{e: errno}},
		} {
			check(t, with(one.kind, one.op, one.left, e), row, nil, one.want)
			check(t, with(one.kind, one.op, e, one.left), row, nil, outcome{e: errno})
		}
		check(t, with(api.ECall, api.Substr, null, e, e), row, nil, outcome{e: errno})
		check(t, with(api.ECall, api.Substr, null, null, e), row, nil, outcome{e: errno})
	}
	checkAll(t, row, nil, map[string]string{
		"a and b and 1 / 0 = 1": "FALSE", "b and a and 1 / 0 = 1": "FALSE", "b and b and 1 / 0 = 1": "error 41", "b and (a and 1 / 0 = 1)": "FALSE", "c and a and 1 / 0 = 1": "FALSE", "a or c and nope": "error 2", "a or a and nope": "FALSE", "b or nope and 1 / 0 = 1": "TRUE", "not (b or nope)": "FALSE", "not b or nope": "error 2",
		"coalesce(coalesce(c, d), nope)": "0", "coalesce(c, coalesce(d, nope))": "0", "coalesce(coalesce(c, c), nope)": "error 2", "coalesce(a and nope, nope)": "FALSE", "coalesce(c or nope, 1)": "error 2", "d = 0 or 1 / d = 1": "TRUE", "d <> 0 and 1 / d = 1": "FALSE", "d = 0 and 1 / d = 1": "error 41",
	})
}

// 16.1: operands are worked out from the left to the right: the first error counts.
func TestOrder(t *testing.T) {
	row := rowOf(intOf(7), textOf("x"), api.Value{})
	wrong := []api.Expr{ex("1 / 0"), ex("9223372036854775807 + 1"), ex("1 + 'x'"), ex("nope"), ex("sum(a)"), {}, with(api.EUnary, 99, ex("a")), ex("'" + strings.Repeat("x", api.MaxRow) + "' || 'y'")}
	for i, one := range wrong {
		first := plain(one, row, nil)
		if first.e == api.OK {
			t.Fatalf("%s: no error", tell(one))
		}
		for op := api.Neg; op <= api.Not; op++ {
			check(t, with(api.EUnary, op, one), row, nil, first)
		}
		for op := range 2 {
			check(t, with(api.ENull, op, one), row, nil, first)
		}
		for _, right := range []api.Expr{ex("a"), ex("b"), ex("c"), wrong[(i+1)%len(wrong)], wrong[(i+3)%len(wrong)], wrong[(i+5)%len(wrong)]} {
			for op := api.Or; op <= api.Cat; op++ {
				check(t, with(api.EBin, op, one, right), row, nil, first)
				// of NULL nothing is decided, and the type is looked at last
				check(t, with(api.EBin, op, with(api.EBin, op, ex("c"), one), right), row, nil, first)
				check(t, with(api.EBin, op, ex("c"), with(api.EBin, op, one, right)), row, nil, first)
			}
			check(t, with(api.ECall, api.Coalesce, one, right), row, nil, first)
			check(t, with(api.ECall, api.Coalesce, ex("c"), with(api.ECall, api.Coalesce, one, right)), row, nil, first)
			check(t, with(api.ECall, api.Substr, one, right, ex("nope")), row, nil, first)
			check(t, with(api.ECall, api.Substr, ex("b"), one, right), row, nil, first)
			check(t, with(api.ECall, api.Substr, ex("a"), ex("b"), one), row, nil, first)
		}
	}
	checkAll(t, row, nil, map[string]string{
		"1 / 0 + nope": "error 41", "nope + 1 / 0": "error 2", "count(*) + nope": "error 36", "'x' + 1 / 0": "error 41", "('x' + 1) / nope": "error 35", "1 / 0 = 9223372036854775807 * 2": "error 41", "9223372036854775807 * 2 = 1 / 0": "error 40", "a + b + nope": "error 35", "a + (b + nope)": "error 2", "substr(nope, 1 / 0, count(*))": "error 2", "substr(1, 1 / 0, count(*))": "error 41",
	})
}

// noneSuch is expressions for which Print writes nothing.
func noneSuch() []api.Expr {
	one := ex("1")
	l := []api.Expr{{}, with(0, 0, one), with(8, 0), with(8, 1, one), with(-1, 0), with(math.MaxInt, api.Add, one, one), with(math.MinInt, 0), {Kind: api.ECol}, {Kind: api.ECol, Col: 1}, with(api.ELit, 1), with(api.ELit, 0, one)}
	for _, op := range []int{math.MinInt, -1, 0, 3, 4, 11, 17, math.MaxInt} {
		l = append(l, with(api.EUnary, op, one))
	}
	for _, op := range []int{math.MinInt, -1, 0, 1, 2, 17, math.MaxInt} {
		l = append(l, with(api.EBin, op, one, one))
	}
	for _, op := range []int{math.MinInt, -1, 0, 7, math.MaxInt} {
		l = append(l, with(api.ECall, op), with(api.ECall, op, one), with(api.ECall, op, one, one), with(api.EAgg, op), with(api.EAgg, op, one))
	}
	for _, op := range []int{math.MinInt, -1, 2, math.MaxInt} {
		l = append(l, with(api.ENull, op, one))
	}
	for kind, ops := range map[int][]int{api.EUnary: {1, 2}, api.EBin: {3, 4, 5, 6, 7, 8, 9, 10, 11, 12, 13, 14, 15, 16}, api.ECall: {1, 2, 3, 4, 5, 6}, api.EAgg: {1, 2, 3, 4}, api.ENull: {0, 1}} {
		for _, op := range ops {
			for n := range 5 {
				if e := with(kind, op, []api.Expr{one, one, one, one}[:n]...); expr.Print(e) == "" {
					l = append(l, e)
				}
			}
		}
	}
	column := with(api.ECol, 1)
	column.Name = "a"
	of := with(api.ECol, 0, one)
	of.Name, of.Table = "a", "t"
	return append(l, column, of)
}

// 16.1: what Print writes nothing for is no expression, also as an operand, where
// it is met; it is told ahead of what is wrong with its own operands.
func TestNoneSuch(t *testing.T) {
	row := rowOf(intOf(1), boolOf(0), boolOf(1), api.Value{})
	kind, divide := outcome{e: api.ErrKind}, outcome{e: api.ErrDivide}
	wrong := ex("1 / 0")
	for _, e := range noneSuch() {
		if expr.Print(e) != "" {
			t.Fatalf("Print of %+v: %s", e, expr.Print(e))
		}
		check(t, e, row, nil, kind)
		check(t, e, nil, nil, kind)
		check(t, with(api.EUnary, api.Neg, e), row, nil, kind)
		check(t, with(api.ENull, 0, e), row, nil, kind)
		check(t, with(api.ENull, 1, e), row, nil, kind)
		check(t, with(api.EBin, api.Add, e, wrong), row, nil, kind)
		check(t, with(api.EBin, api.Add, wrong, e), row, nil, divide)
		check(t, with(api.EBin, api.Cat, ex("a"), e), row, nil, kind)
		check(t, with(api.EBin, api.And, ex("b"), e), row, nil, outcome{v: row[1]})
		check(t, with(api.EBin, api.Or, ex("c"), e), row, nil, outcome{v: row[2]})
		check(t, with(api.ECall, api.Coalesce, ex("a"), e), row, nil, outcome{v: row[0]})
		check(t, with(api.ECall, api.Coalesce, ex("d"), e), row, nil, kind)
		check(t, with(api.ECall, api.Abs, e), row, nil, kind)
		check(t, with(api.EAgg, api.Sum, e), row, nil, outcome{e: api.ErrGroup})
		if len(e.Args) > 0 {
			e.Args = append([]api.Expr{}, e.Args...)
			e.Args[0] = wrong
			check(t, e, row, nil, kind)
			e.Args[len(e.Args)-1] = ex("count(*)")
			check(t, e, row, nil, kind)
		}
	}
}

// 16.1: what is known counts ahead of all else, as a whole and as a part; of
// several that are the same, the first.
func TestKnown(t *testing.T) {
	row := rowOf(intOf(7), boolOf(0))
	known := []Known{
		{ex("a + 1"), intOf(100)}, {ex("1 / 0"), intOf(5)}, {ex("a + 1"), intOf(200)}, {ex("sum(a)"), intOf(40)}, {ex("count(*)"), api.Value{}}, {ex("x"), textOf("x")}, {ex("t.a"), intOf(70)}, {ex("3"), textOf("three")}, {ex("null"), intOf(9)}, {ex("- 'x'"), boolOf(1)}, {ex("c is null"), boolOf(0)}, {ex("length(b)"), intOf(-3)}, {ex("b and nope"), boolOf(1)}, {ex("min(a) + 1"), intOf(60)},
	}
	checkAll(t, row, known, map[string]string{
		"a + 1": "100", "1 + a": "8", "a + 2": "9", "a - 1": "6", "u.a + 1": "8", "a + 1 + 1": "101", "(a + 1) * (a + 1)": "10000", "a + (1 + 1)": "9",
		"1 / 0": "5", "1 / 0 + 1 / 0": "10", "2 / 0": "error 41", "1 % 0": "error 41", "coalesce(null, 1)": "9",
		"sum(a)": "40", "sum(a) + 1": "41", "sum(b)": "error 36", "sum(a + 1)": "error 36", "sum(u.a)": "error 36", "max(a)": "error 36", "count(*)": "NULL", "count(*) is null": "TRUE", "count(a)": "error 36", "min(a) + 1": "60", "min(a)": "error 36", "min(a) + 2": "error 36", "- (min(a) + 1)": "-60", "sum(sum(a))": "error 36",
		"x": "'x'", "x || 'y'": "'xy'", "t.x": "error 2", "t.a": "70", "a": "7", "u.a": "7", "t.a + a": "77",
		"3": "'three'", "3 || ''": "'three'", "3 + 1": "error 35", "'3'": "'3'", "null": "9", "null is null": "FALSE", "- 'x'": "TRUE", "not - 'x'": "FALSE", "- 'y'": "error 35",
		"c is null": "FALSE", "c is not null": "error 2", "length(b)": "-3", "length(a)": "error 35", "abs(length(b))": "3", "b and nope": "TRUE", "nope and b": "error 2", "b and nope and nope": "error 2", "not (b and nope)": "FALSE",
	})
	check(t, ex("a"), nil, []Known{{ex("b"), intOf(1)}, {ex("a"), intOf(2)}, {ex("a"), intOf(3)}, {ex("a"), intOf(4)}}, outcome{v: intOf(2)})
	check(t, ex("b"), nil, []Known{{ex("b"), api.Value{}}, {ex("b"), intOf(2)}}, outcome{})
	// its value is what it is: it is not looked for among the known ones again
	check(t, ex("a"), row, []Known{{ex("a"), intOf(1)}, {ex("1"), intOf(2)}}, outcome{v: intOf(1)})
	for _, v := range oneOfEach() {
		check(t, ex("nope"), row, []Known{{ex("nope"), v}}, outcome{v: v})
		null := boolOf(0)
		if v.Kind == api.Null {
			null = boolOf(1)
		}
		check(t, ex("nope is null"), row, []Known{{ex("nope"), v}}, outcome{v: null})
	}
	// a known one decides as any other does
	checkAll(t, row, []Known{{ex("nope"), boolOf(0)}, {ex("1 / 0"), boolOf(1)}, {ex("count(*)"), api.Value{}}}, map[string]string{
		"nope and 2 / 0 = 1": "FALSE", "1 / 0 or 2 / 0 = 1": "TRUE", "1 / 0 and nope": "FALSE", "nope or 2 / 0 = 1": "error 41", "coalesce(count(*), 2 / 0)": "error 41", "coalesce(nope, 2 / 0)": "FALSE", "count(*) and nope": "FALSE", "count(*) + 1": "NULL", "1 / 0 is null": "FALSE",
	})
}

// 16.1: what does not matter for whether expressions are the same (expr.Same), and
// what does.
func TestKnownSame(t *testing.T) {
	is := outcome{v: textOf("known")}
	e := api.Expr{Kind: api.EBin, Op: api.Add, Args: []api.Expr{{Kind: api.ECol, Table: "t", Name: "a", Col: 0, Type: api.Int}, {Kind: api.ELit, Value: intOf(1), Type: api.Int}}, Type: api.Int}
	row := rowOf(intOf(7), intOf(8))
	of := func(change func(e *api.Expr)) []Known {
		made := e
		made.Args = append([]api.Expr{}, e.Args...)
		change(&made)
		return []Known{{made, is.v}}
	}
	for _, change := range []func(e *api.Expr){
		func(e *api.Expr) {}, func(e *api.Expr) { e.Type, e.Col = api.Text, 9 }, func(e *api.Expr) { e.Args[0].Col = 1 }, func(e *api.Expr) { e.Args[0].Type = api.Null }, func(e *api.Expr) { e.Args[1].Col, e.Args[1].Type = -1, 99 }, func(e *api.Expr) { e.Args[1].Args = []api.Expr{} },
	} {
		check(t, e, row, of(change), is)
		check(t, e, nil, of(change), is)
	}
	for _, change := range []func(e *api.Expr){
		func(e *api.Expr) { e.Kind = api.ECall }, func(e *api.Expr) { e.Op = api.Sub }, func(e *api.Expr) { e.Value = intOf(1) }, func(e *api.Expr) { e.Table = "t" }, func(e *api.Expr) { e.Name = "n" }, func(e *api.Expr) { e.Args = e.Args[:1] }, func(e *api.Expr) { e.Args = nil }, func(e *api.Expr) { e.Args = append(e.Args, ex("1")) }, func(e *api.Expr) { e.Args[0], e.Args[1] = e.Args[1], e.Args[0] },
		func(e *api.Expr) { e.Args[0].Table = "" }, func(e *api.Expr) { e.Args[0].Name = "b" }, func(e *api.Expr) { e.Args[1].Value = boolOf(1) }, func(e *api.Expr) { e.Args[1].Value = intOf(2) }, func(e *api.Expr) { e.Args[1].Value = textOf("1") },
	} {
		check(t, e, row, of(change), outcome{v: intOf(8)})
	}
}

// 16.1: one that Print writes nothing for may be known, too.
func TestKnownNone(t *testing.T) {
	row := rowOf(intOf(7))
	for _, e := range noneSuch() {
		known := []Known{{ex("b"), intOf(1)}, {e, intOf(2)}, {e, intOf(3)}}
		check(t, e, row, known, outcome{v: intOf(2)})
		check(t, with(api.EUnary, api.Neg, e), row, known, outcome{v: intOf(-2)})
		check(t, with(api.EBin, api.Mul, ex("a"), e), row, known, outcome{v: intOf(14)})
		check(t, with(api.EAgg, api.Sum, e), row, known, outcome{e: api.ErrGroup})
		// what is around it is none for all that
		check(t, with(api.EUnary, api.And, e), row, known, outcome{e: api.ErrKind})
		check(t, with(api.ECall, api.Abs, e, e), row, known, outcome{e: api.ErrKind})
	}
	check(t, api.Expr{}, nil, []Known{{}}, outcome{})
	check(t, ex("a"), row, []Known{{}}, outcome{v: row[0]})
}

// R2: with an error there is no value beside it.
func TestNothingBeside(t *testing.T) {
	row := rowOf(intOf(7), textOf("x"))
	for _, text := range []string{"a / 0", "a + b", "nope", "count(*)", "a + (b || b || a)", "coalesce(a / 0, 1)", "b || b || 1 / 0", "a = a and a"} {
		if v, e := Eval(ex(text), row, nil); e == api.OK || v != (api.Value{}) {
			t.Errorf("%s: %s, error %d", text, value.Literal(v), e)
		}
	}
}
