package names

import (
	"fmt"
	"math"
	"strings"
	"testing"

	"quarry/api"
	"quarry/calc"
	"quarry/expr"
)

// A literal of each type, from Null on, and a column of t; no column is of Null.
var (
	literals  = []string{"null", "true", "2", "'x'", "x'00'"}
	columnsOn = []string{"null", "d", "a", "b", "c"}
)

// values are right ones of each type, from Null on.
func values() []api.Value {
	return []api.Value{{}, {Kind: api.Bool, Int: 1}, {Kind: api.Int, Int: 2}, {Kind: api.Text, Text: "x"}, {Kind: api.Blob, Text: "\x00"}}
}

// worth is what calc makes of values as operands.
func worth(e api.Expr, operands []api.Value) (api.Value, api.Errno) {
	switch e.Kind {
	case api.EUnary:
		return calc.Unary(e.Op, operands[0])
	case api.EBin:
		return calc.Binary(e.Op, operands[0], operands[1])
	}
	return calc.Call(e.Op, operands)
}

// checkTypes looks at an operator or a function over operands of all types: it is
// of the type of what calc makes of them, and refused if they are.
func checkTypes(t *testing.T, kind, op, operands int) {
	t.Helper()
	for n := range int(math.Pow(5, float64(operands))) {
		types := []int{n % 5, n / 5 % 5, n / 25}[:operands]
		// a text and a column of it say the same
		for _, spelt := range [][]string{literals, columnsOn} {
			e := api.Expr{Kind: kind, Op: op}
			for _, typ := range types {
				e.Args = append(e.Args, ex(spelt[typ]))
			}
			want := wanted(e, types)
			q := api.Stmt{Kind: api.SSelect, Limit: -1, From: []api.From{{Table: "t", Alias: "t"}}, Items: []api.Item{{Expr: e}}}
			if want < 0 {
				checkResolve(t, some(), q, api.ErrType)
				continue
			}
			made := checkResolve(t, some(), q, api.OK)
			if got := made.Items[0].Expr; got.Type != want || got.Args[0].Type != types[0] {
				t.Errorf("%s: %s, want type %d", expr.Print(e), tell(got), want)
			}
		}
	}
}

// wanted is the type of an expression whose operands have some types, by what it
// is worth over values of these; below 0, if they are refused. NULL stands for a
// value of any type: what is worth NULL itself is of the type that others make.
func wanted(e api.Expr, types []int) int {
	var row []api.Value
	for _, typ := range types {
		row = append(row, values()[typ])
	}
	v, errno := worth(e, row)
	if errno == api.ErrType {
		return -1
	}
	if v.Kind != api.Null || e.Kind == api.ECall && e.Op == api.Coalesce {
		return v.Kind
	}
	for i, typ := range types {
		if typ != api.Null {
			continue
		}
		for other := api.Bool; other <= api.Blob; other++ {
			changed := append([]int{}, types...)
			changed[i] = other
			if typ := wanted(e, changed); typ >= 0 {
				return typ
			}
		}
	}
	return -1
}

// 15.1: operators and functions, with operands of every type, and NULL.
func TestTypes(t *testing.T) {
	for op := api.Neg; op <= api.Not; op++ {
		checkTypes(t, api.EUnary, op, 1)
	}
	for op := api.Or; op <= api.Cat; op++ {
		checkTypes(t, api.EBin, op, 2)
	}
	for f := api.Length; f <= api.Coalesce; f++ {
		checkTypes(t, api.ECall, f, calc.Args(f))
	}
}

// 15.1: the same, written out: what each operator takes, and makes.
func TestTypesPlainly(t *testing.T) {
	letter := map[rune]string{'N': "null", 'B': "d", 'I': "a", 'T': "b", 'X': "c"}
	for form, makes := range map[string]string{
		"- %s":       "N:I I:I B T X",
		"not (%s)":   "N:B B:B I T X",
		"%s is null": "N:B B:B I:B T:B X:B", "%s is not null": "N:B B:B I:B T:B X:B",
		"length(%s)": "N:I T:I X:I B I",
		"abs(%s)":    "N:I I:I B T X",
		"upper(%s)":  "N:T T:T B I X", "lower(%s)": "N:T T:T B I X",
		"count(%s)": "N:I B:I I:I T:I X:I",
		"sum(%s)":   "N:I I:I B T X",
		"min(%s)":   "N:N B:B I:I T:T X:X", "max(%s)": "N:N B:B I:I T:T X:X",
		"%s or %s": "NN:B NB:B BN:B BB:B NI IN BI IB II TT XX BT XB", "%s and %s": "NN:B NB:B BN:B BB:B NI IN BI IB II TT XX BT XB",
		"%s = %s":  "NN:B NB:B NI:B NT:B NX:B BN:B IN:B TN:B XN:B BB:B II:B TT:B XX:B BI IB BT TB BX XB IT TI IX XI TX XT",
		"%s <= %s": "NN:B NB:B NI:B NT:B NX:B BN:B IN:B TN:B XN:B BB:B II:B TT:B XX:B BI IB BT TB BX XB IT TI IX XI TX XT",
		"%s + %s":  "NN:I NI:I IN:I II:I NB BN BB IB BI TT XX IT TI XI", "%s %% %s": "NN:I NI:I IN:I II:I NB BN BB IB BI TT XX IT TI XI",
		"%s || %s":           "NN:T NT:T TN:T TT:T NB BN BB II TI IT XX TX XT NX",
		"coalesce(%s, %s)":   "NN:N NB:B BN:B NI:I IN:I NT:T TN:T NX:X XN:X BB:B II:I TT:T XX:X BI IB BT TB BX XB IT TI IX XI TX XT",
		"substr(%s, %s, %s)": "NNN:T TNN:T TIN:T TNI:T TII:T NII:T NIN:T INN III XII BII TTI TIT TXN TNB TBI",
	} {
		for _, one := range strings.Fields(makes) {
			operands, typ, right := strings.Cut(one, ":")
			var spelt []any
			for _, r := range operands {
				spelt = append(spelt, letter[r])
			}
			text := "select " + fmt.Sprintf(form, spelt...) + " from t"
			if !right {
				checkError(t, api.ErrType, text)
				continue
			}
			made := checkResolve(t, some(), parsed(t, text), api.OK)
			if got := tell(made.Items[0].Expr); !strings.HasSuffix(got, ":"+typ) {
				t.Errorf("%q: %s, want %s", text, got, typ)
			}
		}
	}
}

// 15.3: an error does not hang on values, nor on whether a column may be NULL: it
// is no error here that they would be one.
func TestValuesDoNotMatter(t *testing.T) {
	checkError(t, api.OK, "select 1 / 0, - 9223372036854775807 - 2, a % 0 from t", "select substr('x', - 1, - 1), abs(9223372036854775807 + 1)", "select 1 where null = null", "select 'x' || '"+strings.Repeat("y", 3000)+"'",
		"insert into t values (null, null, null, null)", "insert into t (b) values ('x')", "insert into t values (1 / 0, 'x', null, 1 < 0)", "update t set a = null", "update u set e = coalesce(null, null)", "select 1 limit 0 offset 2147483647")
	nullable := some()
	for i := range nullable.Tables {
		for j := range nullable.Tables[i].Cols {
			c := &nullable.Tables[i].Cols[j]
			c.NotNull = !c.NotNull
		}
	}
	for _, text := range []string{"select a, b is null from t", "select a + b from t", "insert into t values (null, 'x', null, null)", "insert into t (a) values ('x')", "update t set a = null where a is null", "update t set a = b"} {
		q := parsed(t, text)
		made, e := Resolve(some(), q)
		other, f := Resolve(nullable, q)
		if e != f || !same(made, other) {
			t.Errorf("%q: %s, error %d, and %s, error %d", text, dump(made), e, dump(other), f)
		}
	}
}

// with is an expression of a kind, over some operands.
func with(kind, op int, operands ...string) api.Expr {
	e := api.Expr{Kind: kind, Op: op}
	for _, text := range operands {
		e.Args = append(e.Args, ex(text))
	}
	return e
}

// noneSuch are expressions for which Print writes nothing.
func noneSuch() []api.Expr {
	l := []api.Expr{{}, with(0, 0, "1"), with(8, 0), with(8, 1, "1"), with(-1, 0), with(math.MaxInt, api.Add, "1", "2"), with(math.MinInt, 0)}
	for _, op := range []int{math.MinInt, -1, 0, 3, 11, 17, math.MaxInt} {
		l = append(l, with(api.EUnary, op, "1"))
	}
	for _, op := range []int{math.MinInt, -1, 0, 1, 2, 17, math.MaxInt} {
		l = append(l, with(api.EBin, op, "1", "1"), with(api.EBin, op, "true", "true"))
	}
	for _, op := range []int{-1, 0, 7, math.MaxInt} {
		l = append(l, with(api.ECall, op), with(api.ECall, op, "1"))
	}
	for _, op := range []int{-1, 0, 5, math.MaxInt} {
		l = append(l, with(api.EAgg, op), with(api.EAgg, op, "1"))
	}
	l = append(l, with(api.EUnary, api.Neg), with(api.EUnary, api.Neg, "1", "1"), with(api.EUnary, api.Not), with(api.EBin, api.Add), with(api.EBin, api.Add, "1"), with(api.EBin, api.Add, "1", "1", "1"), with(api.EBin, api.Eq), with(api.EBin, api.Eq, "1"), with(api.EBin, api.And, "true"), with(api.EBin, api.Cat, "'x'"),
		with(api.ENull, 0), with(api.ENull, 0, "1", "1"), with(api.ENull, 2, "1"), with(api.ENull, -1, "1"),
		with(api.ECall, api.Length), with(api.ECall, api.Length, "'x'", "'x'"), with(api.ECall, api.Abs), with(api.ECall, api.Upper), with(api.ECall, api.Coalesce), with(api.ECall, api.Coalesce, "1"), with(api.ECall, api.Coalesce, "1", "1", "1"), with(api.ECall, api.Substr), with(api.ECall, api.Substr, "'x'"), with(api.ECall, api.Substr, "'x'", "1"), with(api.ECall, api.Substr, "'x'", "1", "1", "1"),
		with(api.EAgg, api.Count, "1", "1"), with(api.EAgg, api.Sum), with(api.EAgg, api.Sum, "1", "1"), with(api.EAgg, api.Min), with(api.EAgg, api.Max, "1", "1"),
		with(api.ELit, 1), with(api.ELit, 0, "1"), with(api.ECol, 0, "1"))
	for _, v := range []api.Value{{Kind: 5}, {Kind: -1}, {Int: 1}, {Text: "x"}, {Kind: api.Bool, Int: 2}, {Kind: api.Int, Text: "x"}, {Kind: api.Text, Int: 1}} {
		l = append(l, api.Expr{Kind: api.ELit, Value: v})
	}
	named := with(api.ECol, 1)
	named.Table, named.Name = "t", "a"
	return append(l, named, with(api.EAgg, api.Count, "1", "1", "1"))
}

// 15.1: what Print writes nothing for is no expression, wherever it stands;
// its operands are met ahead of it, but not those of an aggregate that may not
// stand there.
func TestNoneSuch(t *testing.T) {
	from := []api.From{{Table: "t", Alias: "t"}}
	inItems := func(e api.Expr) api.Stmt {
		return api.Stmt{Kind: api.SSelect, Limit: -1, From: from, Items: []api.Item{{Expr: e}}}
	}
	for _, e := range noneSuch() {
		if expr.Print(e) != "" {
			t.Fatalf("Print of %+v: %s", e, expr.Print(e))
		}
		within := []api.Expr{e, with(api.EUnary, api.Neg), with(api.EBin, api.Add, "1"), with(api.EBin, api.Eq, "a"), with(api.ENull, 0), with(api.ECall, api.Coalesce, "nope")}
		within[1].Args, within[2].Args, within[3].Args, within[4].Args = []api.Expr{e}, append(within[2].Args, e), append(within[3].Args, e), []api.Expr{e}
		within[5].Args = []api.Expr{e, within[5].Args[0]}
		for _, e := range within {
			checkResolve(t, some(), inItems(e), api.ErrKind)
			checkResolve(t, some(), api.Stmt{Kind: api.SSelect, Limit: -1, From: from, Order: []api.Order{{Expr: e}}}, api.ErrKind)
			want := api.ErrKind
			if hasAggregate(e) {
				want = api.ErrGroup
			}
			one := []api.Expr{e}
			checkResolve(t, some(), api.Stmt{Kind: api.SSelect, Limit: -1, From: from, Where: one}, want)
			checkResolve(t, some(), api.Stmt{Kind: api.SSelect, Limit: -1, From: from, Group: one}, want)
			checkResolve(t, some(), api.Stmt{Kind: api.SDelete, Name: "t", Where: one}, want)
			checkResolve(t, some(), api.Stmt{Kind: api.SUpdate, Name: "t", Sets: []api.Set{{Name: "a", Expr: e}}}, want)
			if !strings.Contains(expr.Print(e), "a") {
				checkResolve(t, some(), api.Stmt{Kind: api.SInsert, Name: "t", Names: []string{"a"}, Rows: [][]api.Expr{one}}, want)
			}
		}
	}
	checkResolve(t, some(), inItems(with(api.EBin, 99, "nope", "1")), api.ErrColumn)
	checkResolve(t, some(), inItems(with(99, 0, "1", "t.nope", "no.a")), api.ErrColumn)
	checkResolve(t, some(), inItems(with(api.EUnary, 99, "1 + 'x'")), api.ErrType)
	checkResolve(t, some(), inItems(with(api.EAgg, 99, "count(*)")), api.ErrGroup)
	checkResolve(t, some(), inItems(with(api.EAgg, api.Sum, "1", "nope")), api.ErrColumn)
}

func hasAggregate(e api.Expr) bool {
	for _, a := range e.Args {
		if hasAggregate(a) {
			return true
		}
	}
	return e.Kind == api.EAgg
}
