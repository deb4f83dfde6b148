package eval

import (
	"math"
	"math/rand"
	"slices"
	"strings"
	"testing"

	"quarry/api"
	"quarry/calc"
	"quarry/expr"
	"quarry/lexer"
	"quarry/names"
	"quarry/value"
)

// table is the one whose rows the tests below go over.
func table() api.Table {
	return api.Table{Id: 1, Name: "t", Cols: []api.Column{{Name: "a", Type: api.Int}, {Name: "b", Type: api.Text}, {Name: "c", Type: api.Blob}, {Name: "d", Type: api.Bool}, {Name: "e", Type: api.Int}, {Name: "f", Type: api.Text}}}
}

// resolved is an expression with its places and types, and the aggregates in it,
// if it is right over the table.
func resolved(e api.Expr) (api.Expr, []api.Expr, api.Errno) {
	q := api.Stmt{Kind: api.SSelect, Limit: -1, From: []api.From{{Table: "t", Alias: "t"}}, Items: []api.Item{{Expr: e}}}
	made, errno := names.Resolve(api.Schema{Tables: []api.Table{table()}}, q)
	if errno == api.ErrGroup && len(names.Aggregates(q)) > 0 {
		// columns may stand beside an aggregate if there are groups by them
		for _, c := range table().Cols {
			q.Group = append(q.Group, api.Expr{Kind: api.ECol, Name: c.Name}, api.Expr{Kind: api.ECol, Table: "t", Name: c.Name})
		}
		made, errno = names.Resolve(api.Schema{Tables: []api.Table{table()}}, q)
	}
	if errno != api.OK {
		return api.Expr{}, nil, errno
	}
	return made.Items[0].Expr, names.Aggregates(made), api.OK
}

// chance makes expressions that are right over the table, but for slips that come
// seldom.
type chance struct {
	*rand.Rand
	slips int // one choice of so many is a slip
}

func newChance(seed int64, slips int) *chance {
	return &chance{rand.New(rand.NewSource(seed)), slips}
}

func (c *chance) slip() bool { return c.Intn(c.slips) == 0 }

func one[T any](c *chance, l ...T) T { return l[c.Intn(len(l))] }

func (c *chance) typ() int { return api.Bool + c.Intn(4) }

// value is one of a type, or NULL.
func (c *chance) value(typ int) api.Value {
	if typ == api.Null || c.Intn(5) == 0 {
		return api.Value{}
	}
	switch typ {
	case api.Bool:
		return boolOf(int64(c.Intn(2)))
	case api.Int:
		return intOf(one(c, 0, 0, 0, 1, 2, -1, 7, 1<<32, math.MaxInt64, math.MinInt64, math.MinInt64+1, int64(c.Uint64())))
	}
	text := one(c, "", "a", "Zz", "\x00\xff", "it's", strings.Repeat("x", 700), strings.Repeat("y", api.MaxRow))
	return api.Value{Kind: typ, Text: text}
}

func (c *chance) row() []api.Value {
	var row []api.Value
	for _, col := range table().Cols {
		row = append(row, c.value(col.Type))
	}
	return row
}

func (c *chance) leaf(typ int) api.Expr {
	var l []string
	for _, col := range table().Cols {
		if col.Type == typ {
			l = append(l, col.Name)
		}
	}
	switch {
	case c.slip():
		return one(c, ex("nope"), ex("below"), ex("count(*)"), api.Expr{}, api.Expr{Kind: api.ECol}, ex("g"))
	case len(l) > 0 && c.Intn(3) > 0:
		return ex(one(c, "", "t.") + one(c, l...))
	}
	return api.Expr{Kind: api.ELit, Value: c.value(typ)}
}

// of is an expression of a kind over operands of some types.
func (c *chance) of(deep int, aggregates bool, kind, op int, types ...int) api.Expr {
	e := api.Expr{Kind: kind, Op: op}
	for _, typ := range types {
		e.Args = append(e.Args, c.expr(typ, c.Intn(deep), aggregates))
	}
	if c.slip() {
		switch c.Intn(4) {
		case 0:
			e.Op = c.Intn(19) - 1
		case 1:
			e.Kind = c.Intn(10)
		case 2:
			e.Args = e.Args[1:]
		case 3:
			e.Args = append(e.Args, e.Args[0])
		}
	}
	return e
}

// expr is an expression of a type, or one that goes as it.
func (c *chance) expr(typ, deep int, aggregates bool) api.Expr {
	if c.slip() {
		typ = c.typ()
	}
	if deep == 0 {
		return c.leaf(typ)
	}
	any := c.typ()
	switch {
	case aggregates && c.Intn(6) == 0 && typ == api.Int:
		return one(c, c.of(deep, c.slip(), api.EAgg, api.Sum, typ), c.of(deep, c.slip(), api.EAgg, api.Count, any), ex("count(*)"))
	case aggregates && c.Intn(6) == 0:
		return c.of(deep, c.slip(), api.EAgg, one(c, api.Min, api.Max), typ)
	case c.Intn(8) == 0 || typ == api.Blob:
		return c.of(deep, aggregates, api.ECall, api.Coalesce, typ, typ)
	}
	switch typ {
	case api.Bool:
		switch c.Intn(4) {
		case 0:
			return c.of(deep, aggregates, api.EUnary, api.Not, typ)
		case 1:
			return c.of(deep, aggregates, api.ENull, c.Intn(2), any)
		case 2:
			return c.of(deep, aggregates, api.EBin, api.Eq+c.Intn(6), any, any)
		}
		return c.of(deep, aggregates, api.EBin, one(c, api.And, api.Or), typ, typ)
	case api.Text:
		switch c.Intn(3) {
		case 0:
			return c.of(deep, aggregates, api.EBin, api.Cat, typ, typ)
		case 1:
			return c.of(deep, aggregates, api.ECall, one(c, api.Upper, api.Lower), typ)
		}
		return c.of(deep, aggregates, api.ECall, api.Substr, typ, api.Int, api.Int)
	}
	switch c.Intn(4) {
	case 0:
		return c.of(deep, aggregates, api.EUnary, api.Neg, typ)
	case 1:
		return c.of(deep, aggregates, api.ECall, api.Abs, typ)
	case 2:
		return c.of(deep, aggregates, api.ECall, api.Length, one(c, api.Text, api.Blob))
	}
	return c.of(deep, aggregates, api.EBin, api.Add+c.Intn(5), typ, typ)
}

// parts is an expression and all that stands within it.
func parts(e api.Expr) []api.Expr {
	l := []api.Expr{e}
	for _, a := range e.Args {
		l = append(l, parts(a)...)
	}
	return l
}

// known is some parts of an expression, and others, with values by chance.
func (c *chance) known(e api.Expr) []Known {
	var l []Known
	all := parts(e)
	for range c.Intn(4) {
		l = append(l, Known{one(c, one(c, all...), ex("b"), ex("a + 1"), ex("count(*)")), c.value(c.typ())})
	}
	return l
}

// worthOf is aggregates with values of their types, or NULL.
func (c *chance) worthOf(aggregates []api.Expr) []Known {
	var l []Known
	for _, a := range aggregates {
		l = append(l, Known{a, c.value(a.Type)})
	}
	return l
}

// checkTally looks whether each error has come often enough for the test to mean
// something.
func checkTally(t *testing.T, told map[api.Errno]int, least int, errors ...api.Errno) {
	t.Helper()
	t.Log(told)
	for _, e := range errors {
		if told[e] < least {
			t.Errorf("error %d came just %d times", e, told[e])
		}
	}
}

// 16.1: expressions by chance, with slips, and with parts that are known.
func TestByChance(t *testing.T) {
	t.Parallel()
	told := map[api.Errno]int{}
	for seed, slips := range []int{5, 20, 100} {
		c := newChance(int64(seed), slips)
		for range 20000 {
			e := placed(c.expr(c.typ(), c.Intn(5), true))
			row := c.row()
			row = row[:len(row)-c.Intn(2)*c.Intn(len(row)+1)]
			for _, known := range [][]Known{nil, c.known(e)} {
				want := plain(e, row, known)
				hold(t, e, row, known, want)
				told[want.e]++
			}
			if t.Failed() {
				return
			}
		}
	}
	checkTally(t, told, 100, api.OK, api.ErrKind, api.ErrRange, api.ErrGroup, api.ErrType, api.ErrOverflow, api.ErrDivide, api.ErrLong)
}

// smallOnes is all expressions of few parts.
func smallOnes() []api.Expr {
	var atoms, l []api.Expr
	for _, text := range []string{"null", "true", "false", "0", "2", "'x'", "x'00'", "a", "b", "c", "d", "g", "nope", "count(*)", "1 / 0", "d is null", "coalesce(null, a)", "sum(a)", "b || f", "- a"} {
		atoms = append(atoms, ex(text))
	}
	atoms = append(atoms, api.Expr{}, with(api.EUnary, api.And, ex("1 / 0")))
	few := []api.Expr{ex("null"), ex("b"), ex("a"), ex("1 / 0"), ex("nope"), {}}
	l = append(l, atoms...)
	for _, x := range atoms {
		for op := range 3 {
			l = append(l, with(api.EUnary, op+1, x), with(api.ENull, op, x))
		}
		for op := range 8 {
			l = append(l, with(api.ECall, op, x), with(api.EAgg, op, x))
		}
		for _, y := range atoms {
			for op := api.Not; op <= api.Cat+1; op++ {
				l = append(l, with(api.EBin, op, x, y))
			}
			l = append(l, with(api.ECall, api.Coalesce, x, y), with(api.ECall, api.Substr, x, y))
			for _, op := range []int{api.And, api.Or} {
				l = append(l, with(api.EUnary, api.Not, with(api.EBin, op, x, y)), with(api.ECall, api.Coalesce, with(api.EBin, op, x, y), x), with(api.EBin, op, with(api.ECall, api.Coalesce, x, y), y))
				for _, z := range few {
					l = append(l, with(api.EBin, op, with(api.EBin, api.Or+api.And-op, x, y), z), with(api.EBin, op, z, with(api.EBin, op, x, y)))
				}
			}
		}
	}
	for _, x := range few {
		for _, y := range few {
			for _, z := range few {
				l = append(l, with(api.ECall, api.Substr, x, y, z), with(api.EBin, api.Add, x, y, z))
			}
		}
	}
	return l
}

// smallRows is rows of the table's types.
func smallRows() [][]api.Value {
	return [][]api.Value{
		rowOf(intOf(7), textOf("ab"), blobOf("\xff"), boolOf(1), intOf(0), textOf("")), rowOf(intOf(math.MinInt64), textOf(strings.Repeat("x", api.MaxRow)), blobOf(""), boolOf(0), intOf(math.MaxInt64), textOf("y")), make([]api.Value, 6),
	}
}

// 16.1: all small expressions, with something known and without.
func TestAllSmall(t *testing.T) {
	t.Parallel()
	told := map[api.Errno]int{}
	known := []Known{{ex("sum(a)"), intOf(3)}, {ex("1 / 0"), boolOf(0)}, {api.Expr{}, api.Value{}}, {ex("2"), boolOf(1)}, {ex("sum(a)"), intOf(4)}}
	for _, e := range smallOnes() {
		for _, row := range smallRows() {
			for _, known := range [][]Known{nil, known} {
				want := plain(e, row, known)
				hold(t, e, row, known, want)
				told[want.e]++
			}
		}
		if t.Failed() {
			return
		}
	}
	checkTally(t, told, 20, api.OK, api.ErrKind, api.ErrRange, api.ErrGroup, api.ErrType, api.ErrOverflow, api.ErrDivide, api.ErrLong)
}

// hangsOn is the places of the columns whose values an expression asks for.
func hangsOn(e api.Expr, known []Known) []int {
	if slices.ContainsFunc(known, func(k Known) bool { return expr.Same(k.Expr, e) }) {
		return nil
	}
	if e.Kind == api.ECol {
		return []int{e.Col}
	}
	var l []int
	for _, a := range e.Args {
		l = append(l, hangsOn(a, known)...)
	}
	return l
}

// checkTyped looks at a resolved expression over two rows of the columns' types:
// it is worth NULL or a value of its type, fails just so, and does not hang on
// columns that are not in it.
func checkTyped(t testing.TB, e api.Expr, row, other []api.Value, known []Known) api.Errno {
	t.Helper()
	v, errno := Eval(e, row, known)
	if !slices.Contains([]api.Errno{api.OK, api.ErrOverflow, api.ErrDivide, api.ErrLong}, errno) {
		t.Errorf("%s over %s: error %d", tell(e), show(row), errno)
	}
	if v.Kind != api.Null && v.Kind != e.Type || value.Check(v) != api.OK {
		t.Errorf("%s over %s: %s, of the type %d", tell(e), show(row), show(v), e.Type)
	}
	changed := slices.Clone(other)
	for _, at := range hangsOn(e, known) {
		changed[at] = row[at]
	}
	if w, f := Eval(e, changed, known); w != v || f != errno {
		t.Errorf("%s over %s: %s, error %d, and over %s: %s, error %d", tell(e), show(row), show(v), errno, show(changed), show(w), f)
	}
	hold(t, e, row, known, plain(e, row, known))
	return errno
}

// 16.2: expressions by chance that have a type; aggregates are known.
func TestTypedByChance(t *testing.T) {
	t.Parallel()
	told := map[api.Errno]int{}
	constant := 0
	c := newChance(7, 1<<30)
	for n := range 30000 {
		typ := c.typ()
		e, aggregates, errno := resolved(c.expr(typ, c.Intn(5), n%2 == 0))
		if errno != api.OK {
			t.Fatalf("%s: error %d", tell(e), errno)
		}
		if e.Type != typ && e.Type != api.Null {
			t.Fatalf("%s: the type %d, want %d", tell(e), e.Type, typ)
		}
		known := c.worthOf(aggregates)
		for range 3 {
			told[checkTyped(t, e, c.row(), c.row(), known)]++
		}
		if len(e.Args) > 0 && len(hangsOn(e, known)) == 0 {
			constant++
		}
		if t.Failed() {
			return
		}
	}
	if constant < 1000 {
		t.Errorf("just %d hang on no column", constant)
	}
	checkTally(t, told, 200, api.OK, api.ErrOverflow, api.ErrDivide, api.ErrLong)
}

// 16.2: all small expressions that have a type.
func TestTypedSmall(t *testing.T) {
	t.Parallel()
	told := map[api.Errno]int{}
	known := []Known{{ex("sum(a)"), intOf(math.MaxInt64)}, {ex("count(*)"), intOf(0)}, {ex("max(b)"), textOf("Ab")}, {ex("min(d)"), api.Value{}}}
	typed := 0
	for _, e := range smallOnes() {
		e, aggregates, errno := resolved(e)
		if errno != api.OK {
			continue
		}
		typed++
		all := known
		for _, a := range aggregates {
			all = append(all, Known{a, api.Value{}})
		}
		rows := smallRows()
		for i, row := range rows {
			told[checkTyped(t, e, row, rows[(i+1)%len(rows)], all)]++
		}
		if t.Failed() {
			return
		}
	}
	if typed < 1000 {
		t.Errorf("just %d have a type", typed)
	}
	checkTally(t, told, 20, api.OK, api.ErrOverflow, api.ErrDivide, api.ErrLong)
}

// 16.2: what hangs on no column is worth the same over all rows, also over one
// without columns, and that of another table.
func TestConstant(t *testing.T) {
	rows := append(smallRows(), nil, rowOf(boolOf(1)), oneOfEach())
	for text, want := range map[string]string{
		"1 + 2 * 3": "7", "null": "NULL", "1 / 0": "error 41", "upper('x') || lower('Y')": "'Xy'", "9223372036854775807 + 1": "error 40", "coalesce(null, 2 > 1)": "TRUE", "not null is null": "FALSE", "substr('hello', 2, 3)": "'ell'", "length(x'0001')": "2", "true or nope": "TRUE", "1 + 'x'": "error 35", "count(*)": "error 36",
	} {
		for _, row := range rows {
			check(t, ex(text), row, nil, wantOf(want))
			check(t, ex("coalesce(max(a), "+text+")"), row, []Known{{ex("max(a)"), api.Value{}}}, wantOf(want))
		}
	}
}

// FuzzEval: 16.1, 16.2: any expression that can be read, over a row by chance.
func FuzzEval(f *testing.F) {
	c := newChance(11, 30)
	for range 100 {
		f.Add(expr.Print(c.expr(c.typ(), 3, true)), c.Int63())
	}
	f.Fuzz(func(t *testing.T, text string, seed int64) {
		l, err := lexer.Tokens(text)
		if err != nil {
			t.Skip()
		}
		e, _, err := expr.Read(l, 0)
		if err != nil {
			t.Skip()
		}
		c := newChance(seed, 30)
		e = placed(e)
		row, known := c.row(), c.known(e)
		check(t, e, row, nil, plain(e, row, nil))
		check(t, e, row, known, plain(e, row, known))
		typed, aggregates, errno := resolved(e)
		if errno != api.OK {
			return
		}
		checkTyped(t, typed, row, c.row(), c.worthOf(aggregates))
	})
}

// 16.1: a function takes as many operands as calc says; the tests above lean on it.
func TestOperands(t *testing.T) {
	for f, n := range map[int]int{api.Length: 1, api.Abs: 1, api.Upper: 1, api.Lower: 1, api.Coalesce: 2, api.Substr: 3} {
		if calc.Args(f) != n {
			t.Errorf("Args(%d): %d, want %d", f, calc.Args(f), n)
		}
	}
}
