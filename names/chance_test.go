package names

import (
	"fmt"
	"math/rand"
	"slices"
	"strings"
	"testing"

	"quarry/api"
	"quarry/expr"
	"quarry/stmt"
)

// checkPlain holds what the package answers of a statement against the chapter's
// words, and tells the error.
func checkPlain(t testing.TB, s api.Schema, q api.Stmt) api.Errno {
	t.Helper()
	p := &plain{}
	want := p.resolve(s, q)
	made := checkResolve(t, s, q, p.first)
	if q.Kind == api.SSelect {
		checkQuery(t, s, q)
	}
	if p.first != api.OK || t.Failed() {
		return p.first
	}
	if !same(made, want) {
		t.Errorf("Resolve of %q:\n%s, want\n%s", short(stmt.Print(q)), tellStmt(made), tellStmt(want))
	}
	checkRest(t, q, made)
	checkKept(t, s, q, made)
	return api.OK
}

// checkQuery looks at Scope, Grouped and Aggregates of a query, right or not.
func checkQuery(t testing.TB, s api.Schema, q api.Stmt) {
	t.Helper()
	p := &plain{}
	var want []api.Column
	for _, f := range q.From {
		of := p.table(s, f.Table)
		p.add(f.Alias, of)
		want = append(want, of.Cols...)
	}
	if p.first != api.OK {
		want = nil
	}
	if got, e := Scope(s, q.From); e != p.first || !same(got, want) {
		t.Errorf("Scope of %q: %v, error %d, want %v, error %d", short(stmt.Print(q)), got, e, want, p.first)
	}
	aggregates := plainAggregates(q)
	var texts []string
	for _, e := range Aggregates(q) {
		texts = append(texts, expr.Print(e))
	}
	if !slices.Equal(texts, aggregates) {
		t.Errorf("Aggregates of %q: %q, want %q", short(stmt.Print(q)), texts, aggregates)
	}
	if got := Grouped(q); got != (len(q.Group) > 0 || len(q.Having) > 0 || len(aggregates) > 0) {
		t.Errorf("Grouped of %q: %t", short(stmt.Print(q)), got)
	}
}

// small is all expressions of few parts: with one operand, each of all that have
// none; with more of them, each row of those that matter.
func small() []string {
	atoms := strings.Fields("null true 1 'x' x'00' a b c d t.a t.d u.a e u.f no.a nope t.nope count(*)")
	few := strings.Fields("null 1 'x' a b nope no.a count(*)")
	var l []string
	for _, form := range strings.Fields("%s -(%s) not(%s) (%s)is(null) length(%s) abs(%s) upper(%s) count(%s) sum(%s) min(%s) max(sum(%s)) not((%s)is(null))") {
		form = strings.ReplaceAll(form, "is(null)", " is null")
		for _, one := range atoms {
			l = append(l, "("+fmt.Sprintf(form, one)+")")
		}
	}
	for _, form := range []string{"(%s and %s)", "(%s = %s)", "(%s < %s)", "(%s + %s)", "(%s || %s)", "coalesce(%s, %s)", "sum(%s + %s)"} {
		for _, one := range atoms {
			for _, two := range atoms {
				l = append(l, fmt.Sprintf(form, one, two))
			}
		}
	}
	for _, one := range few {
		for _, two := range few {
			for _, three := range few {
				l = append(l, fmt.Sprintf("substr(%s, %s, %s)", one, two, three), fmt.Sprintf("(%s + %s = max(%s))", one, two, three))
			}
		}
	}
	return l
}

// 15.1, 15.2: all small expressions, at all places where one may stand.
func TestAllSmall(t *testing.T) {
	t.Parallel()
	told := map[api.Errno]int{}
	for _, e := range small() {
		for _, form := range []string{
			"select %s from t, u", "select * from t join u on %s", "select 1 from t as x, t, u where %s", "select 1 from t group by %s", "select b, 1 from t, u group by b, %s", "select 1 from t, u having %s", "select 1 from t, u order by 1, %s", "select %[1]s from u, t group by %[1]s, t.a order by %[1]s", "select %[1]s, *",
			"insert into t (a) values (1), (%s)", "insert into t values (1, %s, null, null)", "update t set a = %s", "update t set b = 'x', d = %s where d", "update t set a = 1 where %s", "delete from t where %s", "delete from u where %s",
		} {
			told[checkPlain(t, some(), parsed(t, fmt.Sprintf(form, e)))]++
			if t.Failed() {
				return
			}
		}
	}
	checkTally(t, told, map[api.Errno]int{api.OK: 1000, api.ErrTable: 1000, api.ErrColumn: 1000, api.ErrAmbig: 1000, api.ErrType: 1000, api.ErrGroup: 1000})
}

// checkTally looks whether each error has come often enough for the test to mean
// something.
func checkTally(t *testing.T, told, least map[api.Errno]int) {
	t.Helper()
	t.Log(told)
	for e, n := range least {
		if told[e] < n {
			t.Errorf("error %d came just %d times", e, told[e])
		}
	}
}

// chance makes texts of statements that are right, but for slips that come seldom.
type chance struct {
	*rand.Rand
	slips int // one choice of so many is a slip
	s     api.Schema
	cols  []plainColumn // those that may be named
}

func (c *chance) slip() bool { return c.Intn(c.slips) == 0 }

func one[T any](c *chance, l ...T) T { return l[c.Intn(len(l))] }

// column is the name of a column of some type, if there is one.
func (c *chance) column(typ int) (string, bool) {
	if c.slip() {
		return one(c, "nope", "no.a", "t.nope", "a", "e", "t.a", "u.f", "sum", "w3"), true
	}
	var l []string
	for _, col := range c.cols {
		if col.typ == typ {
			l = append(l, col.alias+"."+col.name)
			if !slices.ContainsFunc(c.cols, func(other plainColumn) bool { return other.name == col.name && other.alias != col.alias }) {
				l = append(l, col.name)
			}
		}
	}
	if len(l) == 0 {
		return "", false
	}
	return one(c, l...), true
}

func (c *chance) literal(typ int) string {
	switch typ {
	case api.Bool:
		return one(c, "true", "false", "null")
	case api.Int:
		return one(c, "0", "1", "9223372036854775807", "null")
	case api.Text:
		return one(c, "''", "'x'", "'it''s'", "null")
	case api.Blob:
		return one(c, "x''", "x'00ff'", "null")
	}
	return "null"
}

// expr is an expression of a type, or one that goes as it.
func (c *chance) expr(typ, deep int, aggregates bool) string {
	if c.slip() {
		typ = api.Bool + c.Intn(4)
	}
	if deep == 0 {
		if name, ok := c.column(typ); ok && c.Intn(3) > 0 {
			return name
		}
		return c.literal(typ)
	}
	of := func(form string, types ...int) string {
		var parts []any
		for _, typ := range types {
			parts = append(parts, "("+c.expr(typ, c.Intn(deep), aggregates)+")")
		}
		return fmt.Sprintf(form, parts...)
	}
	if (aggregates && c.Intn(4) == 0) || c.Intn(2*c.slips) == 0 {
		aggregates = c.slip()
		if typ == api.Int && c.Intn(2) == 0 {
			return one(c, "count(*)", of("sum(%s)", typ), of("count(%s)", api.Bool+c.Intn(4)))
		}
		return of(one(c, "min(%s)", "max(%s)"), typ)
	}
	if c.Intn(8) == 0 {
		return of("coalesce(%s, %s)", typ, typ)
	}
	switch typ {
	case api.Bool:
		any := api.Bool + c.Intn(4)
		return one(c, of("%s and %s", typ, typ), of("%s or %s", typ, typ), of("not %s", typ), of("%s is null", any), of("%s is not null", any), of("%s "+one(c, "=", "<>", "<", "<=", ">", ">=")+" %s", any, any))
	case api.Int:
		return one(c, of("%s "+one(c, "+", "-", "*", "/", "%%")+" %s", typ, typ), of("- %s", typ), of("abs(%s)", typ), of("length(%s)", one(c, api.Text, api.Blob)))
	case api.Text:
		return one(c, of("%s || %s", typ, typ), of(one(c, "upper(%s)", "lower(%s)"), typ), of("substr(%s, %s, %s)", typ, api.Int, api.Int))
	}
	name, ok := c.column(typ)
	if !ok {
		return c.literal(typ)
	}
	return name
}

func (c *chance) any(aggregates bool) string {
	return c.expr(api.Bool+c.Intn(4), c.Intn(4), aggregates)
}

func (c *chance) test(aggregates bool) string { return c.expr(api.Bool, c.Intn(4), aggregates) }

// list is some members with a comma between each two.
func (c *chance) list(most int, member func() string) string {
	l := []string{member()}
	for len(l) < most && c.Intn(3) > 0 {
		l = append(l, member())
	}
	return strings.Join(l, ", ")
}

func (c *chance) use(alias, table string) {
	for _, t := range c.s.Tables {
		if t.Name == table {
			for _, col := range t.Cols {
				c.cols = append(c.cols, plainColumn{alias, col.Name, col.Type})
			}
		}
	}
}

func (c *chance) table() api.Table {
	if c.slip() && c.slip() {
		return api.Table{Name: one(c, "no", "zz", "a"), Cols: c.s.Tables[0].Cols}
	}
	return one(c, c.s.Tables...)
}

// from is the tables of a query, whose columns may be named from then on.
func (c *chance) from() string {
	type used struct{ table, alias string }
	var l []used
	for i := range 1 + c.Intn(4) {
		u := used{table: c.table().Name}
		u.alias = fmt.Sprintf("%c", 'p'+i)
		if c.Intn(4) == 0 || c.slip() {
			u.alias = u.table
		}
		if slices.ContainsFunc(l, func(other used) bool { return other.alias == u.alias }) && !c.slip() {
			continue
		}
		l = append(l, u)
		c.use(u.alias, u.table)
	}
	text := ""
	for i, u := range l {
		on := ""
		switch {
		case i > 0 && c.Intn(2) == 0:
			text, on = text+" join ", " on "+c.test(false)
		case i > 0:
			text += ", "
		}
		text += u.table
		if u.alias != u.table || c.Intn(4) == 0 {
			text += " as " + u.alias
		}
		text += on
	}
	return text
}

func (c *chance) query() string {
	c.cols = nil
	from := ""
	if c.Intn(8) > 0 {
		from = " from " + c.from()
	}
	if c.Intn(2) == 0 {
		from += " where " + c.test(false)
	}
	if c.Intn(2) == 0 {
		return "select " + c.list(6, func() string {
			if c.Intn(6) == 0 && len(c.cols) > 0 {
				return "*"
			}
			return c.any(false)
		}) + from + c.order(func() string { return c.any(false) })
	}
	return c.groups(from)
}

func (c *chance) order(member func() string) string {
	if c.Intn(2) == 0 {
		return ""
	}
	return " order by " + c.list(4, func() string { return "(" + member() + ")" + one(c, "", " desc", " asc") })
}

// groups is a query with groups: what stands in its items goes by what is in
// GROUP BY, or is made of aggregates.
func (c *chance) groups(from string) string {
	var groups []string
	for range c.Intn(4) {
		groups = append(groups, "("+c.any(false)+")")
	}
	all := c.cols
	member := func() string {
		if len(groups) > 0 && c.Intn(2) == 0 {
			group := one(c, groups...)
			return one(c, group, group+" is null", "coalesce(null, "+group+")", "count("+group+") + 1")
		}
		c.cols = nil // no column beside the aggregates, but in slips
		if c.Intn(2) == 0 {
			c.cols = all
			return one(c, "count(*)", "min("+c.any(false)+")", "sum("+c.expr(api.Int, 2, false)+") * 2")
		}
		return c.any(true)
	}
	text := "select " + c.list(6, member)
	having := ""
	if c.Intn(2) == 0 {
		c.cols = nil
		having = " having " + c.test(true)
	}
	order := c.order(member)
	if len(groups) > 0 {
		from += " group by " + strings.Join(groups, ", ")
	}
	return text + from + having + order
}

func (c *chance) insert() string {
	t := c.table()
	c.cols = nil
	cols := slices.Clone(t.Cols)
	text := "insert into " + t.Name
	if c.Intn(2) == 0 {
		c.Shuffle(len(cols), func(i, j int) { cols[i], cols[j] = cols[j], cols[i] })
		cols = cols[:1+c.Intn(len(cols))]
		if c.slip() {
			cols = append(cols, one(c, cols[0], api.Column{Name: one(c, "nope", "e", "t")}))
		}
		var names []string
		for _, col := range cols {
			names = append(names, col.Name)
		}
		text += " (" + strings.Join(names, ", ") + ")"
	}
	return text + " values " + c.list(4, func() string {
		var row []string
		for _, col := range cols {
			row = append(row, c.expr(col.Type, c.Intn(3), false))
		}
		if c.slip() {
			row = append(row[1:], "1", "null")[c.Intn(2):]
		}
		return "(" + strings.Join(row, ", ") + ")"
	})
}

func (c *chance) where() string {
	if c.Intn(2) == 0 {
		return ""
	}
	return " where " + c.test(false)
}

func (c *chance) update() string {
	t := c.table()
	c.cols = nil
	c.use(t.Name, t.Name)
	cols := slices.Clone(t.Cols)
	c.Shuffle(len(cols), func(i, j int) { cols[i], cols[j] = cols[j], cols[i] })
	return "update " + t.Name + " set " + c.list(len(cols), func() string {
		col := cols[0]
		if !c.slip() {
			cols = append(cols[1:], col)
		}
		if c.slip() {
			col.Name = one(c, "nope", "e", "t")
		}
		return col.Name + " = " + c.expr(col.Type, c.Intn(4), false)
	}) + c.where()
}

func (c *chance) remove() string {
	t := c.table()
	c.cols = nil
	c.use(t.Name, t.Name)
	return "delete from " + t.Name + c.where()
}

func (c *chance) statement() string {
	switch c.Intn(6) {
	case 0:
		return c.insert()
	case 1:
		return c.update()
	case 2:
		return c.remove()
	}
	return c.query()
}

// 15.1 to 15.3: statements by chance, with slips and without.
func TestByChance(t *testing.T) {
	t.Parallel()
	told := map[api.Errno]int{}
	for seed, slips := range []int{10, 30, 100, 1 << 30} {
		c := &chance{Rand: rand.New(rand.NewSource(int64(seed))), slips: slips, s: some()}
		for range 3000 {
			text := c.statement()
			q, err := stmt.Parse(text)
			if err != nil {
				t.Fatalf("Parse(%q): %v", text, err)
			}
			told[checkPlain(t, c.s, q)]++
			if t.Failed() {
				t.Fatalf("%q", text)
			}
		}
	}
	checkTally(t, told, map[api.Errno]int{api.OK: 5000, api.ErrTable: 100, api.ErrColumn: 100, api.ErrAmbig: 30, api.ErrExists: 50, api.ErrType: 500, api.ErrGroup: 100, api.ErrCount: 30})
}

// FuzzResolve: R1, 15.1 to 15.3: any statement that can be read.
func FuzzResolve(f *testing.F) {
	c := &chance{Rand: rand.New(rand.NewSource(9)), slips: 20, s: some()}
	for range 100 {
		f.Add(c.statement())
	}
	f.Fuzz(func(t *testing.T, text string) {
		q, err := stmt.Parse(text)
		if err != nil {
			t.Skip()
		}
		checkPlain(t, some(), q)
	})
}
