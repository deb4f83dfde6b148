package names

import (
	"fmt"
	"reflect"
	"strings"
	"testing"

	"quarry/api"
	"quarry/catalog"
	"quarry/expr"
	"quarry/lexer"
	"quarry/stmt"
)

// some is a right schema: t has a column of each type, u shares a with it, and
// a table and its columns are called as a function is.
func some() api.Schema {
	s := api.Schema{}
	add := func(name string, cols ...api.Column) {
		made, e := catalog.AddTable(s, name, cols)
		if e != api.OK {
			panic(e)
		}
		s = made
	}
	add("t", api.Column{Name: "a", Type: api.Int, NotNull: true}, api.Column{Name: "b", Type: api.Text}, api.Column{Name: "c", Type: api.Blob}, api.Column{Name: "d", Type: api.Bool})
	add("u", api.Column{Name: "e", Type: api.Text, NotNull: true}, api.Column{Name: "a", Type: api.Int}, api.Column{Name: "f", Type: api.Bool})
	add("count", api.Column{Name: "sum", Type: api.Int}, api.Column{Name: "t", Type: api.Text})
	var wide []api.Column
	for i := range 16 {
		wide = append(wide, api.Column{Name: fmt.Sprintf("w%d", i), Type: api.Bool + i%4})
	}
	add("wide", wide...)
	made, e := catalog.AddIndex(s, api.Index{Name: "zz", Table: "t", Cols: []int{1, 0}, Desc: []bool{true, false}, Unique: true})
	if e != api.OK {
		panic(e)
	}
	return made
}

// parsed is the statement that a text is.
func parsed(t testing.TB, text string) api.Stmt {
	t.Helper()
	q, err := stmt.Parse(text)
	if err != nil {
		t.Fatalf("Parse(%q): %v", text, err)
	}
	return q
}

// ex is the expression that a text is.
func ex(text string) api.Expr {
	l, err := lexer.Tokens(text)
	if err != nil {
		panic(err)
	}
	e, behind, err := expr.Read(l, 0)
	if err != nil || behind != len(l) {
		panic(text + " is no expression")
	}
	return e
}

// alike tells whether all fields are the same, where a list without members may
// be nil or not.
func alike(a, b reflect.Value) bool {
	switch a.Kind() {
	case reflect.Slice:
		if a.Len() != b.Len() {
			return false
		}
		for i := range a.Len() {
			if !alike(a.Index(i), b.Index(i)) {
				return false
			}
		}
		return true
	case reflect.Struct:
		for i := range a.NumField() {
			if !alike(a.Field(i), b.Field(i)) {
				return false
			}
		}
		return true
	}
	return a.Interface() == b.Interface()
}

func same[T any](a, b T) bool { return alike(reflect.ValueOf(a), reflect.ValueOf(b)) }

func short(s string) string {
	if len(s) > 600 {
		return s[:600] + ".."
	}
	return s
}

// typeLetters stand for the types, from Null on.
const typeLetters = "NBITX"

// tell is an expression with the places of its columns, and all types.
func tell(e api.Expr) string {
	typed := fmt.Sprintf(":type %d", e.Type)
	if e.Type >= 0 && e.Type < len(typeLetters) {
		typed = ":" + typeLetters[e.Type:e.Type+1]
	}
	switch e.Kind {
	case api.ELit:
		return expr.Print(e) + typed
	case api.ECol:
		return fmt.Sprintf("%s@%d%s", expr.Print(e), e.Col, typed)
	}
	// its own sign alone: that of the same expression over nothing
	bare := e
	bare.Args = make([]api.Expr, len(e.Args))
	return "(" + strings.Join(append([]string{strings.TrimSpace(expr.Print(bare))}, tellAll(e.Args)...), " ") + ")" + typed
}

func tellAll(l []api.Expr) []string {
	var texts []string
	for _, e := range l {
		texts = append(texts, tell(e))
	}
	return texts
}

// tellStmt is the expressions of a statement, those of one part behind another.
func tellStmt(q api.Stmt) string {
	var parts []string
	add := func(name string, l []api.Expr) {
		if len(l) > 0 {
			parts = append(parts, name+" "+strings.Join(tellAll(l), ", "))
		}
	}
	var items, order []api.Expr
	for _, i := range q.Items {
		if i.Star {
			parts = append(parts, "a star")
		}
		items = append(items, i.Expr)
	}
	for _, o := range q.Order {
		order = append(order, o.Expr)
	}
	add("items", items)
	for _, f := range q.From {
		add("on", f.On)
	}
	add("where", q.Where)
	add("group", q.Group)
	add("having", q.Having)
	add("order", order)
	if len(q.Names) > 0 {
		parts = append(parts, "names "+strings.Join(q.Names, ", "))
	}
	for _, r := range q.Rows {
		add("row", r)
	}
	for _, s := range q.Sets {
		add(fmt.Sprintf("set %s@%d", s.Name, s.Col), []api.Expr{s.Expr})
	}
	return strings.Join(parts, "; ")
}

// full is a thing with all its fields.
func full(v any) string { return fmt.Sprintf("%+v", v) }

func dump(v any) string { return short(full(v)) }

// checkResolve resolves a statement, and looks whether what was handed in is as
// it was, whether nothing stands beside an error, and whether what is resolved,
// resolved again, is the same.
func checkResolve(t testing.TB, s api.Schema, q api.Stmt, want api.Errno) api.Stmt {
	t.Helper()
	was := full(q) + full(s)
	made, e := Resolve(s, q)
	if e != want || e != api.OK && !same(made, api.Stmt{}) {
		t.Errorf("Resolve of %q: %s, error %d, want %d", short(stmt.Print(q)), dump(made), e, want)
		return api.Stmt{}
	}
	if full(q)+full(s) != was {
		t.Errorf("Resolve of %q has changed what was handed in", short(stmt.Print(q)))
	}
	if e != api.OK {
		return api.Stmt{}
	}
	if again, e := Resolve(s, made); e != api.OK || !same(again, made) {
		t.Errorf("%q resolved again: %s, error %d, want %s", short(stmt.Print(q)), dump(again), e, dump(made))
	}
	return made
}

// checkError resolves texts over the schema some.
func checkError(t testing.TB, want api.Errno, texts ...string) {
	t.Helper()
	for _, text := range texts {
		checkResolve(t, some(), parsed(t, text), want)
	}
}

// checkTold looks for places and types of all expressions, and that all else is
// as it was.
func checkTold(t testing.TB, text, want string) {
	t.Helper()
	q := parsed(t, text)
	made := checkResolve(t, some(), q, api.OK)
	if got := tellStmt(made); got != want {
		t.Errorf("Resolve of %q:\n%s, want\n%s", text, got, want)
	}
	checkRest(t, q, made)
}

// checkRest looks whether a resolved statement is as it was, but for places,
// types, stars, and names where there were none.
func checkRest(t testing.TB, q, made api.Stmt) {
	t.Helper()
	for _, i := range q.Items {
		if i.Star {
			made.Items, q.Items = nil, nil
			break
		}
	}
	if len(q.Names) == 0 {
		made.Names = nil
	}
	if bare := withoutMeanings(made); !same(bare, q) {
		t.Errorf("%s has become %s", dump(q), dump(bare))
	}
}

// withoutMeanings is a statement without places and types.
func withoutMeanings(q api.Stmt) api.Stmt {
	made := copyOf(q)
	forget(reflect.ValueOf(&made).Elem())
	return made
}

func forget(v reflect.Value) {
	switch v.Kind() {
	case reflect.Slice:
		for i := range v.Len() {
			forget(v.Index(i))
		}
	case reflect.Struct:
		for _, name := range []string{"Col", "Type"} {
			if f := v.FieldByName(name); f.IsValid() && v.Type() != reflect.TypeFor[api.Column]() {
				f.SetInt(0)
			}
		}
		for i := range v.NumField() {
			forget(v.Field(i))
		}
	}
}

// The chapter's examples.
func TestExamples(t *testing.T) {
	s, e := catalog.AddTable(api.Schema{}, "t", []api.Column{{Name: "a", Type: api.Int}, {Name: "b", Type: api.Text}})
	if e != api.OK {
		t.Fatalf("AddTable: error %d", e)
	}
	for text, want := range map[string]api.Errno{
		"select *, a + 1 from t": api.OK, "select a + b from t": api.ErrType, "select c from t": api.ErrColumn, "select x.a from t": api.ErrTable, "select a from t as x, t as y": api.ErrAmbig,
		"select b, count(*) from t": api.ErrGroup, "select b, count(*) from t group by b": api.OK, "select a from t where count(*) = 1": api.ErrGroup,
		"insert into t values (1)": api.ErrCount, "insert into t (b) values (1)": api.ErrType, "insert into t values (null, 'x')": api.OK,
	} {
		checkResolve(t, s, parsed(t, text), want)
	}
	made := checkResolve(t, s, parsed(t, "select *, a + 1 from t"), api.OK)
	if got, want := tellStmt(made), "items t.a@0:I, t.b@1:T, (+ a@0:I 1:I):I"; got != want {
		t.Errorf("%s, want %s", got, want)
	}
}

// 15.1: of a SELECT all places and types; columns with their table and without,
// tables by their aliases.
func TestSelect(t *testing.T) {
	for text, want := range map[string]string{
		"select 1":                                                    "items 1:I",
		"select null, true, 'x', x'00', - 7":                          "items NULL:N, TRUE:B, 'x':T, X'00':X, (- 7:I):I",
		"select a, b, c, d from t":                                    "items a@0:I, b@1:T, c@2:X, d@3:B",
		"select d, t.b, b, t.d from t":                                "items d@3:B, t.b@1:T, b@1:T, t.d@3:B",
		"select x.b, b from t as x":                                   "items x.b@1:T, b@1:T",
		"select b, e, f from t, u":                                    "items b@1:T, e@4:T, f@6:B",
		"select b, e, f from u, t":                                    "items b@4:T, e@0:T, f@2:B",
		"select t.a, u.a from t, u":                                   "items t.a@0:I, u.a@5:I",
		"select t.a, u.a from u, t":                                   "items t.a@3:I, u.a@1:I",
		"select u.a, t.a from t as u, u as t":                         "items u.a@0:I, t.a@5:I",
		"select x.b, y.b, t.b from t as x,t as y,t":                   "items x.b@1:T, y.b@5:T, t.b@9:T",
		"select t.t, t, sum from count as t":                          "items t.t@1:T, t@1:T, sum@0:I",
		"select w0, x.sum, w15 from u, wide, count as x":              "items w0@3:B, x.sum@19:I, w15@18:X",
		"select 1 from t join u on t.a = u.a join count on sum = u.a": "items 1:I; on (= t.a@0:I u.a@5:I):B; on (= sum@7:I u.a@5:I):B",
		// On may name tables that stand further on
		"select 1 from t join u on x.sum = t.a, count as x":         "items 1:I; on (= x.sum@7:I t.a@0:I):B",
		"select a from t where d group by a having true order by a": "items a@0:I; where d@3:B; group a@0:I; having TRUE:B; order a@0:I",
		"select 1 where null": "items 1:I; where NULL:N",
		"select 1 from t where a = 1 order by b || 'x' desc, d, null is null": "items 1:I; where (= a@0:I 1:I):B; order (|| b@1:T 'x':T):T, d@3:B, (IS NULL NULL:N):B",
		"select distinct length(b) from t limit 3 offset 4":                   "items (LENGTH() b@1:T):I",
	} {
		checkTold(t, text, want)
	}
}

// 15.1: a star is all columns, each with its table's alias; there must be some.
func TestStar(t *testing.T) {
	const ofT, ofU = "t.a@0:I, t.b@1:T, t.c@2:X, t.d@3:B", "u.e@4:T, u.a@5:I, u.f@6:B"
	for text, want := range map[string]string{
		"select * from t":          "items " + ofT,
		"select * from t, u":       "items " + ofT + ", " + ofU,
		"select *, 1, * from t":    "items " + ofT + ", 1:I, " + ofT,
		"select b, * from t, u":    "items b@1:T, " + ofT + ", " + ofU,
		"select * from count as x": "items x.sum@0:I, x.t@1:T",
		"select * from u as t join u on t.f where u.f order by t.e":            "items t.e@0:T, t.a@1:I, t.f@2:B, u.e@3:T, u.a@4:I, u.f@5:B; on t.f@2:B; where u.f@5:B; order t.e@0:T",
		"select * from count as a, count as b group by a.sum, a.t, b.sum, b.t": "items a.sum@0:I, a.t@1:T, b.sum@2:I, b.t@3:T; group a.sum@0:I, a.t@1:T, b.sum@2:I, b.t@3:T",
	} {
		checkTold(t, text, want)
	}
	made := checkResolve(t, some(), parsed(t, "select "+strings.Repeat("*, ", 31)+"* from wide as p, wide as q, wide as r, wide as s"), api.OK)
	if len(made.Items) != 32*64 {
		t.Errorf("%d items", len(made.Items))
	}
	for i, item := range made.Items {
		want := fmt.Sprintf("%c.w%d@%d:%c", "pqrs"[i%64/16], i%16, i%64, typeLetters[1+i%4])
		if item.Star || tell(item.Expr) != want {
			t.Errorf("item %d: %t, %s, want %s", i, item.Star, tell(item.Expr), want)
		}
	}
	checkError(t, api.ErrColumn, "select *", "select 1, *", "select *, nope", "select * where true", "select * order by count(*)", "select *, * group by 1")
}

// 15.1: the tables of From: none such, and an alias that one ahead has.
func TestFrom(t *testing.T) {
	checkError(t, api.ErrTable, "select 1 from no", "select 1 from zz", "select 1 from no as t", "select 1 from t, no", "select 1 from t, no as t", "select 1 from t, u as x, no, t", "select * from no", "select 1 from no, t, t", "select 1 from sum",
		"select 1 from t join no on 1", "select nope from no where nope", "select 1 from t as x, x")
	checkError(t, api.ErrExists, "select 1 from t, t", "select 1 from t as x, u as x", "select 1 from t, u as t", "select 1 from u as t, t", "select 1 from t, t, no", "select 1 from t, u, count, u", "select nope from t, t", "select 1 from t join t on nope",
		"select 1 from t as a, u as b, t as c, t as a")
	checkError(t, api.OK, "select 1 from t, u", "select 1 from t, t as u", "select 1 from t as u, u as t", "select 1 from t as no", "select 1 from t as x, t as y, t as z, t", "select 1 from count as sum")
}

// 15.1: names that are none, and names of more than one.
func TestColumns(t *testing.T) {
	for errno, names := range map[api.Errno][]string{
		api.OK:        {"b", "x.b", "x.a", "y.a", "e", "y.f", "x.d", "d"},
		api.ErrColumn: {"nope", "x.e", "y.b", "t", "x", "x.x", "zz", "y.nope", "w0", "sum"},
		api.ErrAmbig:  {"a"},
		api.ErrTable:  {"t.a", "u.a", "t.nope", "no.a", "b.b", "a.x", "zz.a", "count.sum"},
	} {
		for _, name := range names {
			for _, form := range []string{"%s", "1, %s", "coalesce(null, %s)", "%s is null", "not (1 = 1 and (%s is null))", "count(%s)", "sum(length(b)), max(%s)"} {
				group := ""
				if errno == api.OK {
					group = " group by " + name + ", b"
				}
				checkError(t, errno, "select "+fmt.Sprintf(form, name)+" from t as x, u as y"+group)
			}
			whole := "select 1 from t as x join u as y on %s where %s group by %s having %s order by %s"
			for i := range 5 {
				names := []any{"true", "true", "1", "true", "1"}
				names[i] = fmt.Sprintf("(%s is null)", name)
				if i > 2 {
					names[2] = names[i] // so that it fits
				}
				checkError(t, errno, fmt.Sprintf(whole, names...))
			}
		}
	}
	checkError(t, api.ErrColumn, "select a", "select 1 where a", "select 1 group by a", "select 1 having a", "select 1 order by a")
	checkError(t, api.ErrTable, "select t.a", "select 1 where t.a", "select 1 group by t.a", "select 1 having t.a", "select 1 order by t.a")
}

// 15.1: what must go as Bool, and what need not.
func TestTests(t *testing.T) {
	whole := []string{"select 1 from t join u on %s", "select 1 from t join u on 1 = 1 join count on %s", "select 1 from t where %s", "select 1 having %s", "select 1 from t, u having %s", "update t set a = 1 where %s", "delete from t where %s"}
	for _, form := range whole {
		for _, right := range []string{"true", "false", "null", "1 = 2", "'x' < null", "1 is null", "not null", "coalesce(null, null)", "null and true", "coalesce(null, false)"} {
			checkError(t, api.OK, fmt.Sprintf(form, right))
		}
		for _, wrong := range []string{"1", "0", "'true'", "x'01'", "- 1", "1 + null", "- null", "upper(null)", "coalesce(1, null)", "length(null)", "'a' || null"} {
			checkError(t, api.ErrType, fmt.Sprintf(form, wrong))
		}
	}
	checkError(t, api.OK, "select a, b, c, d, null from t", "select 1 from t group by a, b, c, d, null", "select 1 from t order by a, b, c, d, null")
	checkError(t, api.OK, "select 1 from t having max(d)", "select 1 from t having min(null)", "select 1 from t group by d having d")
	checkError(t, api.ErrType, "select 1 from t having max(a)", "select 1 from t having count(*)", "select 1 from t group by a having a", "select 1 from t having sum(null)")
}

// 15.1: an aggregate where none may be, and within another one; ahead of its
// operand, and behind what stands to the left of it.
func TestAggregatesWhere(t *testing.T) {
	for _, agg := range []string{"count(*)", "count(a)", "sum(a)", "min(a)", "max(d)", "sum(nope)", "sum('x')", "count(no.x)", "max(count(*))", "coalesce(null, max(d))", "not max(d)", "1 = 1 and sum(b) is null", "count(*) = nope"} {
		for _, form := range []string{"select 1 from t join count on %s", "select 1 from t where %s", "select 1 from t group by %s", "update t set a = %s", "update t set a = 1 where %s", "delete from t where %s"} {
			checkError(t, api.ErrGroup, fmt.Sprintf(form, agg))
		}
		checkError(t, api.ErrGroup, "insert into count (sum) values ("+strings.NewReplacer("nope", "1", "(a", "(1", "(d", "(true").Replace(agg)+")")
		for _, form := range []string{"select sum(%s) from t", "select 1 from t having count(%s) = 1", "select 1 from t order by max(1 + coalesce(%s, 1))", "select min(- (%s)) from t"} {
			checkError(t, api.ErrGroup, fmt.Sprintf(form, agg))
		}
	}
	checkError(t, api.ErrColumn, "select 1 from t where nope = count(*)", "select sum(nope + count(*)) from t", "select 1 from t group by coalesce(nope, sum(a))", "delete from t where nope = max(a)")
	checkError(t, api.ErrType, "select 1 from t where 'x' + 1 = count(*)", "select max(a + b = sum(a)) from t", "insert into count values (- 'x' + sum(1), 'x')")
	checkError(t, api.OK, "select count(*), sum(a), min(b), max(c), count(d) from t", "select 1 from t having sum(a) > 1", "select 1 from t order by count(*), sum(a) + count(b)", "select sum(length(b) + abs(- a)) from t", "select count(*)", "select sum(1) + max(2)")
}

// 15.1: INSERT: its names, what stands in its rows, and how many.
func TestInsert(t *testing.T) {
	for text, want := range map[string]string{
		"insert into t values (1, 'x', x'00', true)":                          "names a, b, c, d; row 1:I, 'x':T, X'00':X, TRUE:B",
		"insert into t values (null, null, null, null), (1, 'x', x'', 1 = 2)": "names a, b, c, d; row NULL:N, NULL:N, NULL:N, NULL:N; row 1:I, 'x':T, X'':X, (= 1:I 2:I):B",
		"insert into t (a) values (1)":                                        "names a; row 1:I",
		"insert into t (a, b, c, d) values (1, 'x', x'00', true)":             "names a, b, c, d; row 1:I, 'x':T, X'00':X, TRUE:B",
		"insert into t (d, a) values (true, 1), (null, - 2 + abs(3))":         "names d, a; row TRUE:B, 1:I; row NULL:N, (+ (- 2:I):I (ABS() 3:I):I):I",
		"insert into u (e) values (null)":                                     "names e; row NULL:N",
		"insert into u values (upper('x'), length('x'), not true)":            "names e, a, f; row (UPPER() 'x':T):T, (LENGTH() 'x':T):I, (NOT TRUE:B):B",
		"insert into count (sum, t) values (1 / 0, 'a' || 'b')":               "names sum, t; row (/ 1:I 0:I):I, (|| 'a':T 'b':T):T",
	} {
		checkTold(t, text, want)
	}
	checkError(t, api.ErrTable, "insert into no values (1)", "insert into zz values (1)", "insert into no (nope, nope) values (1)", "insert into w0 values (nope)")
	checkError(t, api.ErrColumn, "insert into t (nope) values (1)", "insert into t (a, e) values (1)", "insert into t (a, nope, a) values (1, 2)", "insert into t (t) values (1)", "insert into t (zz) values (1)", "insert into t (nope, nope) values (1)", "insert into t (b, w0) values ('x', no.x)")
	checkError(t, api.ErrExists, "insert into t (a, a) values (1, 2)", "insert into t (a, b, a) values (1, 2)", "insert into t (b, b) values (nope)", "insert into t (a, b, c, d, d) values (1)", "insert into t (a, a, nope) values (1)")
	checkError(t, api.ErrCount, "insert into t values (1)", "insert into t values (1, 'x', x'', true, 1)", "insert into t (a) values (1, 2)", "insert into t (a, b) values (1)", "insert into t (a) values (1), (1, 2)", "insert into t (a, b) values ('x')", "insert into t (a) values (nope, 1)", "insert into t (a) values (1, nope)",
		"insert into t (a) values (1), (2), (nope, nope)", "insert into t (a) values (1, 2), ('x')")
	checkError(t, api.ErrColumn, "insert into t (a) values (a)", "insert into t (a) values (nope)", "insert into t (a, b) values (1, b || 'x')", "insert into t (a) values (1), (a), (1, 2)", "insert into t (a, b) values (a, 1)", "insert into t (a) values (b)")
	checkError(t, api.ErrTable, "insert into t (a) values (t.a)", "insert into t (a) values (no.a)", "insert into t (a) values (1 + t.nope)")
	checkError(t, api.ErrType, "insert into t (a) values ('x')", "insert into t (a) values (1), (x'00')", "insert into t (a, b) values ('x', nope)", "insert into t (a) values ('x'), (1, 2)", "insert into t (b) values (1 + 'x')", "insert into t (a) values (1), ('x'), (nope)")
	types := map[string]string{"a": "1", "b": "'x'", "c": "x'00'", "d": "true"}
	for column := range types {
		for of, value := range types {
			want := api.ErrType
			if of == column {
				want = api.OK
			}
			checkError(t, want, "insert into t ("+column+") values ("+value+")", "insert into t ("+column+") values (null), (coalesce(null, "+value+"))")
		}
	}
}

// 15.1: UPDATE and DELETE: columns that are none, or are set twice, and values.
func TestUpdateDelete(t *testing.T) {
	for text, want := range map[string]string{
		"update t set a = 1":                                 "set a@0 1:I",
		"update t set d = a = 1, b = null, a = t.a + a":      "set d@3 (= a@0:I 1:I):B; set b@1 NULL:N; set a@0 (+ t.a@0:I a@0:I):I",
		"update u set f = e is null where u.f":               "where u.f@2:B; set f@2 (IS NULL e@0:T):B",
		"update count set t = count.t || t where sum = 1":    "where (= sum@0:I 1:I):B; set t@1 (|| count.t@1:T t@1:T):T",
		"update wide set w15 = x'00', w0 = w4, w12 = not w8": "set w15@15 X'00':X; set w0@0 w4@4:B; set w12@12 (NOT w8@8:B):B",
		"delete from t":                     "",
		"delete from t where a = 1 and t.d": "where (AND (= a@0:I 1:I):B t.d@3:B):B",
		"delete from u where f or null":     "where (OR f@2:B NULL:N):B",
	} {
		checkTold(t, text, want)
	}
	checkError(t, api.ErrTable, "update no set a = 1", "update zz set nope = 1 where nope", "update t set a = u.a", "update t set a = 1 where x.a = 1", "update t set a = no.nope", "delete from no", "delete from no where nope", "delete from t where u.a = 1", "delete from t where no.nope is null")
	checkError(t, api.ErrColumn, "update t set nope = 1", "update t set a = nope", "update t set a = 1, e = 'x'", "update t set nope = 'x', nope = 1", "update t set a = t.e", "update t set a = 1 where nope", "update t set t = 1", "update t set nope = 1 where 1", "update t set a = a + nope, b = 1",
		"delete from t where nope", "delete from t where t.e = 'x'", "delete from t where t = 1", "update t set nope = u.a")
	checkError(t, api.ErrExists, "update t set a = 1, a = 2", "update t set a = 1, b = 'x', a = 'x'", "update t set a = 1, a = nope", "update t set a = 1, a = 1, nope = 1", "update t set a = 1, a = 1 where nope")
	checkError(t, api.ErrType, "update t set a = 'x'", "update t set a = b", "update t set a = a = 1", "update t set a = 'x', a = 1", "update t set b = 1, nope = 1", "update t set d = 1 where nope", "update t set a = 1 where a", "delete from t where a", "delete from t where b || 'x'")
	types := map[string][]string{"a": {"1", "a", "length(b)", "- t.a"}, "b": {"'x'", "b", "b || 'x'"}, "c": {"x'00'", "c"}, "d": {"true", "d", "a = 1"}}
	for column := range types {
		for of, values := range types {
			for _, value := range values {
				want := api.ErrType
				if of == column {
					want = api.OK
				}
				checkError(t, want, "update t set "+column+" = "+value, "update t set "+column+" = coalesce(null, "+value+") where d")
			}
		}
	}
}

// 15.1: all other statements are as they are, whatever their names.
func TestOthers(t *testing.T) {
	for _, text := range []string{
		"create table t (a int)", "create table no (a int, a text not null, b blob, c bool not null)", "create index i on no (a, a desc, nope)", "create unique index zz on t (a)", "drop table no", "drop table t", "drop index no", "drop index zz",
		"begin", "commit", "rollback", "savepoint no", "release no", "rollback to no",
	} {
		q := parsed(t, text)
		for _, s := range []api.Schema{{}, some()} {
			if made := checkResolve(t, s, q, api.OK); !same(made, q) {
				t.Errorf("%q has become %s", text, dump(made))
			}
		}
	}
}
