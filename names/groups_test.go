package names

import (
	"fmt"
	"slices"
	"strings"
	"testing"

	"quarry/api"
	"quarry/expr"
	"quarry/stmt"
)

// 15.2: a query has groups by GROUP BY, by HAVING, by an aggregate in its items,
// in HAVING, in ORDER BY, however deep, and by nothing else.
func TestGrouped(t *testing.T) {
	for text, want := range map[string]bool{
		"select 1": false,
		"select *": false,
		"select a, b from t where d order by c limit 1": false,
		"select distinct a from t join u on t.a = u.a":  false,
		"select count, sum, min from max":               false,
		"select length(b), coalesce(a, 1) from t":       false,
		"select 1 group by 1":                           true,
		"select * from t group by a":                    true,
		"select 1 having true":                          true,
		"select 1 having count(*) > 1":                  true,
		"select count(*)":                               true,
		"select 1, *, sum(a) from t":                    true,
		"select abs(1 + - coalesce(null, min(a)))":      true,
		"select not (1 = 1 or max(a) is null)":          true,
		"select 1 order by count(a)":                    true,
		"select 1 order by 1, - sum(a) desc":            true,
		// no right queries, but what stands where none may be makes no groups
		"select 1 from t where count(*) = 1":     false,
		"select 1 from t join u on max(t.a) = 1": false,
		"select 1 from no group by nope":         true,
		"select sum(count(*))":                   true,
	} {
		if got := Grouped(parsed(t, text)); got != want {
			t.Errorf("Grouped(%q): %t", text, got)
		}
	}
}

// 15.2: the aggregates of items, HAVING and ORDER BY, in this order, each once.
func TestAggregates(t *testing.T) {
	for text, want := range map[string]string{
		"select 1":                      "",
		"select *, a from t group by b": "",
		"select count(*)":               "COUNT(*)",
		"select count(*), count(*) having count(*) = count(*) order by count(*)":                                        "COUNT(*)",
		"select sum(a) + max(b), *, - min(a) from t having sum(b) > max(b) order by min(b), sum(a)":                     "SUM(a); MAX(b); MIN(a); SUM(b); MIN(b)",
		"select 1 order by max(a), min(a)":                                                                              "MAX(a); MIN(a)",
		"select 1 having min(a) = max(a) order by sum(a)":                                                               "MIN(a); MAX(a); SUM(a)",
		"select count(*), count(1), count(null), count('1'), count(x'31'), count(true)":                                 "COUNT(*); COUNT(1); COUNT(NULL); COUNT('1'); COUNT(X'31'); COUNT(TRUE)",
		"select sum(a), sum(t.a), sum(u.a), sum(a), sum(u.a)":                                                           "SUM(a); SUM(t.a); SUM(u.a)",
		"select sum(a + 1), sum(1 + a), sum((a) + 1), sum(a + (1)), sum(a - 1), sum(- a)":                               "SUM(a + 1); SUM(1 + a); SUM(a - 1); SUM(- a)",
		"select coalesce(max(a), substr(min(b), count(*), sum(c))) is null and not max(d)":                              "MAX(a); MIN(b); COUNT(*); SUM(c); MAX(d)",
		"select 1 from t join u on count(1) = 1 where count(2) = 1 group by count(3) having count(4) order by count(5)": "COUNT(4); COUNT(5)",
		// of no right query, those that stand within others, too
		"select sum(1 + count(*) + max(a)), max(a)": "SUM(1 + COUNT(*) + MAX(a)); COUNT(*); MAX(a)",
	} {
		q := parsed(t, text)
		var texts []string
		for _, e := range Aggregates(q) {
			texts = append(texts, expr.Print(e))
		}
		if got := strings.Join(texts, "; "); got != want {
			t.Errorf("Aggregates of %q: %s, want %s", text, got, want)
		}
	}
	made := checkResolve(t, some(), parsed(t, "select sum(a) + count(b) from t as x order by max(x.b), sum(a)"), api.OK)
	if got, want := strings.Join(tellAll(Aggregates(made)), "; "), "(SUM() a@0:I):I; (COUNT() b@1:T):I; (MAX() x.b@1:T):T"; got != want {
		t.Errorf("Aggregates of what is resolved: %s, want %s", got, want)
	}
}

// 15.2: the columns of tables, from the left to the right, or the first error.
func TestScope(t *testing.T) {
	s := some()
	cols := map[string][]api.Column{}
	for _, table := range s.Tables {
		cols[table.Name] = table.Cols
	}
	for text, want := range map[string][]api.Column{
		"t": cols["t"], "u": cols["u"], "wide": cols["wide"], "t as u": cols["t"], "t as no": cols["t"],
		"t, u": slices.Concat(cols["t"], cols["u"]), "u, t": slices.Concat(cols["u"], cols["t"]), "t as u, u as t": slices.Concat(cols["t"], cols["u"]),
		"t, t as x, u, t as y": slices.Concat(cols["t"], cols["t"], cols["u"], cols["t"]), "count join wide on nope = count(*)": slices.Concat(cols["count"], cols["wide"]),
		"wide as a, wide as b, wide as c, wide as d": slices.Concat(cols["wide"], cols["wide"], cols["wide"], cols["wide"]),
	} {
		from := parsed(t, "select 1 from "+text).From
		was := full(from) + full(s)
		if got, e := Scope(s, from); e != api.OK || !same(got, want) {
			t.Errorf("Scope of %s: %v, error %d, want %v", text, got, e, want)
		}
		if full(from)+full(s) != was {
			t.Errorf("Scope of %s has changed what was handed in", text)
		}
	}
	for text, want := range map[string]api.Errno{
		"no": api.ErrTable, "zz": api.ErrTable, "no as t": api.ErrTable, "t, no": api.ErrTable, "t, no as t": api.ErrTable, "t, u as x, x": api.ErrTable, "no, t, t": api.ErrTable, "t as x, u, no, x": api.ErrTable,
		"t, t": api.ErrExists, "t as x, u as x": api.ErrExists, "t, u as t": api.ErrExists, "t, u, t, no": api.ErrExists, "a, b, c, d": api.ErrTable, "t, u, count, t": api.ErrExists,
	} {
		if got, e := Scope(s, parsed(t, "select 1 from "+text).From); e != want || len(got) != 0 {
			t.Errorf("Scope of %s: %v, error %d, want %d", text, got, e, want)
		}
	}
	for _, from := range [][]api.From{nil, {}} {
		for _, s := range []api.Schema{{}, s} {
			if got, e := Scope(s, from); e != api.OK || len(got) != 0 {
				t.Errorf("Scope of nothing: %v, error %d", got, e)
			}
		}
	}
	if got, e := Scope(api.Schema{}, []api.From{{Table: "t", Alias: "t"}}); e != api.ErrTable || len(got) != 0 {
		t.Errorf("Scope without tables: %v, error %d", got, e)
	}
}

// 15.1: what fits groups, in items, HAVING and ORDER BY, and what does not.
func TestFits(t *testing.T) {
	const whole = "a, length(b) + 1, upper(b), t.d" // the groups of each query
	fit := []string{
		"a", "t.d", "length(b) + 1", "(length(b) + 1)", "upper(b)", "a + 1", "- a", "a is null", "not t.d", "length(b) + 1 + a", "2 * (length(b) + 1)", "upper(b) || 'x'", "lower(upper(b))", "coalesce(a, length(b) + 1)", "substr(upper(b), a, a)",
		"1", "null", "'x'", "1 + 2", "count(*)", "sum(a)", "count(c)", "max(b)", "sum(length(b))", "min(c) = max(c)", "a + count(*)", "coalesce(upper(b), min(b))", "- sum(a) is null and t.d",
	}
	not := []string{
		"b", "c", "d", "t.a", "t.b", "length(b)", "1 + length(b)", "length(b) - 1", "length(b) + 2", "length(b) + 1 + length(b)", "length(t.b) + 1", "b || 'x'", "lower(b)", "upper(b || 'x')", "not d", "d is null", "t.a + 1", "a + t.a", "c is null", "coalesce(null, c)",
		"a = 1 and d", "count(*) + t.a", "sum(a) = length(b)", "coalesce(max(b), b)", "substr(upper(b), a, length(b))", "upper(upper(b) || b)",
	}
	for want, l := range map[api.Errno][]string{api.OK: fit, api.ErrGroup: not} {
		for _, e := range l {
			for _, form := range []string{"select %s from t group by " + whole, "select 1, a, %s from t group by " + whole, "select a from t group by " + whole + " having (%s) is null", "select a from t group by " + whole + " order by %s", "select 1 from t group by " + whole + " having true order by a, %s"} {
				checkError(t, want, fmt.Sprintf(form, e))
			}
		}
	}
	// without GROUP BY no column fits
	checkError(t, api.ErrGroup, "select a, count(*) from t", "select count(*), a from t", "select a from t having true", "select a + count(*) from t", "select 1 from t having a = 1", "select 1 from t having count(*) = a", "select a from t order by count(*)", "select count(*) from t order by a", "select count(*) from t order by 1, - a",
		"select *, count(*) from t", "select * from t having true", "select * from t order by max(a)")
	checkError(t, api.OK, "select 1, count(a) + 1 from t having max(b) = 'x' order by sum(a)", "select 'x' from t having true order by null", "select a from t order by a + length(b)")
	// a star is columns with their tables; by other words they are others
	checkError(t, api.OK, "select * from count group by count.sum, count.t", "select * from count as x group by x.t, 1, x.sum", "select *, x.t || 'x' from count as x group by x.t, x.sum order by x.sum")
	checkError(t, api.ErrGroup, "select * from count group by sum, t", "select * from count group by count.sum", "select *, count(*) from count group by count.sum", "select * from count group by 1", "select *, sum from count group by count.sum, count.t")
	// an aggregate fits over whatever it is, what it is over does not beside it
	checkError(t, api.OK, "select sum(a), max(t.b) from t group by c", "select sum(a) from t group by a", "select count(b || 'x') from t group by a + 1")
	checkError(t, api.ErrGroup, "select sum(a), a from t group by c", "select a from t group by a + 1", "select 1 + a from t group by a + 1", "select a + 1 + 1 from t group by 1 + 1")
	checkError(t, api.OK, "select a + 1 + 1 from t group by a + 1", "select a + 1 from t group by a + 1, 1", "select 1 + 1 from t group by b", "select (a + 1) * (a + 1) from t group by a + 1")
}

// 15.1: that something does not fit is told last.
func TestFitsLast(t *testing.T) {
	checkError(t, api.ErrColumn, "select b, count(*) from t order by nope", "select b, nope from t group by a", "select b from t group by a having nope", "select b from t group by a, nope", "select b, * having true")
	checkError(t, api.ErrType, "select b, count(*) from t order by - b", "select b, - b from t group by a", "select b from t group by a having a", "select b from t having 1", "select b from t group by b + 1")
	checkError(t, api.ErrTable, "select b, count(*) from t order by x.a", "select b, x.a from t group by a", "select b from t group by x.a")
	checkError(t, api.ErrAmbig, "select b, count(*) from t, u order by a", "select b, a from t, u group by e")
}

// slot is a part of a statement, right and wrong.
type slot struct {
	right, wrong string
	e            api.Errno
}

// checkOrder makes texts with every choice of wrong slots; the slots stand in
// the order in which their errors count, in the form as its verbs say.
func checkOrder(t *testing.T, form string, slots []slot) {
	t.Helper()
	for choice := range 1 << len(slots) {
		want := api.OK
		var parts []any
		for i, s := range slots {
			part := s.right
			if choice>>i&1 == 1 {
				part = s.wrong
				if want == api.OK {
					want = s.e
				}
			}
			parts = append(parts, part)
		}
		checkError(t, want, fmt.Sprintf(form, parts...))
	}
}

// 15.1: which error comes first, where there are several.
func TestOrder(t *testing.T) {
	query := "select %[7]s, %[8]s from t, %[1]s join u as y on %[3]s join count as %[2]s on %[4]s where %[5]s group by %[6]s having %[9]s order by b, %[10]s, %[11]s"
	checkOrder(t, query, []slot{
		{"u", "no", api.ErrTable}, {"z", "t", api.ErrExists}, {"true", "nope", api.ErrColumn}, {"t.a = y.a", "a = 1", api.ErrAmbig}, {"true", "count(*)", api.ErrGroup}, {"b", "b, no.b", api.ErrTable},
		{"1", "2 + b", api.ErrType}, {"b", "b, nope", api.ErrColumn}, {"b = 'x'", "a = 1", api.ErrAmbig}, {"sum(t.a)", "sum(b)", api.ErrType}, {"b || b", "c", api.ErrGroup},
	})
	checkOrder(t, "insert into %[1]s (b, %[2]s, %[3]s) values (%[4]s, %[5]s, %[6]s), ('x', %[7]s%[8]s)", []slot{
		{"t", "no", api.ErrTable}, {"a", "nope", api.ErrColumn}, {"c", "b", api.ErrExists}, {"'x'", "count(*)", api.ErrGroup}, {"1", "nope", api.ErrColumn}, {"null", "t.c", api.ErrTable}, {"1, null", "1, x'', null", api.ErrCount}, {"", ", nope", api.ErrCount},
	})
	checkOrder(t, "insert into t (%[1]s, b) values (%[2]s, %[3]s), (%[4]s)", []slot{
		{"a", "nope", api.ErrColumn}, {"1", "null and true", api.ErrType}, {"null", "nope", api.ErrColumn}, {"null, null", "- 'x', 'x'", api.ErrType},
	})
	checkOrder(t, "update %[1]s set b = %[2]s, %[3]s = %[4]s, %[5]s = %[6]s where %[7]s and %[8]s", []slot{
		{"t", "no", api.ErrTable}, {"'x'", "t.nope", api.ErrColumn}, {"a", "b", api.ErrExists}, {"null", "count(*)", api.ErrGroup}, {"d", "nope", api.ErrColumn}, {"a = 1", "no.d", api.ErrTable}, {"d", "max(d)", api.ErrGroup}, {"t.d", "- b", api.ErrType},
	})
	checkOrder(t, "delete from %[1]s where %[2]s = %[3]s + %[4]s and %[5]s", []slot{
		{"t", "no", api.ErrTable}, {"1", "nope", api.ErrColumn}, {"a", "u.a", api.ErrTable}, {"1", "'x'", api.ErrType}, {"d", "count(nope)", api.ErrGroup},
	})
	checkOrder(t, "select %[1]s + abs(%[2]s), coalesce(%[3]s, %[4]s), sum(%[5]s + %[6]s) having %[7]s is null order by %[8]s", []slot{
		{"1", "nope", api.ErrColumn}, {"2", "no.x", api.ErrTable}, {"3", "not 3", api.ErrType}, {"4", "sum(min(nope))", api.ErrGroup}, {"5", "nope", api.ErrColumn}, {"6", "count(*)", api.ErrGroup}, {"7", "7 || 'x'", api.ErrType}, {"8", "nope", api.ErrColumn},
	})
}

// 15.1, 15.2: what is resolved has the groups and the aggregates that it had, and
// is read from its Print as the same.
func checkKept(t testing.TB, s api.Schema, q, made api.Stmt) {
	t.Helper()
	if Grouped(made) != Grouped(q) {
		t.Errorf("Grouped of %q resolved: %t", short(stmt.Print(q)), Grouped(made))
	}
	if !slices.EqualFunc(Aggregates(made), Aggregates(q), expr.Same) {
		t.Errorf("Aggregates of %q resolved: %s", short(stmt.Print(q)), tellAll(Aggregates(made)))
	}
	again, err := stmt.Parse(stmt.Print(made))
	if err != nil {
		return // it has too many items now
	}
	if again, e := Resolve(s, again); e != api.OK || !same(again, made) {
		t.Errorf("%q, read from its Print, resolved: %s, error %d, want %s", short(stmt.Print(made)), dump(again), e, dump(made))
	}
}
