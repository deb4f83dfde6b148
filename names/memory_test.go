package names

import (
	"math/rand"
	"reflect"
	"strings"
	"testing"

	"quarry/api"
	"quarry/stmt"
)

// kinds are statements of every kind, right over the schema some.
func kinds() []string {
	return []string{
		"select distinct *, - a, x.b || 'x', coalesce(null, d) from t as x join count as y on d and x.a = sum where (d) or a is null order by a + 1 desc, length(b) limit 3 offset 4",
		"select a + 1, count(*), sum(a * 2), 'x' from t join count on true where not d group by a + 1, b having max(b) = 'x' order by a + 1, min(c), b",
		"select *, 1 from t group by t.a, t.b, t.c, t.d having true",
		"insert into t values (1, 'x' || 'y', x'00', not true), (null, null, null, null)", "insert into t (b, a) values ('x', abs(1)), (upper('y'), 2)",
		"update t set b = b || 'x', a = - t.a where d and a = 1", "delete from t where coalesce(d, a = 1)",
		"create table no (a int, b text not null)", "create unique index i on t (a, b desc)", "drop table t", "drop index zz", "begin", "commit", "rollback", "rollback to s", "savepoint s", "release s",
	}
}

// roomy gives all lists of a thing some spare room, with something in it.
func roomy(v reflect.Value) {
	switch v.Kind() {
	case reflect.Slice:
		if v.IsNil() {
			return
		}
		made := reflect.MakeSlice(v.Type(), v.Len()+3, v.Len()+3)
		reflect.Copy(made, v)
		for i := range v.Len() {
			roomy(made.Index(i))
		}
		for i := v.Len(); i < made.Len(); i++ {
			spoil(made.Index(i))
		}
		v.Set(made.Slice(0, v.Len()))
	case reflect.Struct:
		for i := range v.NumField() {
			roomy(v.Field(i))
		}
	}
}

// spoil writes over all that lists hold, and what lies in their spare room.
func spoil(v reflect.Value) {
	switch v.Kind() {
	case reflect.Slice:
		v = v.Slice(0, v.Cap())
		for i := range v.Len() {
			spoil(v.Index(i))
		}
	case reflect.Struct:
		for i := range v.NumField() {
			spoil(v.Field(i))
		}
	case reflect.Int, reflect.Int64:
		v.SetInt(99)
	case reflect.Bool:
		v.SetBool(!v.Bool())
	case reflect.String:
		v.SetString("spoilt")
	}
}

// whole is all that a thing holds, what lies in the spare room of its lists, too.
func whole(v reflect.Value) string {
	switch v.Kind() {
	case reflect.Slice:
		text := "["
		for i := range v.Cap() {
			text += whole(v.Slice(0, v.Cap()).Index(i)) + " "
		}
		return text + "]"
	case reflect.Struct:
		text := "{"
		for i := range v.NumField() {
			text += whole(v.Field(i)) + " "
		}
		return text + "}"
	}
	return full(v.Interface())
}

// apart looks whether no two lists lie in one memory.
func apart(t *testing.T, v reflect.Value, seen map[uintptr]string) {
	t.Helper()
	switch v.Kind() {
	case reflect.Slice:
		if v.Cap() > 0 {
			if other, twice := seen[v.Pointer()]; twice {
				t.Errorf("two lists share their memory: %s, %s", other, dump(v.Interface()))
			}
			seen[v.Pointer()] = dump(v.Interface())
		}
		for i := range v.Len() {
			apart(t, v.Index(i), seen)
		}
	case reflect.Struct:
		for i := range v.NumField() {
			apart(t, v.Field(i), seen)
		}
	}
}

// checkMemory looks whether a call changes nothing of what it is handed, keeps
// none of it, and answers new memory each time.
func checkMemory[T any](t *testing.T, text string, call func(s api.Schema, q api.Stmt) T) {
	t.Helper()
	s, q := some(), parsed(t, text)
	roomy(reflect.ValueOf(&s).Elem())
	roomy(reflect.ValueOf(&q).Elem())
	was := whole(reflect.ValueOf(s)) + whole(reflect.ValueOf(q))
	one, two := call(s, q), call(s, q)
	if whole(reflect.ValueOf(s))+whole(reflect.ValueOf(q)) != was {
		t.Errorf("%q: what was handed in has changed", text)
	}
	told := full(two)
	if full(one) != told {
		t.Errorf("%q: %s, and then %s", text, dump(one), told)
	}
	seen := map[uintptr]string{}
	for _, v := range []any{s, q, one, two} {
		apart(t, reflect.ValueOf(v), seen)
	}
	spoil(reflect.ValueOf(&one).Elem())
	if whole(reflect.ValueOf(s))+whole(reflect.ValueOf(q)) != was || full(two) != told {
		t.Errorf("%q: an answer is shared", text)
	}
	spoil(reflect.ValueOf(&s).Elem())
	spoil(reflect.ValueOf(&q).Elem())
	if full(two) != told {
		t.Errorf("%q: what was handed in is kept", text)
	}
}

// R4: what is handed in is neither changed nor kept; what is answered is new.
func TestMemory(t *testing.T) {
	for _, text := range kinds() {
		if _, e := Resolve(some(), parsed(t, text)); e != api.OK {
			t.Errorf("Resolve of %q: error %d", text, e)
		}
		checkMemory(t, text, func(s api.Schema, q api.Stmt) api.Stmt {
			made, _ := Resolve(s, q)
			return made
		})
		checkMemory(t, text, func(s api.Schema, q api.Stmt) []api.Column {
			cols, _ := Scope(s, q.From)
			return cols
		})
		checkMemory(t, text, func(_ api.Schema, q api.Stmt) []api.Expr { return Aggregates(q) })
		checkMemory(t, text, func(_ api.Schema, q api.Stmt) bool { return Grouped(q) })
	}
	for _, text := range []string{"select *, nope from t", "select a, count(*) from t", "insert into t values (1), (nope)", "update t set a = a + 1, b = nope", "delete from t where d and nope"} {
		checkMemory(t, text, func(s api.Schema, q api.Stmt) api.Stmt {
			made, e := Resolve(s, q)
			if e == api.OK {
				t.Errorf("Resolve of %q: no error", text)
			}
			return made
		})
	}
}

// R3: a list that is empty may be nil or not.
func TestEmptyLists(t *testing.T) {
	for _, text := range kinds() {
		q := parsed(t, text)
		want, e := Resolve(some(), q)
		emptied(reflect.ValueOf(&q).Elem())
		if made := checkResolve(t, some(), q, e); !same(made, want) {
			t.Errorf("%q with empty lists: %s, want %s", text, dump(made), dump(want))
		}
	}
}

func emptied(v reflect.Value) {
	switch v.Kind() {
	case reflect.Slice:
		if v.Len() == 0 {
			v.Set(reflect.MakeSlice(v.Type(), 0, 2))
		}
		for i := range v.Len() {
			emptied(v.Index(i))
		}
	case reflect.Struct:
		for i := range v.NumField() {
			emptied(v.Field(i))
		}
	}
}

// scatter lays anything into a value, lists of some members.
func scatter(c *rand.Rand, v reflect.Value, deep int) {
	switch v.Kind() {
	case reflect.Slice:
		n := c.Intn(4)
		if deep <= 0 {
			n = 0
		}
		v.Set(reflect.MakeSlice(v.Type(), n, n))
		for i := range n {
			scatter(c, v.Index(i), deep-1)
		}
	case reflect.Struct:
		for i := range v.NumField() {
			scatter(c, v.Field(i), deep)
		}
	case reflect.Int, reflect.Int64:
		v.SetInt(int64(c.Intn(12) - 2))
	case reflect.Bool:
		v.SetBool(c.Intn(2) == 0)
	case reflect.String:
		v.SetString([]string{"", "a", "t", "'", "\x00\xff"}[c.Intn(5)])
	}
}

// R1: of statements and schemas that are not right each call ends, and changes
// nothing.
func TestNotRight(t *testing.T) {
	t.Parallel()
	c := rand.New(rand.NewSource(5))
	errors := map[api.Errno]int{}
	for range 6000 {
		var s api.Schema
		var q api.Stmt
		scatter(c, reflect.ValueOf(&s).Elem(), 3)
		scatter(c, reflect.ValueOf(&q).Elem(), 3)
		if c.Intn(2) == 0 {
			s = some()
		}
		was := full(s) + full(q)
		made, e := Resolve(s, q)
		if e != api.OK && !same(made, api.Stmt{}) {
			t.Fatalf("Resolve of %s: %s beside the error %d", dump(q), dump(made), e)
		}
		if cols, e := Scope(s, q.From); e != api.OK && len(cols) != 0 {
			t.Fatalf("Scope of %s: %v beside the error %d", dump(q), cols, e)
		}
		Grouped(q)
		Aggregates(q)
		if full(s)+full(q) != was {
			t.Fatalf("what was handed in has changed: %s", dump(q))
		}
		errors[e]++
	}
	t.Log(errors)
}

// R1: expressions that are nested deep, and long lists.
func TestLarge(t *testing.T) {
	const many = 1 << 16
	one := api.Expr{Kind: api.ELit, Value: api.Value{Kind: api.Int, Int: 1}}
	left, right, signs := one, one, one
	for range many {
		left = api.Expr{Kind: api.EBin, Op: api.Add, Args: []api.Expr{left, one}}
		right = api.Expr{Kind: api.EBin, Op: api.Add, Args: []api.Expr{one, right}}
		signs = api.Expr{Kind: api.EUnary, Op: api.Neg, Args: []api.Expr{signs}}
	}
	for _, e := range []api.Expr{left, right, signs} {
		q := api.Stmt{Kind: api.SSelect, Limit: -1, Items: []api.Item{{Expr: e}}, Group: []api.Expr{one}}
		if made, errno := Resolve(some(), q); errno != api.OK || made.Items[0].Expr.Type != api.Int {
			t.Errorf("%d nested: error %d", many, errno)
		}
		q.Items[0].Expr = api.Expr{Kind: api.EAgg, Op: api.Sum, Args: []api.Expr{e}}
		if made, errno := Resolve(some(), q); errno != api.OK || len(Aggregates(made)) != 1 {
			t.Errorf("SUM of %d nested: error %d", many, errno)
		}
		q.Having = []api.Expr{{Kind: api.EUnary, Op: api.Not, Args: []api.Expr{e}}}
		checkDeep(t, q, api.ErrType)
	}
	q := api.Stmt{Kind: api.SSelect, Limit: -1, From: []api.From{{Table: "t", Alias: "t"}}}
	insert := api.Stmt{Kind: api.SInsert, Name: "t", Names: []string{"a"}}
	for range many {
		q.Items = append(q.Items, api.Item{Star: true})
		q.Order = append(q.Order, api.Order{Expr: one})
		insert.Rows = append(insert.Rows, []api.Expr{one})
	}
	if made, e := Resolve(some(), q); e != api.OK || len(made.Items) != 4*many {
		t.Errorf("%d stars: %d items, error %d", many, len(made.Items), e)
	}
	if made, e := Resolve(some(), insert); e != api.OK || len(made.Rows) != many {
		t.Errorf("%d rows: %d rows, error %d", many, len(made.Rows), e)
	}
	insert.Rows[many-1] = []api.Expr{one, one}
	checkDeep(t, insert, api.ErrCount)
	var from []api.From
	for range 1000 {
		from = append(from, api.From{Table: "wide", Alias: strings.Repeat("x", len(from))})
	}
	if cols, e := Scope(some(), from); e != api.OK || len(cols) != 16000 {
		t.Errorf("Scope of 1000 tables: %d columns, error %d", len(cols), e)
	}
}

func checkDeep(t *testing.T, q api.Stmt, want api.Errno) {
	t.Helper()
	if made, e := Resolve(some(), q); e != want || !same(made, api.Stmt{}) {
		t.Errorf("error %d, want %d", e, want)
	}
}

// The longest texts that can be read are resolved in good time, whatever must be
// held against each other there.
func TestLongest(t *testing.T) {
	chain := func(n int) string { return "a" + strings.Repeat("+a", n) }
	half := chain(4000)
	for text, want := range map[string]api.Errno{
		"select " + half + " from t group by " + half:                 api.OK,
		"select " + half + "+1 from t group by " + half:               api.OK,
		"select " + half + " from t group by " + half + "-1":          api.ErrGroup,
		"select sum(" + half + "),sum(" + half + "-1) from t":         api.OK,
		"select " + strings.Repeat("sum(a)+", 2000) + "max(1) from t": api.OK,
	} {
		if len(text) > api.MaxText {
			t.Fatalf("%d bytes", len(text))
		}
		q, err := stmt.Parse(text)
		if err != nil {
			t.Fatalf("%.50q: %v", text, err)
		}
		if _, e := Resolve(some(), q); e != want {
			t.Errorf("%.50q: error %d, want %d", text, e, want)
		}
	}
}
