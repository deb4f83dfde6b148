package stmt

import (
	"math"
	"math/rand"
	"reflect"
	"strings"
	"testing"

	"quarry/api"
)

// checkPrint parses a text, and looks at what stands for its statement.
func checkPrint(t *testing.T, text, want string) {
	t.Helper()
	s, err := Parse(text)
	if err != nil || Print(s) != want {
		t.Errorf("Print of %q: %q, %v, want %q", short(text), short(Print(s)), err, short(want))
		return
	}
	checkAgain(t, s)
}

// 14.2: every kind of statement, and what may be left out.
func TestPrint(t *testing.T) {
	for text, want := range map[string]string{
		"select*":                            "SELECT *",
		"select*,*,a":                        "SELECT *, *, a",
		"select distinct*":                   "SELECT DISTINCT *",
		"select distinct a,(b),((c+1))*2":    "SELECT DISTINCT a, b, (c + 1) * 2",
		"select 'it''s',x'0a',null,true,007": "SELECT 'it''s', X'0A', NULL, TRUE, 7",
		"select Count(*),SUM(A)from T":       "SELECT COUNT(*), SUM(a) FROM t",
		"select-a":                           "SELECT - a",
		"select a-(-(b))from t":              "SELECT a - - b FROM t",
		"select 1 from t":                    "SELECT 1 FROM t",
		"select 1 from t as t":               "SELECT 1 FROM t",
		"select 1 from t as T":               "SELECT 1 FROM t",
		"select 1 from t as x":               "SELECT 1 FROM t AS x",
		"select 1 from t,u":                  "SELECT 1 FROM t, u",
		"select 1 from t ,u as x , t as t":   "SELECT 1 FROM t, u AS x, t",
		"select 1 from t join u on(a)":       "SELECT 1 FROM t JOIN u ON a",
		"select 1 from t as x join t as t on a=b join v as w on c or d,y": "SELECT 1 FROM t AS x JOIN t ON a = b JOIN v AS w ON c OR d, y",
		"select 1 from t,u join v on a":                                   "SELECT 1 FROM t, u JOIN v ON a",
		"select 1 where(a)":                                               "SELECT 1 WHERE a",
		"select 1 from t where(a or b)and c":                              "SELECT 1 FROM t WHERE (a OR b) AND c",
		"select 1 group by a":                                             "SELECT 1 GROUP BY a",
		"select 1 group by a,b||c":                                        "SELECT 1 GROUP BY a, b || c",
		"select 1 having a is not null":                                   "SELECT 1 HAVING a IS NOT NULL",
		"select 1 order by a":                                             "SELECT 1 ORDER BY a",
		"select 1 order by a asc":                                         "SELECT 1 ORDER BY a",
		"select 1 order by a asc,b desc,c":                                "SELECT 1 ORDER BY a, b DESC, c",
		"select 1 order by(a=b)desc":                                      "SELECT 1 ORDER BY a = b DESC",
		"select 1 limit 3":                                                "SELECT 1 LIMIT 3",
		"select 1 limit 0":                                                "SELECT 1 LIMIT 0",
		"select 1 limit 003 offset 0":                                     "SELECT 1 LIMIT 3",
		"select 1 limit 0 offset 0":                                       "SELECT 1 LIMIT 0",
		"select 1 limit 0 offset 9":                                       "SELECT 1 LIMIT 0 OFFSET 9",
		"select 1 limit 2147483647 offset 2147483647;":                    "SELECT 1 LIMIT 2147483647 OFFSET 2147483647",
		"select distinct a from t where b group by c having d order by e limit 1 offset 2;": "SELECT DISTINCT a FROM t WHERE b GROUP BY c HAVING d ORDER BY e LIMIT 1 OFFSET 2",
		"insert into t values(1)":                                      "INSERT INTO t VALUES (1)",
		"insert into t values ( 1 , 'x' ),( 2,null );":                 "INSERT INTO t VALUES (1, 'x'), (2, NULL)",
		"insert into t(a)values((1))":                                  "INSERT INTO t (a) VALUES (1)",
		"insert into T ( A,b )values(abs( 1 ),- 2)":                    "INSERT INTO t (a, b) VALUES (ABS(1), - 2)",
		"update t set a=1":                                             "UPDATE t SET a = 1",
		"update t set a=(b=c),d=not e where f":                         "UPDATE t SET a = b = c, d = NOT e WHERE f",
		"delete from t":                                                "DELETE FROM t",
		"delete from t where a<>b;":                                    "DELETE FROM t WHERE a <> b",
		"create table t(a int)":                                        "CREATE TABLE t (a INT)",
		"create table t(a int not null,b TEXT,c blob,d bool not null)": "CREATE TABLE t (a INT NOT NULL, b TEXT, c BLOB, d BOOL NOT NULL)",
		"create index i on t(a)":                                       "CREATE INDEX i ON t (a)",
		"create index i on t(a asc)":                                   "CREATE INDEX i ON t (a)",
		"create unique index i on t( a desc,b asc,c )":                 "CREATE UNIQUE INDEX i ON t (a DESC, b, c)",
		"drop table t":                                                 "DROP TABLE t",
		"drop index i":                                                 "DROP INDEX i",
		"begin;":                                                       "BEGIN",
		"commit":                                                       "COMMIT",
		"rollback":                                                     "ROLLBACK",
		"savepoint S":                                                  "SAVEPOINT s",
		"release s":                                                    "RELEASE s",
		"rollback to s":                                                "ROLLBACK TO s",
	} {
		checkPrint(t, text, want)
		checkPrint(t, want, want)
	}
}

// 14.2: of a statement that nobody has read, as others make them.
func TestPrintMade(t *testing.T) {
	for want, s := range map[string]api.Stmt{
		"CREATE TABLE t (a INT)":                 {Kind: api.SCreateTable, Name: "t", Cols: []api.Column{{Name: "a", Type: api.Int}}},
		"CREATE UNIQUE INDEX i ON t (a DESC, b)": {Kind: api.SCreateIndex, Name: "i", Table: "t", Names: []string{"a", "b"}, Desc: []bool{true, false}, Unique: true},
		"SELECT * FROM t, u AS v":                {Kind: api.SSelect, Items: items("*"), From: []api.From{{Table: "t", Alias: "t", On: []api.Expr{}}, {Table: "u", Alias: "v"}}, Where: []api.Expr{}, Order: []api.Order{}, Limit: -1},
		"INSERT INTO t VALUES (1)":               {Kind: api.SInsert, Name: "t", Names: []string{}, Rows: [][]api.Expr{exs("1")}},
	} {
		if text := Print(s); text != want {
			t.Errorf("Print(%s): %q, want %q", dump(s), text, want)
		}
		checkAgain(t, s)
	}
}

// 14.2: nothing, if the Kind is none; of all other statements some text.
func TestPrintNothing(t *testing.T) {
	full := api.Stmt{Name: "t", Table: "u", Distinct: true, Items: items("*", "a"), From: []api.From{{Table: "t", Alias: "x", On: exs("a")}}, Where: exs("a", "b"), Group: exs("a"), Having: exs("a"), Order: []api.Order{{Expr: ex("a")}},
		Limit: 1, Offset: 1, Cols: []api.Column{{Name: "a", Type: 9}}, Names: []string{"a", "b"}, Desc: []bool{true}, Unique: true, Rows: [][]api.Expr{nil, exs("1")}, Sets: []api.Set{{Name: "a"}}}
	for _, kind := range []int{math.MinInt, -1, 0, 15, 16, 100, 1 << 32, math.MaxInt} {
		for _, s := range []api.Stmt{{}, full} {
			s.Kind = kind
			if text := Print(s); text != "" {
				t.Errorf("Print of kind %d: %q", kind, text)
			}
		}
	}
	for kind := 1; kind <= 14; kind++ {
		for _, s := range []api.Stmt{{}, full} {
			s.Kind = kind
			if text := Print(s); text == "" {
				t.Errorf("Print of kind %d: nothing", kind)
			}
		}
	}
}

// fill lays anything into a value, lists of some members.
func fill(c *rand.Rand, v reflect.Value, deep int) {
	switch v.Kind() {
	case reflect.Slice:
		n := c.Intn(4)
		if deep <= 0 {
			n = 0
		}
		v.Set(reflect.MakeSlice(v.Type(), n, n))
		for i := range n {
			fill(c, v.Index(i), deep-1)
		}
	case reflect.Struct:
		for i := range v.NumField() {
			fill(c, v.Field(i), deep)
		}
	case reflect.Int, reflect.Int64:
		v.SetInt(int64(c.Intn(20) - 2))
	case reflect.Bool:
		v.SetBool(c.Intn(2) == 0)
	case reflect.String:
		v.SetString([]string{"", "a", "select", "'", "\x00\xff", ";", "--"}[c.Intn(7)])
	}
}

// R1, R4: Print of any statement ends, and changes nothing.
func TestPrintByChance(t *testing.T) {
	t.Parallel()
	c := rand.New(rand.NewSource(4))
	for range 5000 {
		var s api.Stmt
		fill(c, reflect.ValueOf(&s).Elem(), 4)
		was := dump(s)
		text := Print(s)
		if (text != "") != (s.Kind >= 1 && s.Kind <= 14) || dump(s) != was {
			t.Fatalf("Print(%s): %q", dump(s), text)
		}
	}
}

// R1: long lists, and expressions that are nested deep.
func TestPrintLong(t *testing.T) {
	deep := ex("a")
	for range 1 << 16 {
		deep = api.Expr{Kind: api.EBin, Op: api.Add, Args: []api.Expr{ex("b"), deep}}
	}
	s := api.Stmt{Kind: api.SDelete, Name: "t", Where: []api.Expr{deep}}
	if text := Print(s); len(text) < 1<<18 {
		t.Errorf("%d bytes", len(text))
	}
	const many = 1 << 16
	rows := make([][]api.Expr, many)
	for i := range rows {
		rows[i] = exs("1")
	}
	s = api.Stmt{Kind: api.SInsert, Name: "t", Rows: rows}
	if text := Print(s); text != "INSERT INTO t VALUES "+strings.TrimSuffix(strings.Repeat("(1), ", many), ", ") {
		t.Errorf("%d bytes", len(text))
	}
	if _, err := Parse(Print(s)); err == nil || err.(*api.Fault).Err != api.ErrLong || err.(*api.Fault).At != 0 {
		t.Errorf("%v", err)
	}
}
