package stmt

import (
	"errors"
	"fmt"
	"reflect"
	"strings"
	"testing"

	"quarry/api"
	"quarry/expr"
	"quarry/lexer"
)

func tokensOf(t *testing.T, text string) []api.Token {
	t.Helper()
	l, err := lexer.Tokens(text)
	if err != nil {
		t.Fatalf("Tokens(%q): %v", text, err)
	}
	return l
}

// ex is the expression that a text is.
func ex(text string) api.Expr {
	l, err := lexer.Tokens(text)
	if err != nil {
		panic(err)
	}
	e, behind, err := expr.Read(l, 0)
	if err != nil || behind != len(l) {
		panic(text + " is no expression")
	}
	return e
}

// exs are the expressions that texts are.
func exs(texts ...string) []api.Expr {
	var l []api.Expr
	for _, text := range texts {
		l = append(l, ex(text))
	}
	return l
}

// items are those of a SELECT, of which * is all columns.
func items(texts ...string) []api.Item {
	var l []api.Item
	for _, text := range texts {
		if text == "*" {
			l = append(l, api.Item{Star: true})
			continue
		}
		l = append(l, api.Item{Expr: ex(text)})
	}
	return l
}

// alike tells whether all fields are the same, where a list without members may
// be nil or not.
func alike(a, b reflect.Value) bool {
	switch a.Kind() {
	case reflect.Slice:
		if a.Len() != b.Len() {
			return false
		}
		for i := range a.Len() {
			if !alike(a.Index(i), b.Index(i)) {
				return false
			}
		}
		return true
	case reflect.Struct:
		for i := range a.NumField() {
			if !alike(a.Field(i), b.Field(i)) {
				return false
			}
		}
		return true
	}
	return a.Interface() == b.Interface()
}

func same(a, b api.Stmt) bool { return alike(reflect.ValueOf(a), reflect.ValueOf(b)) }

func short(s string) string {
	if len(s) > 300 {
		return s[:300] + ".."
	}
	return s
}

func dump(s api.Stmt) string { return short(fmt.Sprintf("%+v", s)) }

// checkParse holds what Parse answers against a statement with all its fields,
// and looks whether it comes back from its Print.
func checkParse(t *testing.T, text string, want api.Stmt) {
	t.Helper()
	s, err := Parse(text)
	if err != nil || !same(s, want) {
		t.Errorf("Parse(%q): %s, %v, want %s", short(text), dump(s), err, dump(want))
		return
	}
	checkAgain(t, s)
}

// checkAgain looks whether a statement is read again from its Print.
func checkAgain(t *testing.T, s api.Stmt) {
	t.Helper()
	text := Print(s)
	if len(text) > api.MaxText {
		return
	}
	again, err := Parse(text)
	if err != nil || !same(again, s) || Print(again) != text {
		t.Errorf("Parse(%q): %s, %v, Print %q, want %s", short(text), dump(again), err, short(Print(again)), dump(s))
	}
}

// checkFault looks for an error with its place, as the very types that the
// document names, and for nothing beside it.
func checkFault(t *testing.T, text string, place int, e api.Errno) {
	t.Helper()
	s, err := Parse(text)
	f, ok := err.(*api.Fault)
	if !ok || f == nil || !same(s, api.Stmt{}) {
		t.Errorf("Parse(%q): %s, %v, want a fault at %d alone", short(text), dump(s), err, place)
		return
	}
	if got, ok := f.Err.(api.Errno); !ok || got != e || f.At != place || !errors.Is(err, e) {
		t.Errorf("Parse(%q): %v, want %d: %v", short(text), err, place, e)
	}
}

// checkFaults parses texts in which a ! stands ahead of the token that does not
// fit, or at the end for want of one.
func checkFaults(t *testing.T, e api.Errno, texts ...string) {
	t.Helper()
	for _, text := range texts {
		fits, rest, found := strings.Cut(text, "!")
		if !found {
			t.Fatalf("no ! in %q", text)
		}
		l := tokensOf(t, fits+rest)
		place := len(fits)
		if strings.TrimSpace(rest) == "" {
			place = endOf(l)
		}
		checkFault(t, fits+rest, place, e)
	}
}

// endOf is the place behind all tokens that a fault tells.
func endOf(l []api.Token) int {
	if len(l) == 0 {
		return 0
	}
	return l[len(l)-1].At + 1
}

// The chapter's examples.
func TestExamples(t *testing.T) {
	text := "select a,b+1 from t as x join u on x.a=u.a where b>0 order by a desc limit 3;"
	checkParse(t, text, api.Stmt{
		Kind: api.SSelect, Items: items("a", "b + 1"), From: []api.From{{Table: "t", Alias: "x"}, {Table: "u", Alias: "u", On: exs("x.a = u.a")}},
		Where: exs("b > 0"), Order: []api.Order{{Expr: ex("a"), Desc: true}}, Limit: 3,
	})
	checkPrint(t, text, "SELECT a, b + 1 FROM t AS x JOIN u ON x.a = u.a WHERE b > 0 ORDER BY a DESC LIMIT 3")
	checkParse(t, "insert into t values (1, 'x'), (2, null)", api.Stmt{Kind: api.SInsert, Name: "t", Rows: [][]api.Expr{exs("1", "'x'"), exs("2", "null")}})
	checkParse(t, "create unique index i on t (a, b desc)", api.Stmt{Kind: api.SCreateIndex, Name: "i", Table: "t", Names: []string{"a", "b"}, Desc: []bool{false, true}, Unique: true})
	checkFaults(t, api.ErrSyntax, "!selec 1", "select!")
}

// parts of a SELECT, each of which may be there or not; one of their texts, with
// what it makes of a statement.
type part struct {
	text string
	lay  func(*api.Stmt)
}

func selectParts() [][]part {
	nothing := part{"", func(*api.Stmt) {}}
	return [][]part{
		{nothing, {"distinct", func(s *api.Stmt) { s.Distinct = true }}},
		{{"*", func(s *api.Stmt) { s.Items = items("*") }}, {"a + 1, *, count(*)", func(s *api.Stmt) { s.Items = items("a + 1", "*", "count(*)") }}},
		{nothing, {"from t", func(s *api.Stmt) { s.From = []api.From{{Table: "t", Alias: "t"}} }},
			{"from t as x, u join v as w on x.a = w.a", func(s *api.Stmt) {
				s.From = []api.From{{Table: "t", Alias: "x"}, {Table: "u", Alias: "u"}, {Table: "v", Alias: "w", On: exs("x.a = w.a")}}
			}}},
		{nothing, {"where a is null or b", func(s *api.Stmt) { s.Where = exs("a is null or b") }}},
		{nothing, {"group by a", func(s *api.Stmt) { s.Group = exs("a") }}, {"group by a, - b", func(s *api.Stmt) { s.Group = exs("a", "- b") }}},
		{nothing, {"having sum(a) > 1", func(s *api.Stmt) { s.Having = exs("sum(a) > 1") }}},
		{nothing, {"order by a", func(s *api.Stmt) { s.Order = []api.Order{{Expr: ex("a")}} }},
			{"order by a desc, b asc, c", func(s *api.Stmt) {
				s.Order = []api.Order{{Expr: ex("a"), Desc: true}, {Expr: ex("b")}, {Expr: ex("c")}}
			}}},
		{nothing, {"limit 7", func(s *api.Stmt) { s.Limit = 7 }}, {"limit 0 offset 9", func(s *api.Stmt) { s.Limit, s.Offset = 0, 9 }}},
	}
}

// 14.1: each part of a SELECT there and not there, with all others.
func TestSelect(t *testing.T) {
	count := 0
	var lay func(rest [][]part, text string, laid []part)
	lay = func(rest [][]part, text string, laid []part) {
		if len(rest) == 0 {
			want := api.Stmt{Kind: api.SSelect, Limit: -1}
			for _, p := range laid {
				p.lay(&want)
			}
			checkParse(t, text, want)
			count++
			return
		}
		for _, p := range rest[0] {
			lay(rest[1:], strings.TrimSpace(text+" "+p.text), append(laid, p))
		}
	}
	lay(selectParts(), "select", nil)
	if count != 2*2*3*2*3*2*3*3 {
		t.Errorf("%d texts", count)
	}
}

// 14.1: tables, with commas and JOINs in any order.
func TestFrom(t *testing.T) {
	table := func(name, alias string, on ...string) api.From {
		return api.From{Table: name, Alias: alias, On: exs(on...)}
	}
	for text, want := range map[string][]api.From{
		"t":                                  {table("t", "t")},
		"t as t":                             {table("t", "t")},
		"t as x":                             {table("t", "x")},
		"T AS X":                             {table("t", "x")},
		"t, t":                               {table("t", "t"), table("t", "t")},
		"t, u as t":                          {table("t", "t"), table("u", "t")},
		"t join u on 1":                      {table("t", "t"), table("u", "u", "1")},
		"t as u join u as t on t.a = u.a":    {table("t", "u"), table("u", "t", "t.a = u.a")},
		"t join u on a, v":                   {table("t", "t"), table("u", "u", "a"), table("v", "v")},
		"t, u join v on a and b, w as x":     {table("t", "t"), table("u", "u"), table("v", "v", "a and b"), table("w", "x")},
		"t join u on a join v on b":          {table("t", "t"), table("u", "u", "a"), table("v", "v", "b")},
		"a join b on (c) join d on e, count": {table("a", "a"), table("b", "b", "c"), table("d", "d", "e"), table("count", "count")},
		"a, b, c, d":                         {table("a", "a"), table("b", "b"), table("c", "c"), table("d", "d")},
	} {
		checkParse(t, "select 1 from "+text, api.Stmt{Kind: api.SSelect, Items: items("1"), From: want, Limit: -1})
		checkParse(t, "select 1 from "+text+" where z", api.Stmt{Kind: api.SSelect, Items: items("1"), From: want, Where: exs("z"), Limit: -1})
	}
}

// 14.1: items, and what is known of none of their places.
func TestItems(t *testing.T) {
	for text, want := range map[string][]api.Item{
		"*":                          items("*"),
		"*, *":                       items("*", "*"),
		"a":                          items("a"),
		"t.a, count, 'x', null":      items("t.a", "count", "'x'", "null"),
		"a * b, *, (c), - 1":         items("a * b", "*", "c", "- 1"),
		"count(*), *, sum(a)":        items("count(*)", "*", "sum(a)"),
		"not a = b or c, a is null":  items("not a = b or c", "a is null"),
		"((1)), substr(a, 1, b - 1)": items("1", "substr(a, 1, b - 1)"),
	} {
		checkParse(t, "select "+text, api.Stmt{Kind: api.SSelect, Items: want, Limit: -1})
		checkParse(t, "select distinct "+text+" from t", api.Stmt{Kind: api.SSelect, Distinct: true, Items: want, From: []api.From{{Table: "t", Alias: "t"}}, Limit: -1})
	}
}

// 14.1: INSERT, with names and without, with one row and more, of any length.
func TestInsert(t *testing.T) {
	for text, want := range map[string]api.Stmt{
		"insert into t values (1)":                         {Name: "t", Rows: [][]api.Expr{exs("1")}},
		"insert into t (a) values (1)":                     {Name: "t", Names: []string{"a"}, Rows: [][]api.Expr{exs("1")}},
		"insert into t (a, b) values (1, 2), (3)":          {Name: "t", Names: []string{"a", "b"}, Rows: [][]api.Expr{exs("1", "2"), exs("3")}},
		"insert into t (a, a) values ((1)), (- 2 + 3, a)":  {Name: "t", Names: []string{"a", "a"}, Rows: [][]api.Expr{exs("1"), exs("- 2 + 3", "a")}},
		"insert into values_ values (null), (x'00'), ('')": {Name: "values_", Rows: [][]api.Expr{exs("null"), exs("x'00'"), exs("''")}},
		"insert into abs (length) values (abs(1))":         {Name: "abs", Names: []string{"length"}, Rows: [][]api.Expr{exs("abs(1)")}},
	} {
		want.Kind = api.SInsert
		checkParse(t, text, want)
	}
}

// 14.1: UPDATE and DELETE, with WHERE and without.
func TestUpdateDelete(t *testing.T) {
	sets := func(pairs ...string) []api.Set {
		var l []api.Set
		for i := 0; i < len(pairs); i += 2 {
			l = append(l, api.Set{Name: pairs[i], Expr: ex(pairs[i+1])})
		}
		return l
	}
	for text, want := range map[string][]api.Set{
		"a = 1":                          sets("a", "1"),
		"a = a + 1, b = null":            sets("a", "a + 1", "b", "null"),
		"a = b = c, a = (d), e = not f":  sets("a", "b = c", "a", "d", "e", "not f"),
		"length = (1), abs = length (a)": sets("length", "1", "abs", "length(a)"),
	} {
		checkParse(t, "update t set "+text, api.Stmt{Kind: api.SUpdate, Name: "t", Sets: want})
		checkParse(t, "update t set "+text+" where a = 1 or b", api.Stmt{Kind: api.SUpdate, Name: "t", Sets: want, Where: exs("a = 1 or b")})
	}
	checkParse(t, "delete from t", api.Stmt{Kind: api.SDelete, Name: "t"})
	checkParse(t, "delete from t where a", api.Stmt{Kind: api.SDelete, Name: "t", Where: exs("a")})
	checkParse(t, "delete from t where not a is null", api.Stmt{Kind: api.SDelete, Name: "t", Where: exs("not a is null")})
}

// 14.1: CREATE TABLE with every type; CREATE INDEX, UNIQUE and not; DROP.
func TestCreateDrop(t *testing.T) {
	types := []struct {
		word string
		of   int
	}{{"bool", api.Bool}, {"int", api.Int}, {"text", api.Text}, {"blob", api.Blob}}
	for _, one := range types {
		checkParse(t, "create table t (a "+one.word+")", api.Stmt{Kind: api.SCreateTable, Name: "t", Cols: []api.Column{{Name: "a", Type: one.of}}})
		checkParse(t, "create table t (a "+one.word+" not null)", api.Stmt{Kind: api.SCreateTable, Name: "t", Cols: []api.Column{{Name: "a", Type: one.of, NotNull: true}}})
		for _, two := range types {
			checkParse(t, "create table t (a "+one.word+" not null, b "+two.word+", a "+one.word+")", api.Stmt{Kind: api.SCreateTable, Name: "t",
				Cols: []api.Column{{Name: "a", Type: one.of, NotNull: true}, {Name: "b", Type: two.of}, {Name: "a", Type: one.of}}})
		}
	}
	for text, want := range map[string]api.Stmt{
		"create index i on t (a)":                             {Names: []string{"a"}, Desc: []bool{false}},
		"create index i on t (a asc)":                         {Names: []string{"a"}, Desc: []bool{false}},
		"create index i on t (a desc)":                        {Names: []string{"a"}, Desc: []bool{true}},
		"create unique index i on t (a desc, b, c asc, a)":    {Names: []string{"a", "b", "c", "a"}, Desc: []bool{true, false, false, false}, Unique: true},
		"create unique index i on t (a asc, b desc)":          {Names: []string{"a", "b"}, Desc: []bool{false, true}, Unique: true},
		"create index i on t (a desc, b desc, length, _1asc)": {Names: []string{"a", "b", "length", "_1asc"}, Desc: []bool{true, true, false, false}},
	} {
		want.Kind, want.Name, want.Table = api.SCreateIndex, "i", "t"
		checkParse(t, text, want)
	}
	checkParse(t, "drop table t", api.Stmt{Kind: api.SDropTable, Name: "t"})
	checkParse(t, "drop index i", api.Stmt{Kind: api.SDropIndex, Name: "i"})
}

// 14.1: the statements of transactions.
func TestTransactions(t *testing.T) {
	for text, want := range map[string]api.Stmt{
		"begin": {Kind: api.SBegin}, "commit": {Kind: api.SCommit}, "rollback": {Kind: api.SRollback}, "rollback to s": {Kind: api.SRollbackTo, Name: "s"},
		"savepoint s": {Kind: api.SSavepoint, Name: "s"}, "release s": {Kind: api.SRelease, Name: "s"},
		"savepoint count": {Kind: api.SSavepoint, Name: "count"}, "release savepoint_": {Kind: api.SRelease, Name: "savepoint_"}, "rollback to to_": {Kind: api.SRollbackTo, Name: "to_"},
	} {
		checkParse(t, text, want)
	}
}

// wholes are statements, one of each shape; where one may end, a | stands.
func wholes() []string {
	return []string{
		"select distinct *|, a|, b| + 1| from t| as x|, u| join v as w on x| . a| = w| . a| join z on 1| where b| > 0| group by a|, b| + 1| having count| ( * )| > 1| order by a| desc|, b| asc|, c| limit 3| offset 4|",
		"select a| where b| order by c|", "select 1| having 2| limit 3|", "select 1| group by a| limit 1| offset 1|", "select *| from a|, b|, c|, d|", "select - 1|", "select ( a )|", "select not a| is null|",
		"insert into t values ( 1 )|, ( 'x' , null )|", "insert into t ( a ) values ( x'00' )|", "insert into t ( a , b ) values ( 1 + 2 , - a . b )|, ( 3 )|, ( count ( a ) )|",
		"update t set a = 1|, b = b| + 1| where c| or d|", "update t set a = b| = c|", "delete from t| where a| is not null|",
		"create table t ( a int )|", "create table t ( a text not null , b blob , c bool not null )|",
		"create index i on t ( a )|", "create unique index i on t ( a asc , b desc , c )|", "drop table t|", "drop index i|",
		"begin|", "commit|", "rollback| to s|", "savepoint s|", "release s|",
	}
}

// beginnings goes through the words of such a text, and says of each beginning
// whether a statement may end there.
func beginnings(text string, each func(beginning string, whole bool)) {
	each("", false)
	words := strings.Fields(strings.NewReplacer("|", " | ").Replace(text))
	made := ""
	for i, word := range words {
		if word == "|" {
			continue
		}
		made = strings.TrimSpace(made + " " + word)
		each(made, i+1 < len(words) && words[i+1] == "|")
	}
}

// 14.1: where tokens end ahead of the statement's end, the fault is 1 behind the
// last one's place; a beginning that is a statement is one.
func TestEnds(t *testing.T) {
	for _, text := range wholes() {
		beginnings(text, func(beginning string, whole bool) {
			if whole {
				s, err := Parse(beginning)
				if err != nil {
					t.Errorf("Parse(%q): %v", beginning, err)
					return
				}
				checkAgain(t, s)
				checkParse(t, beginning+" ;", s)
				checkParse(t, beginning+";  -- ;\n", s)
				checkFaults(t, api.ErrSyntax, beginning+"; !;", beginning+" ; !select 1", beginning+"; !x", beginning+";!1", beginning+" !set", beginning+" !)", beginning+" !into")
				return
			}
			for _, behind := range []string{"", " ", "\n-- x", "\t\r\n "} {
				checkFault(t, beginning+behind, endOf(tokensOf(t, beginning)), api.ErrSyntax)
			}
			checkFaults(t, api.ErrSyntax, beginning+" !;", beginning+" !; begin")
		})
	}
}

// 14.1: of a text without tokens the fault is at 0; Tokens' error comes first.
func TestNoTokens(t *testing.T) {
	for _, text := range []string{"", " ", "\t\r\n  ", "-- select 1", "  -- a\n -- b"} {
		checkFault(t, text, 0, api.ErrSyntax)
	}
	for _, text := range []string{"select ?", "selec ?", "?", "select 'a", "select 1 from t 9223372036854775808 where", "begin; x'0g'", "a !", "select x'0'", "\x00begin", "begin \x80", "select 1; \"", "limit \n 99999999999999999999"} {
		_, want := lexer.Tokens(text)
		f, ok := want.(*api.Fault)
		if !ok {
			t.Fatalf("Tokens(%q): %v", text, want)
		}
		checkFault(t, text, f.At, api.ErrSyntax)
	}
	long := "select 1" + strings.Repeat(" ", api.MaxText-len("select 1"))
	checkParse(t, long, api.Stmt{Kind: api.SSelect, Items: items("1"), Limit: -1})
	checkFault(t, long+" ", 0, api.ErrLong)
	checkFault(t, long+"?", 0, api.ErrLong)
	checkFault(t, strings.Repeat("?", 1<<20), 0, api.ErrLong)
}

// 14.1: large and small letters, and what stands between tokens, do not matter.
func TestLetters(t *testing.T) {
	for _, text := range wholes() {
		text = strings.ReplaceAll(text, "|", "")
		want, err := Parse(text)
		if err != nil {
			t.Fatalf("Parse(%q): %v", text, err)
		}
		mixed := []byte(text)
		for i := range mixed {
			if i%2 == 0 {
				mixed[i] = strings.ToUpper(text)[i]
			}
		}
		for _, other := range []string{strings.ToUpper(text), string(mixed), strings.ReplaceAll(text, " ", "\n\t"), "  " + strings.ReplaceAll(text, " ", " --\n") + " -- x", strings.ReplaceAll(text, " , ", ",")} {
			if strings.Contains(text, "'x'") {
				other = strings.ReplaceAll(other, "'X'", "'x'")
			}
			checkParse(t, other, want)
		}
	}
}

// 14.1: texts are no keywords, and keywords no texts.
func TestQuoted(t *testing.T) {
	checkFaults(t, api.ErrSyntax, "!'begin'", "!'select' 1", "select 1 !'from' t", "select 1 from !'t'", "select 1 from t !'where' a", "select 1 from t !'as' x", "select '*' !'b'", "!x'626567696e'", "drop !'table' t", "drop table !'t'", "begin !';'", "select 1 from t !',' u", "insert into t !'(' a) values (1)", "update t set a !'=' 1", "select 1 limit !'1'", "create table t (a !'int')")
}

// R4: what is answered shares nothing with another answer, or with itself.
func TestMemory(t *testing.T) {
	for _, text := range wholes() {
		text = strings.ReplaceAll(text, "|", "")
		one, _ := Parse(text)
		two, _ := Parse(text)
		was := dump(two)
		Print(one)
		if dump(one) != was {
			t.Errorf("Print has changed %q: %s", text, dump(one))
		}
		spoil(reflect.ValueOf(&one).Elem())
		if dump(two) != was {
			t.Errorf("%q: it was %s, is %s", text, was, dump(two))
		}
		apart(t, reflect.ValueOf(two), map[uintptr]bool{})
	}
}

// spoil writes over all that lists hold, and what lies in their spare room.
func spoil(v reflect.Value) {
	switch v.Kind() {
	case reflect.Slice:
		v = v.Slice(0, v.Cap())
		for i := range v.Len() {
			spoil(v.Index(i))
		}
	case reflect.Struct:
		for i := range v.NumField() {
			spoil(v.Field(i))
		}
	case reflect.Int, reflect.Int64:
		v.SetInt(99)
	case reflect.Bool:
		v.SetBool(!v.Bool())
	case reflect.String:
		v.SetString("spoilt")
	}
}

// apart looks whether no two lists of an answer lie in one memory.
func apart(t *testing.T, v reflect.Value, seen map[uintptr]bool) {
	t.Helper()
	switch v.Kind() {
	case reflect.Slice:
		if v.Cap() > 0 {
			if seen[v.Pointer()] {
				t.Errorf("two lists share their memory")
			}
			seen[v.Pointer()] = true
		}
		for i := range v.Len() {
			apart(t, v.Index(i), seen)
		}
	case reflect.Struct:
		for i := range v.NumField() {
			apart(t, v.Field(i), seen)
		}
	}
}
