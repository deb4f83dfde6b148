package stmt

import (
	"slices"
	"strings"
	"testing"

	"quarry/api"
)

var keywords = strings.Fields("select distinct from join on where group by having order asc desc limit offset as insert into values update set delete create table unique index drop not null is and or true false begin commit rollback to savepoint release int text blob bool")

var symbols = strings.Fields("<> <= >= || ( ) , . * = < > + - / % ;")

var tooLongName = strings.Repeat("n", 25)

// vocabulary is each token that may stand in a text, and names and values.
func vocabulary() []string {
	return slices.Concat(keywords, symbols, []string{"a", "count", "length", tooLongName, "1", "2147483648", "'x'", "x'00'"})
}

// firsts are the tokens with which members begin.
func firsts() map[string][]string {
	expression := strings.Fields("a count length 1 2147483648 'x' x'00' null true false not - (")
	return map[string][]string{"expression": expression, "item": append([]string{"*"}, expression...), "name": {"a", "count", "length"}, "row": {"("}}
}

// listOf is a list in a statement: what stands ahead of it, with how many members
// already; what stands between its members; one of them; what stands behind.
type listOf struct {
	ahead                   string
	already                 int
	between, member, behind string
	begins                  string
	most                    int
	count                   func(api.Stmt) int
}

func lists() map[string]listOf {
	from := func(s api.Stmt) int { return len(s.From) }
	items := func(s api.Stmt) int { return len(s.Items) }
	names := func(s api.Stmt) int { return len(s.Names) }
	return map[string]listOf{
		"items":         {"select ", 0, ", ", "a + 1", " from t", "item", 32, items},
		"stars":         {"select distinct ", 0, " , ", "*", "", "item", 32, items},
		"tables":        {"select * from ", 0, ", ", "t as x", " where a", "name", 4, from},
		"plain tables":  {"select * from ", 0, ",", "t", "", "name", 4, from},
		"joins":         {"select * from t join ", 1, " join ", "u on a = b", " group by a", "name", 4, from},
		"tables joined": {"select * from t, u as a join ", 2, "  join ", "v as x on (a)", " order by a", "name", 4, from},
		"both":          {"select * from t join u on a, ", 2, ",", "v", "", "name", 4, from},
		"group":         {"select * group by ", 0, ",", "not a", " having 1", "expression", 32, func(s api.Stmt) int { return len(s.Group) }},
		"order":         {"select * order by ", 0, ", ", "- a desc", " limit 1", "expression", 32, func(s api.Stmt) int { return len(s.Order) }},
		"values":        {"insert into t values (", 0, ",", "(1)", ")", "expression", 32, func(s api.Stmt) int { return len(s.Rows[0]) }},
		"more values":   {"insert into t (a) values (1), (2, 3), (5, ", 1, ", ", "null", "), (1)", "expression", 32, func(s api.Stmt) int { return len(s.Rows[2]) }},
		"rows":          {"insert into t values ", 0, ", ", "(1, 'x')", "", "row", 32, func(s api.Stmt) int { return len(s.Rows) }},
		"names":         {"insert into t (", 0, ",", "a", ") values (1)", "name", 32, names},
		"settings":      {"update t set ", 0, ",", "a = b", " where c", "name", 32, func(s api.Stmt) int { return len(s.Sets) }},
		"columns":       {"create table t (", 0, ", ", "a int not null", ")", "name", 32, func(s api.Stmt) int { return len(s.Cols) }},
		"places":        {"create index i on t (", 0, ",", "a desc", ")", "name", 32, names},
	}
}

// up is the statement up to its n-th member.
func (l listOf) up(n int) string {
	return l.ahead + strings.TrimSuffix(strings.Repeat(l.member+l.between, n-l.already), l.between)
}

// 14.1: lists with any number of members, up to the most.
func TestLists(t *testing.T) {
	for name, l := range lists() {
		for n := l.already + 1; n <= l.most; n++ {
			text := l.up(n) + l.behind
			s, err := Parse(text)
			if err != nil || l.count(s) != n {
				t.Errorf("%s: Parse(%q): %s, %v, want %d members", name, short(text), dump(s), err, n)
				continue
			}
			checkAgain(t, s)
		}
	}
}

// 14.1: a member more than the most is told at its first token, whatever stands
// behind it; what begins no member is told as itself.
func TestListsTooLong(t *testing.T) {
	for name, l := range lists() {
		full := l.up(l.most) + l.between
		for _, more := range []string{l.member + l.behind, l.member, l.member + l.behind + ";", l.member + l.between + l.member, l.member + l.between, l.member + " )", l.member + " select", l.member + strings.Repeat(l.between+l.member, 100) + l.behind} {
			checkFaults(t, api.ErrLong, full+"!"+more)
		}
		begins := firsts()[l.begins]
		for _, token := range vocabulary() {
			e := api.ErrSyntax
			if slices.Contains(begins, token) {
				e = api.ErrLong
			}
			for _, behind := range []string{"", " ", " a", " )", " ,", " = 1", " int", " ( )", ";"} {
				checkFaults(t, e, full+" !"+token+behind)
			}
		}
		checkFaults(t, api.ErrSyntax, full+"!")
		if len(begins) == 0 {
			t.Errorf("%s: nothing begins a member", name)
		}
	}
}

// 14.1: the first fault counts, read from the left on.
func TestFirstFault(t *testing.T) {
	items := strings.TrimSuffix(strings.Repeat("1, ", 32), ", ")
	checkFaults(t, api.ErrLong,
		"select "+items+", !1 from t, t, t, t, t", "select "+items+" from t, t, t, t, !t limit 2147483648", "select * limit !2147483648 offset 2147483648", "select * limit 1 offset !2147483648)",
		"select * from a, b, c, d, !e join on", "select * from a, b, c, d join !e", "select * from a, b, c, d join !e where", "select * from a join b on 1 join c on 2 join d on 3, !e as",
		"insert into t values ("+items+", !1, 2), ("+items+", 1)", "insert into t values "+strings.Repeat("("+items+"), ", 32)+"!("+items+", 1)", "insert into t values "+strings.Repeat("(1), ", 32)+"!()", "insert into t values "+strings.Repeat("(1), ", 32)+"!(1,)",
		"select "+items+", !a +", "select "+items+", !a + )", "select "+items+", !not", "select "+items+", !"+strings.Repeat("(", 40), "select "+items+", !length(1, 2)", "select "+items+", !a.", "select "+items+", !a is",
		"select 1 order by "+items+", !a desc asc", "update t set "+strings.Repeat("a = 1, ", 32)+"!a", "create table t ("+strings.Repeat("a int, ", 32)+"!a", "create table t ("+strings.Repeat("a int, ", 32)+"!a real)",
		"create index i on t ("+strings.Repeat("a, ", 32)+"!a b)")
	checkFaults(t, api.ErrSyntax,
		"select "+items+"!.5, 1", "select "+items+" !1, 1", "select "+items+" + !, 1", "select 1 !1 limit 2147483648", "select * from a, b, c, d !e", "select * from a, b, c, d as !, e", "select * limit !a offset 2147483648",
		"insert into t values ("+items+"!", "insert into t values "+strings.Repeat("(1), ", 31)+"(1) !(2)", "insert into t values "+strings.Repeat("(1), ", 31)+"(!)", "insert into t values "+strings.Repeat("(1), ", 31)+"(1 !2), (1)")
	checkFaults(t, api.ErrDepth, "select "+strings.Repeat("(", 32)+"!(1) from t, t, t, t, t", "select "+strings.Repeat("1, ", 31)+strings.Repeat("not ", 32)+"!not 1, 1")
}

// 14.1: an int of LIMIT and OFFSET, up to the greatest.
func TestInts(t *testing.T) {
	for text, n := range map[string]int{"0": 0, "1": 1, "007": 7, "2147483646": 1<<31 - 2, "2147483647": 1<<31 - 1, "0000000000000000000002147483647": 1<<31 - 1} {
		want := api.Stmt{Kind: api.SSelect, Items: items("*"), Limit: n}
		checkParse(t, "select * limit "+text, want)
		want.Offset = n
		checkParse(t, "select * limit "+text+" offset "+text, want)
		checkParse(t, "select * limit "+text+" offset "+text+";", want)
		want.Limit = 5
		checkParse(t, "select * from t limit 5 offset "+text, api.Stmt{Kind: api.SSelect, Items: items("*"), From: []api.From{{Table: "t", Alias: "t"}}, Limit: 5, Offset: n})
	}
	for _, text := range []string{"2147483648", "2147483649", "4294967295", "4294967296", "4294967297", "9223372036854775807", "002147483648"} {
		checkFaults(t, api.ErrLong, "select * limit !"+text, "select * limit !"+text+" offset 1", "select * limit !"+text+" offset", "select * limit !"+text+" )", "select * limit 1 offset !"+text, "select * limit 2147483647 offset !"+text+" limit", "select * limit 0 offset !"+text+";")
		checkParse(t, "select "+text, api.Stmt{Kind: api.SSelect, Items: items(text), Limit: -1})
	}
	// Tokens' error comes first
	checkFault(t, "select * limit 9223372036854775808", 15, api.ErrSyntax)
	checkFault(t, "select * limit 2147483648 offset 9223372036854775808", 33, api.ErrSyntax)
	for _, token := range vocabulary() {
		if token == "1" || token == "2147483648" {
			continue
		}
		checkFaults(t, api.ErrSyntax, "select * limit !"+token, "select * limit !"+token+" 1", "select * limit 1 offset !"+token, "select * limit 1 offset !"+token+" 1")
	}
	checkFaults(t, api.ErrSyntax, "select * limit 1 !+ 1", "select * limit 1 !, 1", "select * limit !(1)", "select * !offset 1", "select * limit 1 offset 1 !limit 1", "select * limit 1 !2", "select * limit 1 offset 2 !3", "select * limit 1 !. 5")
}
