package stmt

import (
	"slices"
	"strings"
	"testing"

	"quarry/api"
)

// checkPlace puts each token at a place of a statement, where a ! stands, and
// looks whether those that do not fit there are told; of those that fit nothing
// is asked but that they are not told.
func checkPlace(t *testing.T, text string, fits ...string) {
	t.Helper()
	ahead, behind, _ := strings.Cut(text, "!")
	for _, token := range vocabulary() {
		if !slices.Contains(fits, token) {
			checkFaults(t, api.ErrSyntax, ahead+"!"+token+" "+behind, ahead+"!"+token)
			continue
		}
		place := len(ahead)
		for _, whole := range []string{ahead + token + " " + behind, ahead + token} {
			if _, err := Parse(whole); err != nil && err.(*api.Fault).At == place {
				t.Errorf("Parse(%q): %v, but it fits", whole, err)
			}
		}
	}
}

// 14.1: what fits at each place of each statement, and that all else is told there.
func TestPlaces(t *testing.T) {
	expression, names := firsts()["expression"], firsts()["name"]
	item := firsts()["item"]
	binary := strings.Fields("or and = <> < <= > >= is || + - * / %")
	tail := func(from string, more ...string) []string {
		words := strings.Fields("from where group having order limit ;")
		return append(slices.Clone(words[slices.Index(words, from):]), more...)
	}
	for text, fits := range map[string][]string{
		"!":                                strings.Fields("select insert update delete create drop begin commit rollback savepoint release"),
		"select ! 1":                       append([]string{"distinct"}, item...),
		"select distinct ! 1":              item,
		"select * !":                       tail("from", ","),
		"select 1 !":                       tail("from", append([]string{","}, binary...)...),
		"select a !":                       tail("from", append([]string{",", "."}, binary...)...),
		"select a is null !":               tail("from", ",", "and", "or"),
		"select * , ! from t":              item,
		"select * from !":                  names,
		"select * from t !":                tail("where", ",", "join", "as"),
		"select * from t as !":             names,
		"select * from t as x !":           tail("where", ",", "join"),
		"select * from t , !":              names,
		"select * from t join ! on 1":      names,
		"select * from t join u ! 1":       {"on", "as"},
		"select * from t join u as x ! 1":  {"on"},
		"select * from t join u on !":      expression,
		"select * from t join u on 1 !":    tail("where", append([]string{",", "join"}, binary...)...),
		"select * where !":                 expression,
		"select * where 1 !":               tail("group", binary...),
		"select * group ! a":               {"by"},
		"select * group by !":              expression,
		"select * group by 1 !":            tail("having", append([]string{","}, binary...)...),
		"select * group by 1 , !":          expression,
		"select * having !":                expression,
		"select * having 1 !":              tail("order", binary...),
		"select * order ! a":               {"by"},
		"select * order by !":              expression,
		"select * order by 1 !":            tail("limit", append([]string{",", "asc", "desc"}, binary...)...),
		"select * order by 1 asc !":        tail("limit", ","),
		"select * order by 1 desc !":       tail("limit", ","),
		"select * order by 1 , !":          expression,
		"select * limit 1 !":               {"offset", ";"},
		"select * limit 1 offset 1 !":      {";"},
		"select 1; !":                      {},
		"insert ! t values (1)":            {"into"},
		"insert into ! values (1)":         names,
		"insert into t ! (1)":              {"(", "values"},
		"insert into t (! ) values (1)":    names,
		"insert into t (a ! values (1)":    {",", ")"},
		"insert into t (a , !":             names,
		"insert into t (a) ! (1)":          {"values"},
		"insert into t values ! 1)":        {"("},
		"insert into t values (! )":        expression,
		"insert into t values (1 !":        append([]string{",", ")"}, binary...),
		"insert into t values (1 , !":      expression,
		"insert into t values (1) !":       {",", ";"},
		"insert into t values (1) , ! 1)":  {"("},
		"update ! set a = 1":               names,
		"update t ! a = 1":                 {"set"},
		"update t set ! = 1":               names,
		"update t set a ! 1":               {"="},
		"update t set a = !":               expression,
		"update t set a = 1 !":             append([]string{",", "where", ";"}, binary...),
		"update t set a = 1 , ! = 1":       names,
		"update t set a = 1 where !":       expression,
		"update t set a = 1 where 1 !":     append([]string{";"}, binary...),
		"delete ! t":                       {"from"},
		"delete from !":                    names,
		"delete from t !":                  {"where", ";"},
		"delete from t where !":            expression,
		"delete from t where 1 !":          append([]string{";"}, binary...),
		"create ! t (a int)":               {"table", "index", "unique"},
		"create unique ! i on t (a)":       {"index"},
		"create table ! (a int)":           names,
		"create table t ! a int)":          {"("},
		"create table t (! int)":           names,
		"create table t (a !":              {"int", "text", "blob", "bool"},
		"create table t (a int !":          {"not", ",", ")"},
		"create table t (a int not ! )":    {"null"},
		"create table t (a int not null !": {",", ")"},
		"create table t (a int, ! int)":    names,
		"create table t (a int) !":         {";"},
		"create index ! on t (a)":          names,
		"create index i ! t (a)":           {"on"},
		"create index i on ! (a)":          names,
		"create index i on t ! a)":         {"("},
		"create index i on t (!":           names,
		"create index i on t (a !":         {"asc", "desc", ",", ")"},
		"create index i on t (a asc !":     {",", ")"},
		"create index i on t (a desc !":    {",", ")"},
		"create index i on t (a, !":        names,
		"create index i on t (a) !":        {";"},
		"drop ! t":                         {"table", "index"},
		"drop table !":                     names,
		"drop index !":                     names,
		"drop table t !":                   {";"},
		"drop index i !":                   {";"},
		"begin !":                          {";"},
		"commit !":                         {";"},
		"rollback !":                       {"to", ";"},
		"rollback to !":                    names,
		"rollback to s !":                  {";"},
		"savepoint !":                      names,
		"savepoint s !":                    {";"},
		"release !":                        names,
		"release s !":                      {";"},
	} {
		checkPlace(t, text, fits...)
	}
}

// 14.1: names, wherever one must stand: of 24 bytes at most, and no keyword.
func TestNames(t *testing.T) {
	longest := strings.Repeat("n", 24)
	for _, text := range []string{
		"select 1 from !", "select 1 from t as !", "select 1 from t, !", "select 1 from t join ! on 1", "select 1 from t join u as ! on 1", "insert into ! values (1)", "insert into t (!) values (1)", "insert into t (a, !) values (1)",
		"update ! set a = 1", "update t set ! = 1", "update t set a = 1, ! = 1", "delete from !", "create table ! (a int)", "create table t (! int)", "create table t (a int, ! int)", "create index ! on t (a)", "create index i on ! (a)",
		"create index i on t (!)", "create index i on t (a, !)", "drop table !", "drop index !", "savepoint !", "release !", "rollback to !",
	} {
		ahead, behind, _ := strings.Cut(text, "!")
		for _, name := range []string{"a", "_", "_1", "a_b", "z9", "count", "length", "substr", longest} {
			s, err := Parse(ahead + name + behind)
			if err != nil || !strings.Contains(Print(s), name) {
				t.Errorf("Parse(%q): %s, %v", ahead+name+behind, dump(s), err)
			}
			upper, err := Parse(ahead + strings.ToUpper(name) + behind)
			if err != nil || !same(s, upper) {
				t.Errorf("Parse(%q): %s, %v, want %s", ahead+strings.ToUpper(name)+behind, dump(upper), err, dump(s))
			}
		}
		checkFaults(t, api.ErrSyntax, ahead+"!"+longest+"n"+behind, ahead+"!1a"+behind, ahead+"!'a'"+behind, ahead+"!x'61'"+behind)
		for _, keyword := range keywords {
			checkFaults(t, api.ErrSyntax, ahead+"!"+keyword+behind, ahead+"!"+strings.ToUpper(keyword)+behind)
		}
	}
	checkFaults(t, api.ErrSyntax, "select 1 from t!.u", "insert into t!.a values (1)", "insert into t (a!.b) values (1)", "update t set t!.a = 1", "create index i on t (t!.a)", "drop table t!.a", "select 1 from a !b", "select 1 from t as a !b")
}

// 14.1: expr.Read's error, wherever an expression must stand.
func TestExpressions(t *testing.T) {
	for _, text := range []string{
		"select !", "select distinct !", "select *, !", "select 1, ! from t", "select 1 from t join u on !", "select 1 from t join u on 1 join v on !, w", "select 1 where !", "select 1 group by !", "select 1 group by a, !", "select 1 having !",
		"select 1 order by !", "select 1 order by a desc, !", "insert into t values (!)", "insert into t values (1, !)", "insert into t (a) values (1), (!)", "update t set a = !", "update t set a = 1, b = !", "update t set a = 1 where !", "delete from t where !",
	} {
		ahead, behind, _ := strings.Cut(text, "!")
		for _, wrong := range []string{
			"!", "!)", "!,", "!;", "!=", "!from", "!where", "!desc", "!is null", "!+ 1", "!values", "!" + tooLongName, "!int", "a + !)", "a + !;", "a + !,", "a = != b", "a and !", "not !", "- !not a", "(a!", "(a !,", "(a!;", "length(a!,", "length(!)", "coalesce(a!)", "count(!)", "sum(!*)", "a.!", "a.!select", "a is !a", "a is not !a", "((a)!", "- !",
		} {
			if wrong == "!" || strings.HasSuffix(wrong, "!") {
				checkFaults(t, api.ErrSyntax, ahead+wrong)
				continue
			}
			checkFaults(t, api.ErrSyntax, ahead+wrong, ahead+wrong+" "+behind)
		}
		for _, deep := range []string{"(", "not ", "- ", "abs(", "not (", "(- "} {
			words := len(strings.Fields(strings.ReplaceAll(deep, "(", " ( "))) - strings.Count(deep, "abs")
			fits := strings.Repeat(deep, api.MaxDepth/words)
			close := strings.Repeat(")", strings.Count(fits, "("))
			s, err := Parse(ahead + fits + "1" + close + behind)
			if err != nil {
				t.Errorf("Parse(%q): %v", short(ahead+fits+"1"+close+behind), err)
			}
			checkAgain(t, s)
			for _, next := range []string{"!(", "!- 1", "abs!(1)", "coalesce!(1"} {
				checkFaults(t, api.ErrDepth, ahead+fits+next+close+behind, ahead+fits+next)
			}
		}
	}
}

// 14.1: what goes on behind an expression that is whole does not fit.
func TestBehindExpressions(t *testing.T) {
	checkFaults(t, api.ErrSyntax, "select a = b != c", "select a is null !is null", "select 1 !2", "select a !b from t", "select a !(b)", "select (a) !(b)", "select a.b!.c", "select a where b = c != d", "select 1 !not null", "select * !+ 1", "select * !.a", "select t.!*", "select *!*", "select * !a",
		"insert into t values (a !b)", "insert into t values (a = b != c)", "update t set a = b = c != d", "delete from t where a !b", "select a order by b !c", "select a group by b !desc", "select length(a)!(b)", "select foo!(a)", "select a where foo!(a)", "select a order by a desc !asc", "select a order by a asc !asc", "select a order by !desc", "create index i on t (a desc !desc)", "create index i on t (!desc)",
		"select 1 from t join u !", "select 1 from t join u !, v", "select 1 from t join u !join v on 1", "select 1 from t !on 1", "select 1 from t, u !on 1", "select 1 from t join u on 1 !on 2", "select 1 from !(t)", "select 1 from t !u")
}

// 14.1: the parts of a SELECT in another order, or twice.
func TestOrderOfParts(t *testing.T) {
	words := []string{"from t", "where a", "group by a", "having a", "order by a", "limit 1"}
	for i, one := range words {
		for j, two := range words {
			text := "select * " + one + " "
			if j > i {
				if _, err := Parse(text + two); err != nil {
					t.Errorf("Parse(%q): %v", text+two, err)
				}
				continue
			}
			checkFaults(t, api.ErrSyntax, text+"!"+two, text+";!"+two)
		}
	}
	checkFaults(t, api.ErrSyntax, "select !from t", "select distinct !distinct a", "select * !distinct", "select distinct !from t", "!from t select *", "!where a", "select * limit 1 !order by a", "delete from t !order by a", "delete from t !limit 1", "delete from t where a !limit 1", "update t set a = 1 !order by a", "update t set a = 1 where b !, c = 1", "update t !where b", "delete !t", "insert !t values (1)", "insert into t !select 1", "insert into t (a) !select 1", "insert into t !set a = 1", "insert into t (a)!, (b) values (1)")
}

// 14.1: what is near to a statement, and is none.
func TestNear(t *testing.T) {
	checkFaults(t, api.ErrSyntax,
		"!selec 1", "!selects 1", "!a", "!1", "!'select'", "!(select 1)", "!;", "!; begin", "!) begin", "begin !begin", "begin !transaction", "commit !work", "rollback !s", "rollback to !savepoint s", "rollback to s !t", "savepoint s !t", "release !savepoint s", "savepoint !", "release !", "rollback to !",
		"create !", "create unique !table t (a int)", "create !view v", "create table t !", "create table t (!)", "create table t (a !)", "create table t (a int,!)", "create table t (a int !null)", "create table t (a int not !)", "create table t (a int not null !not null)", "create table t (a int not null!", "create table t !as select 1", "create table t (a !varchar)", "create table t (a !null)", "create table t (a int !unique)", "create table t (a int !int)",
		"create table if !not exists t (a int)", "create index i on t (!)", "create index i on t (a,!)", "create index i on t !", "create index i on t (a !+ 1)", "create index i on t (!1)", "create index i !(a)", "create index !on t (a)", "create unique !i on t (a)", "create unique !unique index i on t (a)",
		"drop !", "drop !t", "drop !unique index i", "drop table !", "drop table a!, b", "drop index i !on t", "update !", "update t !", "update t set !", "update t set a !", "update t set a = !", "update t set a = 1,!", "update t set !(a) = 1", "update t set a !is null", "update t set a !<> 1", "update t !as x set a = 1", "delete !", "delete from !", "delete from t!, u", "delete from t where !", "delete from t !as x",
		"insert !", "insert into !", "insert into t !", "insert into t (!) values (1)", "insert into t (a,!) values (1)", "insert into t (a !b) values (1)", "insert into t (a) !(b) values (1)", "insert into t values !", "insert into t values (!)", "insert into t values (1,!)", "insert into t values (1),!", "insert into t values (1),!;", "insert into t values (1) !(2)", "insert into t values !1", "insert into t values ((1)!", "insert into t values (!*)", "insert into t values (1, !*)", "insert into t (!*) values (1)", "insert into t values (1) !where a",
		"select !", "select !, a", "select a,!", "select a, !from t", "select * from !", "select * from t,!", "select * from t, !where a", "select * from t join !", "select * from t join u on !", "select * from t as !", "select * from t join u on !where a", "select * where !", "select * group !a", "select * group by !", "select * group by a,!", "select * having !", "select * order !a", "select * order by !", "select * order by a,!", "select * limit !", "select * limit 1 offset !", "select * group by a, !having 1", "select * group by !*", "select * order by !*")
}
