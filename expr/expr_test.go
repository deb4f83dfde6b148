package expr

import (
	"errors"
	"fmt"
	"math"
	"reflect"
	"slices"
	"strings"
	"testing"

	"quarry/api"
	"quarry/lexer"
)

func tokensOf(t *testing.T, text string) []api.Token {
	t.Helper()
	l, err := lexer.Tokens(text)
	if err != nil {
		t.Fatalf("Tokens(%q): %v", text, err)
	}
	return l
}

func short(s string) string {
	if len(s) > 100 {
		return s[:100] + ".."
	}
	return s
}

// names of what Ops say, by the kinds of their expressions.
func opName(e api.Expr) string {
	names := map[int]map[int]string{
		api.EUnary: {api.Neg: "neg", api.Not: "not"},
		api.EBin: {api.Or: "or", api.And: "and", api.Eq: "=", api.Ne: "<>", api.Lt: "<", api.Le: "<=", api.Gt: ">", api.Ge: ">=",
			api.Cat: "||", api.Add: "+", api.Sub: "-", api.Mul: "*", api.Div: "/", api.Rem: "%"},
		api.ENull: {0: "null", 1: "notnull"},
		api.ECall: {api.Length: "length", api.Abs: "abs", api.Upper: "upper", api.Lower: "lower", api.Substr: "substr", api.Coalesce: "coalesce"},
		api.EAgg:  {api.Count: "COUNT", api.Sum: "SUM", api.Min: "MIN", api.Max: "MAX"},
	}
	if s := names[e.Kind][e.Op]; s != "" {
		return s
	}
	return fmt.Sprintf("kind %d op %d", e.Kind, e.Op)
}

// dump is an expression with all its fields, operators ahead of their operands.
func dump(e api.Expr) string {
	var s string
	rest := e
	rest.Kind, rest.Args = 0, nil
	switch e.Kind {
	case api.ELit:
		s, rest.Value = dumpValue(e.Value), api.Value{}
	case api.ECol:
		s, rest.Table, rest.Name = e.Table+"."+e.Name, "", ""
	default:
		s, rest.Op = opName(e), 0
	}
	if !reflect.DeepEqual(rest, api.Expr{}) {
		s += fmt.Sprintf(" and %+v", rest)
	}
	if e.Kind == api.ELit || e.Kind == api.ECol {
		if len(e.Args) == 0 {
			return s
		}
	}
	for _, a := range e.Args {
		s += " " + dump(a)
	}
	return "(" + s + ")"
}

func dumpValue(v api.Value) string {
	switch v {
	case api.Value{}:
		return "NULL"
	case api.Value{Kind: api.Bool, Int: 1}:
		return "TRUE"
	case api.Value{Kind: api.Bool}:
		return "FALSE"
	case api.Value{Kind: api.Int, Int: v.Int}:
		return fmt.Sprint(v.Int)
	case api.Value{Kind: api.Text, Text: v.Text}:
		return fmt.Sprintf("%q", v.Text)
	case api.Value{Kind: api.Blob, Text: v.Text}:
		return fmt.Sprintf("x%q", v.Text)
	}
	return fmt.Sprintf("%+v", v)
}

// checkRead holds what Read answers against an expression, with all its fields,
// and the place behind it.
func checkRead(t *testing.T, l []api.Token, at int, want string, behind int) {
	t.Helper()
	e, place, err := Read(l, at)
	if err != nil || place != behind || dump(e) != want {
		t.Errorf("Read(%s, %d): %s, %d, %v, want %s, %d", tell(l), at, short(dump(e)), place, err, short(want), behind)
	}
}

func tell(l []api.Token) string {
	var s []string
	for _, t := range l {
		s = append(s, lexer.Print(t))
	}
	return short(strings.Join(s, " "))
}

// checkFault looks for an error with its place, as the very types that the
// document names, and for nothing beside it.
func checkFault(t *testing.T, l []api.Token, at int, place int, e api.Errno) {
	t.Helper()
	x, behind, err := Read(l, at)
	f, ok := err.(*api.Fault)
	if !ok || behind != 0 || !reflect.DeepEqual(x, api.Expr{}) {
		t.Errorf("Read(%s, %d): %s, %d, %v, want a fault at %d alone", tell(l), at, short(dump(x)), behind, err, place)
		return
	}
	if got, ok := f.Err.(api.Errno); !ok || got != e || f.At != place || !errors.Is(err, e) {
		t.Errorf("Read(%s, %d): %v, want %d: %v", tell(l), at, err, place, e)
	}
}

// checkWhole reads texts that are expressions up to their ends.
func checkWhole(t *testing.T, texts map[string]string) {
	t.Helper()
	for text, want := range texts {
		l := tokensOf(t, text)
		checkRead(t, l, 0, want, len(l))
	}
}

// checkUpTo reads texts in which a | stands for the end of the expression.
func checkUpTo(t *testing.T, texts map[string]string) {
	t.Helper()
	for text, want := range texts {
		expression, rest, _ := strings.Cut(text, "|")
		checkRead(t, tokensOf(t, expression+" "+rest), 0, want, len(tokensOf(t, expression)))
	}
}

// checkFaults reads texts in which a ! stands ahead of the token that does not fit.
func checkFaults(t *testing.T, e api.Errno, texts ...string) {
	t.Helper()
	for _, text := range texts {
		fits, rest, _ := strings.Cut(text, "!")
		l := tokensOf(t, fits+rest)
		place := len(fits)
		if strings.TrimSpace(rest) == "" {
			place = l[len(l)-1].At + 1
		}
		checkFault(t, l, 0, place, e)
	}
}

// The chapter's examples.
func TestExamples(t *testing.T) {
	checkWhole(t, map[string]string{
		"a + 2 * -b.c = 7 and not x is null": "(and (= (+ .a (* 2 (neg b.c))) 7) (not (null .x)))",
		"(1 - (2 - 3)) = 4":                  "(= (- 1 (- 2 3)) 4)",
		"count(*)":                           "(COUNT)",
	})
	checkFaults(t, api.ErrSyntax, "length(a!, b)")
	checkUpTo(t, map[string]string{"a = b |= c": "(= .a .b)"})
	checkPrints(t, map[string]string{
		"a + 2 * -b.c = 7 and not x is null": "a + 2 * - b.c = 7 AND NOT x IS NULL",
		"(1 - (2 - 3)) = 4":                  "1 - (2 - 3) = 4",
		"count(*)":                           "COUNT(*)",
	})
}

// 13.1: what stands for a value.
func TestValues(t *testing.T) {
	checkWhole(t, map[string]string{
		"null": "NULL", "NULL": "NULL", "true": "TRUE", "True": "TRUE", "false": "FALSE",
		"0": "0", "1": "1", "007": "7", "9223372036854775807": "9223372036854775807",
		"''": `""`, "'a'": `"a"`, "'it''s'": `"it's"`, "'null'": `"null"`, "'('": `"("`, "'\x00\xff'": `"\x00\xff"`,
		"x''": `x""`, "X'00fF'": `x"\x00\xff"`, "x'6e756c6c'": `x"null"`,
	})
	checkUpTo(t, map[string]string{
		"1 |2": "1", "1 |a": "1", "1 |.5": "1", "1 |.a": "1", "'a' |'b'": `"a"`, "null |null": "NULL", "true |false": "TRUE",
		"null |(1)": "NULL", "1 |(": "1", "'a' |.b": `"a"`, "null |. a": "NULL", "x'' |1": `x""`, "1 |not null": "1", "1 |;": "1", "1 |,": "1", "1 |)": "1", "1 |from t": "1",
	})
	// a number that no text has, and fields that mean nothing there
	checkRead(t, []api.Token{{Kind: api.TInt, Int: 5, Text: "null", At: 9}}, 0, "5", 1)
	checkRead(t, []api.Token{{Kind: api.TText, Int: 5, Text: "null", At: 9}}, 0, `"null"`, 1)
	checkRead(t, []api.Token{{Kind: api.TBlob, Int: 5, Text: "null", At: 9}}, 0, `x"null"`, 1)
	checkRead(t, []api.Token{{Kind: api.TWord, Int: 5, Text: "null", At: 9}}, 0, "NULL", 1)
	checkRead(t, []api.Token{{Kind: api.TWord, Int: 5, Text: "true", At: 9}}, 0, "TRUE", 1)
	checkRead(t, []api.Token{{Kind: api.TWord, Int: 5, Text: "a", At: 9}}, 0, ".a", 1)
}

// 13.1: the operators of one line go together from the left on.
func TestRows(t *testing.T) {
	lines := [][]string{{"or"}, {"and"}, {"||"}, {"+", "-"}, {"*", "/", "%"}}
	for _, ops := range lines {
		for _, one := range ops {
			for _, two := range ops {
				checkWhole(t, map[string]string{
					"a " + one + " b":                                 "(" + one + " .a .b)",
					"a " + one + " b " + two + " c":                   "(" + two + " (" + one + " .a .b) .c)",
					"a " + one + " b " + two + " c " + one + " d":     "(" + one + " (" + two + " (" + one + " .a .b) .c) .d)",
					"a " + one + " (b " + two + " c)":                 "(" + one + " .a (" + two + " .b .c))",
					"(a " + one + " b) " + two + " c":                 "(" + two + " (" + one + " .a .b) .c)",
					"(a " + one + " b) " + two + " (c " + one + " d)": "(" + two + " (" + one + " .a .b) (" + one + " .c .d))",
				})
			}
		}
	}
}

// 13.1: of two lines the one further down binds tighter, on both sides.
func TestLines(t *testing.T) {
	lines := [][]string{{"or"}, {"and"}, {"=", "<>", "<", "<=", ">", ">="}, {"||"}, {"+", "-"}, {"*", "/", "%"}}
	for i, loose := range lines {
		for _, tight := range lines[i+1:] {
			for _, one := range loose {
				for _, two := range tight {
					checkWhole(t, map[string]string{
						"a " + one + " b " + two + " c":               "(" + one + " .a (" + two + " .b .c))",
						"a " + two + " b " + one + " c":               "(" + one + " (" + two + " .a .b) .c)",
						"a " + two + " b " + one + " c " + two + " d": "(" + one + " (" + two + " .a .b) (" + two + " .c .d))",
						"a " + two + " (b " + one + " c)":             "(" + two + " .a (" + one + " .b .c))",
						"(a " + one + " b) " + two + " c":             "(" + two + " (" + one + " .a .b) .c)",
					})
				}
			}
		}
	}
	checkWhole(t, map[string]string{
		"a or b and c = d || e + f * - g": "(or .a (and .b (= .c (|| .d (+ .e (* .f (neg .g)))))))",
		"- a * b + c || d = e and f or g": "(or (and (= (|| (+ (* (neg .a) .b) .c) .d) .e) .f) .g)",
		"a or b and not c is null or d":   "(or (or .a (and .b (not (null .c)))) .d)",
		"a and b or c and d":              "(or (and .a .b) (and .c .d))",
		"a or b and c or d":               "(or (or .a (and .b .c)) .d)",
	})
}

// 13.1: of tests only one stands in a line.
func TestTests(t *testing.T) {
	for _, op := range []string{"=", "<>", "<", "<=", ">", ">="} {
		checkWhole(t, map[string]string{
			"a " + op + " b":                     "(" + op + " .a .b)",
			"a" + op + "b":                       "(" + op + " .a .b)",
			"(a " + op + " b) " + op + " c":      "(" + op + " (" + op + " .a .b) .c)",
			"a " + op + " (b " + op + " c)":      "(" + op + " .a (" + op + " .b .c))",
			"(a " + op + " b) is null":           "(null (" + op + " .a .b))",
			"a " + op + " (b is not null)":       "(" + op + " .a (notnull .b))",
			"a " + op + " b and c " + op + " d":  "(and (" + op + " .a .b) (" + op + " .c .d))",
			"a " + op + " b or c is null":        "(or (" + op + " .a .b) (null .c))",
			"a || b " + op + " c || d":           "(" + op + " (|| .a .b) (|| .c .d))",
			"abs(a " + op + " b) " + op + " (c)": "(" + op + " (abs (" + op + " .a .b)) .c)",
		})
		for _, other := range []string{"=", "<>", "<", "<=", ">", ">=", "is"} {
			checkUpTo(t, map[string]string{
				"a " + op + " b |" + other + " c":        "(" + op + " .a .b)",
				"a is null |" + other + " null":          "(null .a)",
				"a is not null |" + other + " b":         "(notnull .a)",
				"not a " + op + " b |" + other + " c":    "(not (" + op + " .a .b))",
				"a or b " + op + " c |" + other + " (d)": "(or .a (" + op + " .b .c))",
			})
			checkFaults(t, api.ErrSyntax, "(a "+op+" b !"+other+" c)", "abs(a "+op+" b !"+other+" c)", "(a is null !"+other+" null)")
		}
		checkFaults(t, api.ErrSyntax, "a "+op+" !not b", "a "+op+" !and b", "a "+op+" !is null", "a "+op+" !)", "a "+op+"!", "!"+op+" a")
		checkUpTo(t, map[string]string{"a " + op + " b |is null": "(" + op + " .a .b)"})
	}
	checkFaults(t, api.ErrSyntax, "a = != b", "a < != b", "a < !> b", "a <> !> b", "a <= != b")
}

// 13.1: IS NULL and IS NOT NULL.
func TestNullTests(t *testing.T) {
	checkWhole(t, map[string]string{
		"a is null": "(null .a)", "a IS NOT NULL": "(notnull .a)", "null is null": "(null NULL)", "null is not null": "(notnull NULL)",
		"a + b is null": "(null (+ .a .b))", "a || b is not null": "(notnull (|| .a .b))", "- a is null": "(null (neg .a))",
		"not a is null": "(not (null .a))", "not a is not null": "(not (notnull .a))", "(not a) is null": "(null (not .a))",
		"(a is null) is not null": "(notnull (null .a))", "(a is null) is null": "(null (null .a))", "a is null or b is null": "(or (null .a) (null .b))",
		"a is null and b": "(and (null .a) .b)", "a and b is not null": "(and .a (notnull .b))", "count(*) is null": "(null (COUNT))",
		"(a and b) is null": "(null (and .a .b))", "(a is null) = (b is null)": "(= (null .a) (null .b))", "t.a is null": "(null t.a)",
	})
	checkUpTo(t, map[string]string{
		"a is null |is null": "(null .a)", "a is null |= b": "(null .a)", "a is not null |not null": "(notnull .a)", "a is null |null": "(null .a)",
		"a is null |+ 1": "(null .a)", "a is null ||| b": "(null .a)", "a |not null": ".a", "a |null": ".a", "a is null |not b": "(null .a)", "a is null |(b)": "(null .a)",
	})
	checkFaults(t, api.ErrSyntax, "a is!", "a is not!", "a is !a", "a is !true", "a is !1", "a is not !not null", "a is not !true", "a is !(null)", "a is not !(null)", "a is !is null", "a is !'null'", "a is !x'6e756c6c'", "a is !)", "!is null", "a and !is null", "a is !- null", "a is not !and")
}

// 13.1: NOT behind NOT, and - behind -.
func TestAhead(t *testing.T) {
	checkWhole(t, map[string]string{
		"not a": "(not .a)", "not not a": "(not (not .a))", "not not not a": "(not (not (not .a)))", "- a": "(neg .a)", "- - a": "(neg (neg .a))", "- - - a": "(neg (neg (neg .a)))",
		"-1": "(neg 1)", "-9223372036854775807": "(neg 9223372036854775807)", "- 0": "(neg 0)", "-'a'": `(neg "a")`, "- null": "(neg NULL)", "not null": "(not NULL)", "not true": "(not TRUE)",
		"not - a": "(not (neg .a))", "not (not a)": "(not (not .a))", "-(-a)": "(neg (neg .a))", "-(not a)": "(neg (not .a))",
		"not a and b": "(and (not .a) .b)", "not a or b": "(or (not .a) .b)", "a and not b": "(and .a (not .b))", "a or not b and not c": "(or .a (and (not .b) (not .c)))",
		"not a and not not b": "(and (not .a) (not (not .b)))", "not (a and b)": "(not (and .a .b))", "not (a or b) and c": "(and (not (or .a .b)) .c)",
		"not a = b": "(not (= .a .b))", "not not a = b and c": "(and (not (not (= .a .b))) .c)", "not a || b": "(not (|| .a .b))", "not a + b": "(not (+ .a .b))", "not a * b": "(not (* .a .b))",
		"(not a) = b": "(= (not .a) .b)", "a = (not b)": "(= .a (not .b))", "(not a) + b": "(+ (not .a) .b)", "a * (not b)": "(* .a (not .b))",
		"-a * b": "(* (neg .a) .b)", "a * -b": "(* .a (neg .b))", "a - -b": "(- .a (neg .b))", "a - - - b": "(- .a (neg (neg .b)))", "a + -b": "(+ .a (neg .b))", "a / - - b": "(/ .a (neg (neg .b)))",
		"-a + b": "(+ (neg .a) .b)", "-a || -b": "(|| (neg .a) (neg .b))", "-a = -b": "(= (neg .a) (neg .b))", "-(a + b)": "(neg (+ .a .b))", "-(a * b) % c": "(% (neg (* .a .b)) .c)", "-a.b": "(neg a.b)", "-abs(a)": "(neg (abs .a))",
		"a-1": "(- .a 1)", "a -1": "(- .a 1)", "1-1": "(- 1 1)", "a % -b * c": "(* (% .a (neg .b)) .c)",
	})
	checkUpTo(t, map[string]string{"a |not b": ".a", "a + b |not c": "(+ .a .b)", "not a |not b": "(not .a)", "- a |not": "(neg .a)"})
	checkFaults(t, api.ErrSyntax, "not!", "-!", "not not!", "- -!", "- !not a", "a + !not b", "a * !not b", "a || !not b", "a = !not b", "- - !not a", "a - !not b",
		"not !and a", "not !or", "- !+ a", "- !* a", "not != a", "not !)", "- !)", "not !,", "!+ a", "!* a", "!/ a", "!% a", "!|| a", "!= a", "!and a", "!or a", "a and !and b", "a or !or b", "a and !or b", "a + !+ b", "a * !* b", "a || !|| b", "a - !* b", "a + !/ b")
}

// 13.1: brackets leave nothing.
func TestBrackets(t *testing.T) {
	checkWhole(t, map[string]string{
		"(a)": ".a", "((a))": ".a", "(((1)))": "1", "(null)": "NULL", "(a.b)": "a.b", "('a')": `"a"`, "(a) + (b)": "(+ .a .b)", "((a + b))": "(+ .a .b)", "(a or b)": "(or .a .b)",
		"(a + b) * c": "(* (+ .a .b) .c)", "a * (b + c)": "(* .a (+ .b .c))", "((a) + ((b))) * c": "(* (+ .a .b) .c)", "(not a)": "(not .a)", "(-a)": "(neg .a)", "(a is null)": "(null .a)", "(a = b)": "(= .a .b)",
		"(count(*))": "(COUNT)", "(abs(a))": "(abs .a)", "(a) is null": "(null .a)", "(a) = (b)": "(= .a .b)",
	})
	checkUpTo(t, map[string]string{"(a) |(b)": ".a", "(a) |b": ".a", "(a) |)": ".a", "(a) |. b": ".a", "((a)) |)": ".a", "(a) |,": ".a", "(a) |1": ".a", "(a) |not": ".a"})
	checkFaults(t, api.ErrSyntax, "!)", "(!)", "(!", "((!", "(a!", "(a !b)", "(a!, b)", "((a)!", "(a !(b))", "(a !;", "(a +!", "(a + !)", "(!and)", "(a and !)", "(!*)", "(!select 1)", "(a . !1)", "(a. !)", "(not !)", "(- !)", "((a) !(b))", "(a !not b)", "(a is !)", "(!,)", "(!.a)", "(!;)")
}

// 13.1: names, with and without a dot; keywords, and words that are no right names.
func TestNames(t *testing.T) {
	long := strings.Repeat("a", api.MaxName)
	checkWhole(t, map[string]string{
		"a": ".a", "A": ".a", "_": "._", "_1": "._1", "a1_b2": ".a1_b2", "x": ".x", long: "." + long, long + "." + long: long + "." + long,
		"a.b": "a.b", "T.A": "t.a", "a . b": "a.b", "a.a": "a.a", "_._": "_._", "nulls": ".nulls", "truer": ".truer", "nots": ".nots", "isnull": ".isnull", "ors": ".ors",
		"a.count": "a.count", "count.a": "count.a", "length.length": "length.length",
	})
	checkUpTo(t, map[string]string{
		"a.b |.c": "a.b", "a |b": ".a", "a |'b'": ".a", "a |(b)": ".a", "a.b |(c)": "a.b", "a |(": ".a", "a |()": ".a", "a |(*)": ".a", "foo |(1)": ".foo", "avg |(a)": ".avg", "a.count |(*)": "a.count", "a.length |(b)": "a.length", "substring |(a, 1, 2)": ".substring", "a |as b": ".a", "a |null": ".a", "a |true": ".a",
	})
	for _, word := range strings.Fields("select distinct from join on where group by having order asc desc limit offset as insert into values update set delete create table unique index drop is and or begin commit rollback to savepoint release int text blob bool") {
		checkFaults(t, api.ErrSyntax, "!"+word, "!"+word+" a", "!"+word+" (a)", "!"+word+" . a", "a . !"+word, "a = !"+word, "(!"+word+")", "abs(!"+word+")", "- !"+word, "not !"+word, "a + !"+word, "count(!"+word+")")
		if word != "is" && word != "and" && word != "or" {
			checkUpTo(t, map[string]string{"a |" + word: ".a", "a + b |" + word + " c": "(+ .a .b)"})
		}
	}
	for _, word := range []string{"not", "null", "true", "false"} {
		checkFaults(t, api.ErrSyntax, "a . !"+word, "a . !"+word+" . b")
	}
	checkFaults(t, api.ErrSyntax, "!"+long+"a", "a . !"+long+"a", "a = !"+long+"_", "a.!", "a.!.b", "a.!1", "a.!'b'", "a.!*", "a.!(b)", "a.!x''", "!.a", "!*", "!;", "!,")
	for _, text := range []string{"", "A", "1a", "é", "a b", "a.b", "a\x00", "NULL", "True", "NOT", "Count", "(", "a-b", long + "a"} {
		word := api.Token{Kind: api.TWord, Text: text, At: 7}
		checkFault(t, []api.Token{word}, 0, 7, api.ErrSyntax)
		checkFault(t, []api.Token{word, symbol("(", 8), symbol("*", 9), symbol(")", 10)}, 0, 7, api.ErrSyntax)
		checkFault(t, []api.Token{{Kind: api.TWord, Text: "a"}, symbol(".", 5), word}, 0, 7, api.ErrSyntax)
	}
}

func symbol(text string, at int) api.Token { return api.Token{Kind: api.TSymbol, Text: text, At: at} }

// 13.1: a token is taken by its kind, not by its text alone.
func TestKindsOfTokens(t *testing.T) {
	a, one := api.Token{Kind: api.TWord, Text: "a"}, api.Token{Kind: api.TInt, Int: 1, At: 9}
	for _, text := range []string{"+", "-", "*", "/", "%", "||", "=", "<>", "<", "<=", ">", ">=", "(", ")", ".", ",", "and", "or", "is", "not", "null"} {
		for _, kind := range []int{api.TWord, api.TText, api.TBlob, api.TSymbol, api.TInt, 0, -1, 6, math.MaxInt, math.MinInt} {
			_, err := lexer.Tokens(text)
			isWord := lexer.Keyword(text)
			if err != nil || isWord && kind == api.TWord || !isWord && kind == api.TSymbol {
				continue
			}
			other := api.Token{Kind: kind, Text: text, At: 4}
			checkRead(t, []api.Token{a, other, one}, 0, ".a", 1)
			checkFault(t, []api.Token{symbol("(", 0), a, other}, 0, 4, api.ErrSyntax)
		}
	}
	for _, kind := range []int{api.TSymbol, 0, -1, 6, math.MaxInt, math.MinInt} {
		for _, text := range []string{"a", "null", "true", "not", "abs", "count", "", "1", "'"} {
			checkFault(t, []api.Token{{Kind: kind, Text: text, At: 4}, symbol("(", 5), one, symbol(")", 7)}, 0, 4, api.ErrSyntax)
			checkFault(t, []api.Token{a, symbol(".", 1), {Kind: kind, Text: text, At: 4}}, 0, 4, api.ErrSyntax)
		}
	}
	for _, kind := range []int{api.TWord, api.TText, api.TBlob, 0} { // no ( behind the name
		checkRead(t, []api.Token{{Kind: api.TWord, Text: "abs"}, {Kind: kind, Text: "("}, one, symbol(")", 7)}, 0, ".abs", 1)
	}
	for _, kind := range []int{api.TText, api.TBlob} { // names that are none
		checkRead(t, []api.Token{{Kind: kind, Text: "abs"}, symbol("(", 3), one, symbol(")", 7)}, 0, dump(api.Expr{Kind: api.ELit, Value: api.Value{Kind: kind, Text: "abs"}}), 1)
	}
	checkFault(t, []api.Token{{Kind: api.TWord, Text: "count"}, symbol("(", 5), {Kind: api.TWord, Text: "*", At: 6}, symbol(")", 7)}, 0, 6, api.ErrSyntax)
}

// 13.1: every function with its number of operands, with fewer and with more.
func TestFunctions(t *testing.T) {
	for name, count := range map[string]int{"length": 1, "abs": 1, "upper": 1, "lower": 1, "coalesce": 2, "substr": 3} {
		operands := strings.Repeat(", a or b", count)[2:]
		meant := strings.Repeat(" (or .a .b)", count)
		checkWhole(t, map[string]string{
			name + "(" + operands + ")":                    "(" + name + meant + ")",
			strings.ToUpper(name) + " ( " + operands + ")": "(" + name + meant + ")",
			name: "." + name, name + "." + name: name + "." + name, "a." + name: "a." + name, name + ".a": name + ".a", name + " + 1": "(+ ." + name + " 1)", "- " + name: "(neg ." + name + ")",
			"1 + " + name + "(" + operands + ") * 2":                                 "(+ 1 (* (" + name + meant + ") 2))",
			name + "(" + strings.Repeat(", "+name+"("+operands+")", count)[2:] + ")": "(" + name + strings.Repeat(" ("+name+meant+")", count) + ")",
		})
		checkUpTo(t, map[string]string{name + "(" + operands + ") |(a)": "(" + name + meant + ")", name + "(" + operands + ") |.a": "(" + name + meant + ")", "a." + name + " |(" + operands + ")": "a." + name, "(" + name + ") |(a)": "." + name, name + " |b (a)": "." + name, name + " |)": "." + name})
		checkFaults(t, api.ErrSyntax, name+"("+operands+"!, a)", name+"("+operands+"!,)", name+"("+operands+" !a)", name+"("+operands+"!", name+"("+operands+" !;", name+"(!)", name+"(!*)", name+"(!, a)", name+"(!", name+"(!distinct a)", name+"("+operands+" and !)")
		for fewer := 1; fewer < count; fewer++ {
			some := strings.Repeat(", a", fewer)[2:]
			checkFaults(t, api.ErrSyntax, name+"("+some+"!)", name+"("+some+"!", name+"("+some+" !b, c)", name+"("+some+", !)", name+"("+some+", !, a)", name+"("+some+",!", name+"("+some+", !*)")
		}
	}
}

// 13.1: every aggregate, COUNT ( * ) among them.
func TestAggregates(t *testing.T) {
	for _, name := range []string{"count", "sum", "min", "max"} {
		large := strings.ToUpper(name)
		checkWhole(t, map[string]string{
			name + "(a)": "(" + large + " .a)", large + " ( a or b )": "(" + large + " (or .a .b))", name + "(1)": "(" + large + " 1)", name + "(null)": "(" + large + " NULL)",
			name: "." + name, "a." + name: "a." + name, name + ".a": name + ".a", name + " * 2": "(* ." + name + " 2)",
			name + "(" + name + "(a)) + 1": "(+ (" + large + " (" + large + " .a)) 1)", name + "(abs(a))": "(" + large + " (abs .a))", name + "(" + name + ")": "(" + large + " ." + name + ")",
			"not " + name + "(a) > 1": "(not (> (" + large + " .a) 1))",
		})
		checkUpTo(t, map[string]string{name + "(a) |(b)": "(" + large + " .a)", "a." + name + " |(b)": "a." + name})
		checkFaults(t, api.ErrSyntax, name+"(!)", name+"(!", name+"(a!, b)", name+"(a!,)", name+"(a !b)", name+"(a!", name+"(!distinct a)", name+"(!, a)", name+"(a !as b)", name+"((a!, b))", name+"(a * !)", name+"(!. a)")
	}
	checkWhole(t, map[string]string{
		"count(*)": "(COUNT)", "COUNT ( * )": "(COUNT)", "count(*) * 2": "(* (COUNT) 2)", "2 * count(*)": "(* 2 (COUNT))", "- count(*)": "(neg (COUNT))", "sum(count(*))": "(SUM (COUNT))", "abs(count(*)) = count(*)": "(= (abs (COUNT)) (COUNT))",
	})
	checkUpTo(t, map[string]string{"count(*) |(*)": "(COUNT)", "count(*) |)": "(COUNT)", "count(*) |count(*)": "(COUNT)"})
	checkFaults(t, api.ErrSyntax, "count(*!", "count(* !a)", "count(*!, a)", "count(*!*)", "count(* !* a)", "count(*!.a)", "count((!*))", "count(a.!*)", "sum(!*)", "min(!*)", "max(!*)", "abs(!*)", "count * (!*)", "count(a!, *)", "count(* !+ 1)", "count(* !;", "count(*!(a))")
}

// opening is what nests an expression by one, and where the token stands in it
// that does.
type opening struct {
	open, close string
	at          int
}

func openings() []opening {
	return []opening{{"(", ")", 0}, {"not ", "", 0}, {"- ", "", 0}, {"abs(", ")", 3}, {"coalesce(1, ", ")", 8}, {"substr(1, ", ", 3)", 6}, {"count(", ")", 5}, {"max (", ")", 4}}
}

func nested(o opening, n int, within string) string {
	return strings.Repeat(o.open, n) + within + strings.Repeat(o.close, n)
}

func checkFits(t *testing.T, text string) {
	t.Helper()
	l := tokensOf(t, text)
	if e, place, err := Read(l, 0); err != nil || place != len(l) {
		t.Errorf("Read(%s): %s, %d, %v", tell(l), short(dump(e)), place, err)
	}
}

// 13.1: a nesting of 32 and of 33, by each kind and by two of them.
func TestDepth(t *testing.T) {
	for _, one := range openings() {
		for _, two := range openings() {
			if one.open == "- " && two.open == "not " {
				continue
			}
			for _, n := range []int{0, 1, 16, 31, 32} {
				fits := func(within string) string { return nested(one, n, nested(two, api.MaxDepth-n, within)) }
				checkFits(t, fits("a"))
				checkFits(t, fits("a - b"))
				checkFits(t, fits("abs"))
				deeper := two
				if n == api.MaxDepth {
					deeper = one
				}
				checkTooDeep(t, fits("!"), deeper)
			}
		}
	}
}

// checkTooDeep reads what would be nested by one more where the ! stands,
// however it goes on there.
func checkTooDeep(t *testing.T, text string, inmost opening) {
	t.Helper()
	ahead, behind, _ := strings.Cut(text, "!")
	for _, o := range openings() {
		if o.open == "not " && inmost.open == "- " {
			checkFaults(t, api.ErrSyntax, ahead+"!not a"+behind)
			continue
		}
		place := len(ahead) + o.at
		word := len(strings.TrimSpace(o.open[o.at:]))
		if o.at > 0 {
			word = 1
		}
		for _, s := range []string{ahead + nested(o, 1, "a") + behind, ahead + nested(o, 1, ")"), ahead + o.open[:o.at+word]} {
			checkFault(t, tokensOf(t, s), 0, place, api.ErrDepth)
		}
	}
	checkFault(t, tokensOf(t, ahead+"count(*)"+behind), 0, len(ahead)+5, api.ErrDepth)
	checkFaults(t, api.ErrSyntax, ahead+"!)", ahead+"!select", ahead+"!", ahead+"a.!(")
	if behind != "" {
		// a ( behind a whole expression, and a NOT where none may stand, are too deep nowhere
		checkFaults(t, api.ErrSyntax, ahead+"a !("+behind, ahead+"a + !not b"+behind, ahead+"a !not b"+behind)
	}
}

// 13.1: the nesting is one less again behind what was nested.
func TestDepthSideBySide(t *testing.T) {
	for _, o := range openings() {
		all, most := nested(o, api.MaxDepth, "a"), nested(o, api.MaxDepth-1, "a")
		checkFits(t, all+" and "+all+" or "+all)
		checkFits(t, "coalesce("+most+", "+most+") = abs("+most+")")
		checkFits(t, "("+most+") || ("+most+")")
		checkFits(t, "not ("+nested(o, api.MaxDepth-2, "a")+") and ("+most+")")
		checkFits(t, "- ("+nested(o, api.MaxDepth-2, "a")+") - ("+most+")")
		checkFits(t, "count(*) + count(*) * (count(*) - sum(a)) and "+all)
		checkFaults(t, api.ErrSyntax, all+" and "+all+" or!", "(1 !2 and "+all+" and ("+all+"))")
	}
	checkFits(t, strings.Repeat("(a) + ", 100)+"- - (b) * "+strings.Repeat("count(*) * ", 100)+"abs(c)")
	checkFits(t, strings.Repeat("not a and ", 100)+strings.Repeat("- b = - c or ", 100)+"a")
	checkFits(t, nested(openings()[0], api.MaxDepth-1, "count(*)"))
}

// 13.1: long chains of operators, which nest nothing.
func TestChains(t *testing.T) {
	for _, op := range []string{"or", "and", "||", "+", "-", "*", "/", "%"} {
		const n = 1000
		text, want := "a", ".a"
		for range n {
			text, want = text+" "+op+" b", "("+op+" "+want+" .b)"
		}
		checkWhole(t, map[string]string{text: want})
		checkFaults(t, api.ErrSyntax, text+" "+op+"!")
	}
	const many = 1 << 16
	one := tokensOf(t, "a -")
	l := append(slices.Repeat(one, many), one[0])
	e, place, err := Read(l, 0)
	if err != nil || place != len(l) {
		t.Fatalf("%d operators: %d, %v", many, place, err)
	}
	count := 0
	for ; e.Kind == api.EBin; e = e.Args[0] {
		if e.Op != api.Sub || len(e.Args) != 2 || dump(e.Args[1]) != ".a" {
			t.Fatalf("the right side of %d: %+v", count, e.Args[1])
		}
		count++
	}
	if count != many || dump(e) != ".a" {
		t.Errorf("%d of %d operators around %s", count, many, dump(e))
	}
}

// 13.1: an expression may begin at any token, and there may be more behind it.
func TestPlaces(t *testing.T) {
	const text = "select a . b + 1 , ( c ) from t where not d = - 2 is"
	l := tokensOf(t, text)
	words := strings.Fields(text)
	want := map[int]string{
		1: "(+ a.b 1) 6", 3: "(+ .b 1) 6", 5: "1 6", 7: ".c 10", 8: ".c 9", 11: ".t 12",
		13: "(not (= .d (neg 2))) 18", 14: "(= .d (neg 2)) 18",
	}
	for at := range l {
		if s, ok := want[at]; ok {
			e, behind, err := Read(l, at)
			if got := fmt.Sprint(dump(e), " ", behind); err != nil || got != s {
				t.Errorf("from %d on: %s, %v, want %s", at, got, err, s)
			}
			continue
		}
		if at == 16 || at == 17 { // nothing follows the is behind the number
			checkFault(t, l, at, l[18].At+1, api.ErrSyntax)
			continue
		}
		checkFault(t, l, at, l[at].At, api.ErrSyntax)
		if words[at] != lexer.Print(l[at]) {
			t.Errorf("the token %d is %s", at, words[at])
		}
	}
}

// 13.1: the place of a fault is that which its token has, wherever that stands.
func TestFaultPlaces(t *testing.T) {
	a := api.Token{Kind: api.TWord, Text: "a", At: 500}
	plus, open := symbol("+", 90), symbol("(", -3)
	comma := symbol(",", 77)
	checkFault(t, []api.Token{plus}, 0, 90, api.ErrSyntax)
	checkFault(t, []api.Token{a, plus}, 0, 91, api.ErrSyntax)
	checkFault(t, []api.Token{open}, 0, -2, api.ErrSyntax)
	checkFault(t, []api.Token{open, a}, 0, 501, api.ErrSyntax)
	checkFault(t, []api.Token{open, a, comma, plus}, 0, 77, api.ErrSyntax)
	checkFault(t, []api.Token{a, plus, comma}, 1, 90, api.ErrSyntax)
	checkFault(t, []api.Token{a, plus, comma}, 0, 77, api.ErrSyntax)
	checkFault(t, append(slices.Repeat([]api.Token{{Kind: api.TWord, Text: "not", At: 3}}, api.MaxDepth), api.Token{Kind: api.TWord, Text: "not", At: 8}, a), 0, 8, api.ErrDepth)
	checkFault(t, append(slices.Repeat([]api.Token{symbol("-", 3)}, api.MaxDepth), open), 0, -3, api.ErrDepth)
}

// 13.1: an empty list, and places that are none of the list.
func TestNoPlace(t *testing.T) {
	for _, l := range [][]api.Token{nil, {}, make([]api.Token, 0, 4), {{Kind: api.TWord, Text: "a", At: 7}}, tokensOf(t, "  a + b"), tokensOf(t, "  a +")} {
		for _, at := range []int{math.MinInt, math.MinInt32, -2, -1, len(l), len(l) + 1, len(l) + 2, math.MaxInt32, math.MaxInt - 1, math.MaxInt} {
			checkFault(t, l, at, 0, api.ErrSyntax)
		}
		if len(l) == 0 {
			checkFault(t, l, 0, 0, api.ErrSyntax)
		}
	}
}

// R4: the tokens stay as they are, and no two answers share memory.
func TestReadMemory(t *testing.T) {
	l := tokensOf(t, "not a + 1 = coalesce(b.c, sum(2)) and - d is null or substr('a', 1, 2) = 'x'")
	l = slices.Grow(l, 8)
	room := l[:cap(l)]
	for i := len(l); i < len(room); i++ {
		room[i] = api.Token{Kind: api.TWord, Text: "spare", At: i}
	}
	kept := slices.Clone(room)
	one, _, _ := Read(l, 0)
	want := dump(one)
	two, _, err := Read(l, 0)
	if err != nil || dump(two) != want {
		t.Fatalf("read twice: %s and %s, %v", want, dump(two), err)
	}
	spoil(&one)
	if dump(two) != want {
		t.Errorf("an answer was %s, is %s", want, dump(two))
	}
	three, _, _ := Read(l, 0)
	if dump(three) != want {
		t.Errorf("read again: %s, was %s", dump(three), want)
	}
	Read(l[:5], 0)
	Read(l[:6], 0)
	if !slices.Equal(room, kept) {
		t.Errorf("the tokens have changed: %+v", room)
	}
}

// spoil writes over all of an expression, and behind its lists' ends.
func spoil(e *api.Expr) {
	for i := range e.Args {
		spoil(&e.Args[i])
	}
	spare := e.Args[len(e.Args):cap(e.Args)]
	for i := range spare {
		spare[i] = api.Expr{Kind: 99}
	}
	*e = api.Expr{Kind: 99, Args: e.Args}
}
