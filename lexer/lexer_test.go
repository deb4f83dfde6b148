package lexer

import (
	"errors"
	"fmt"
	"math"
	"slices"
	"strings"
	"testing"

	"quarry/api"
)

func wordOf(s string) api.Token { return api.Token{Kind: api.TWord, Text: s} }

func intOf(n int64) api.Token { return api.Token{Kind: api.TInt, Int: n} }

func textOf(s string) api.Token { return api.Token{Kind: api.TText, Text: s} }

func blobOf(s string) api.Token { return api.Token{Kind: api.TBlob, Text: s} }

func symbolOf(s string) api.Token { return api.Token{Kind: api.TSymbol, Text: s} }

// at is a token at a place.
func at(place int, t api.Token) api.Token {
	t.At = place
	return t
}

func list(l ...api.Token) []api.Token { return l }

func short(s string) string {
	if len(s) > 60 {
		return s[:60] + ".."
	}
	return s
}

func tell(l []api.Token) string { return fmt.Sprintf("%#v", l[:min(len(l), 10)]) }

// checkTokens holds what Tokens answers against tokens, with all their fields.
func checkTokens(t *testing.T, text string, want ...api.Token) {
	t.Helper()
	if l, err := Tokens(text); err != nil || !slices.Equal(l, want) {
		t.Errorf("Tokens(%q): %d tokens %s, %v, want %d: %s", short(text), len(l), tell(l), err, len(want), tell(want))
	}
}

// checkFault looks for an error with its place, as the very types that the document names,
// and for nothing beside it.
func checkFault(t *testing.T, text string, place int, e api.Errno) {
	t.Helper()
	l, err := Tokens(text)
	f, ok := err.(*api.Fault)
	if !ok || len(l) != 0 {
		t.Errorf("Tokens(%q): %d tokens, %v, want a fault at %d", short(text), len(l), err, place)
		return
	}
	if got, ok := f.Err.(api.Errno); !ok || got != e || f.At != place || !errors.Is(err, e) {
		t.Errorf("Tokens(%q): %v, want %d: %v", short(text), err, place, e)
	}
}

// 12.1: the chapter's examples.
func TestExamples(t *testing.T) {
	checkTokens(t, "SELECT a1, 'it''s' -- x", wordOf("select"), at(7, wordOf("a1")), at(9, symbolOf(",")), at(11, textOf("it's")))
	checkTokens(t, "x'0aFf'", blobOf("\x0a\xff"))
	checkFault(t, "9223372036854775808", 0, api.ErrSyntax)
	checkTokens(t, "a<>b", wordOf("a"), at(1, symbolOf("<>")), at(3, wordOf("b")))
	checkTokens(t, "1a", intOf(1), at(1, wordOf("a")))
}

// 12.1: texts without a token.
func TestNothing(t *testing.T) {
	for _, text := range []string{"", " ", "\t", "\n", "\r", " \t\r\n \n\r", "--", "---", "--\n", "-- a 'b", "--\n--", "-- a\n\t-- b\r\n", "--\r", "--\ra", strings.Repeat(" ", api.MaxText), strings.Repeat("-", api.MaxText), strings.Repeat("--\n ", api.MaxText/4)} {
		checkTokens(t, text)
	}
}

// 12.1: words, in small letters, with all letters, digits and _ behind the first.
func TestWords(t *testing.T) {
	const low, high = "abcdefghijklmnopqrstuvwxyz", "ABCDEFGHIJKLMNOPQRSTUVWXYZ"
	for text, want := range map[string]string{
		"a": "a", "z": "z", "A": "a", "Z": "z", "_": "_", "__": "__", "_1": "_1", "_a": "_a", "_A": "_a", "a_": "a_", "a1": "a1", "a_1_B": "a_1_b",
		"SELECT": "select", "Select": "select", "sElEcT": "select", "select": "select", "selects": "selects", "a0123456789": "a0123456789",
		low: low, high: low, "_" + high + low + "0123456789": "_" + low + low + "0123456789",
		"x": "x", "X": "x", "x1": "x1", "XX": "xx", "xff": "xff", "X_": "x_", "b": "b", "null": "null", "TRUE": "true",
	} {
		checkTokens(t, text, wordOf(want))
	}
	long := strings.Repeat("aB_9", api.MaxText/4)
	checkTokens(t, long, wordOf(strings.Repeat("ab_9", api.MaxText/4)))
	checkTokens(t, "a b", wordOf("a"), at(2, wordOf("b")))
	checkTokens(t, "a.B", wordOf("a"), at(1, symbolOf(".")), at(2, wordOf("b")))
	checkTokens(t, "a'b'c", wordOf("a"), at(1, textOf("b")), at(4, wordOf("c")))
	checkFault(t, "aé", 1, api.ErrSyntax)
	checkFault(t, "a\x00", 1, api.ErrSyntax)
	checkFault(t, "a@", 1, api.ErrSyntax)
	checkFault(t, "a[", 1, api.ErrSyntax)
	checkFault(t, "a`", 1, api.ErrSyntax)
	checkFault(t, "a{", 1, api.ErrSyntax)
	// what unicode calls a letter whose small form is an ASCII one (the Kelvin sign)
	checkFault(t, "a\u212a", 1, api.ErrSyntax)
}

// 12.1: numbers, up to 2^63 - 1.
func TestNumbers(t *testing.T) {
	for text, want := range map[string]int64{
		"0": 0, "1": 1, "7": 7, "9": 9, "10": 10, "1234567890": 1234567890, "00": 0, "007": 7, "010": 10,
		"2147483647": 1<<31 - 1, "2147483648": 1 << 31, "4294967296": 1 << 32,
		"999999999999999999": 999999999999999999, "1000000000000000000": 1000000000000000000,
		"9223372036854775806": math.MaxInt64 - 1, "9223372036854775807": math.MaxInt64, "0000009223372036854775807": math.MaxInt64,
		strings.Repeat("0", api.MaxText): 0, strings.Repeat("0", api.MaxText-1) + "8": 8,
		strings.Repeat("0", api.MaxText-19) + "9223372036854775807": math.MaxInt64,
	} {
		checkTokens(t, text, intOf(want))
	}
	for _, text := range []string{
		"9223372036854775808", "9223372036854775809", "9223372036854775810", "9300000000000000000", "9999999999999999999", "10000000000000000000", "18446744073709551615", "18446744073709551616", "18446744073709551617", "18446744073709551623", "36893488147419103233",
		"09223372036854775808", strings.Repeat("0", api.MaxText-19) + "9223372036854775808", strings.Repeat("9", api.MaxText), "1" + strings.Repeat("0", api.MaxText-1),
	} {
		checkFault(t, text, 0, api.ErrSyntax)
	}
	checkFault(t, "1, 9223372036854775808 ", 3, api.ErrSyntax)
	checkFault(t, "a -9223372036854775808", 3, api.ErrSyntax)
	checkTokens(t, "-9223372036854775807", symbolOf("-"), at(1, intOf(math.MaxInt64)))
	checkTokens(t, "1_000", intOf(1), at(1, wordOf("_000")))
	checkTokens(t, "0x1f", intOf(0), at(1, wordOf("x1f")))
	checkTokens(t, "0b1", intOf(0), at(1, wordOf("b1")))
	checkTokens(t, "1.5", intOf(1), at(1, symbolOf(".")), at(2, intOf(5)))
	checkTokens(t, "1e9", intOf(1), at(1, wordOf("e9")))
	checkTokens(t, "1 2", intOf(1), at(2, intOf(2)))
	checkTokens(t, "1'2'", intOf(1), at(1, textOf("2")))
	checkTokens(t, "+1", symbolOf("+"), at(1, intOf(1)))
}

// 12.1: texts, in which of two ' one is meant.
func TestTexts(t *testing.T) {
	for text, want := range map[string]string{
		"''": "", "' '": " ", "'a'": "a", "'A b'": "A b", "''''": "'", "''''''": "''", "'it''s'": "it's", "'''a'": "'a", "'a'''": "a'", "'''a'''": "'a'", "'a''''b'": "a''b", "'''''a'''''": "''a''",
		"'\n'": "\n", "'a\nb\r\n\tc'": "a\nb\r\n\tc", "'-- a'": "-- a", "'--\n'": "--\n", "'x''00'": "x'00", "'\x00'": "\x00", "'\xff\x80é'": "\xff\x80é", "'\\'": "\\", "'\"'": "\"", "'a;b'": "a;b", "'SELECT'": "SELECT", "'1'": "1",
		"'" + strings.Repeat("a", api.MaxText-2) + "'": strings.Repeat("a", api.MaxText-2),
		strings.Repeat("'", api.MaxText):               strings.Repeat("'", api.MaxText/2-1),
	} {
		checkTokens(t, text, textOf(want))
	}
	var all []byte
	for c := range 256 {
		all = append(all, byte(c))
	}
	checkTokens(t, "'"+strings.ReplaceAll(string(all), "'", "''")+"'", textOf(string(all)))
	checkTokens(t, "'a' 'b'", textOf("a"), at(4, textOf("b")))
	checkTokens(t, "'a'b", textOf("a"), at(3, wordOf("b")))
	checkTokens(t, "'a'x'00'", textOf("a"), at(3, blobOf("\x00")))
	checkTokens(t, "'''' ''", textOf("'"), at(5, textOf("")))
	for _, text := range []string{"'", "'a", "'''", "'''''", "'a''", "'a''b", "'''a", "'a\n", "'a -- b", "'a\"", strings.Repeat("'", api.MaxText-1), "'" + strings.Repeat("a", api.MaxText-1)} {
		checkFault(t, text, 0, api.ErrSyntax)
	}
	checkFault(t, "'a' 'b", 4, api.ErrSyntax)
	checkFault(t, "a ''' b", 2, api.ErrSyntax)
	checkFault(t, "'a'''b'", 6, api.ErrSyntax)
}

// 12.1: blobs.
func TestBlobs(t *testing.T) {
	for text, want := range map[string]string{
		"x''": "", "X''": "", "x'00'": "\x00", "X'00'": "\x00", "x'0aFf'": "\x0a\xff", "x'0A'": "\x0a", "x'Aa'": "\xaa", "x'aA'": "\xaa", "X'27'": "'", "x'80'": "\x80",
		"x'0123456789abcdef'": "\x01\x23\x45\x67\x89\xab\xcd\xef", "X'0123456789ABCDEF'": "\x01\x23\x45\x67\x89\xab\xcd\xef",
		"x'" + strings.Repeat("fe", api.MaxText/2-2) + "'": strings.Repeat("\xfe", api.MaxText/2-2),
	} {
		checkTokens(t, text, blobOf(want))
	}
	for _, text := range []string{
		"x'", "X'", "x'0", "x'00", "x'000", "x'0'", "x'000'", "x'0a1'", "x'0g'", "x'g0'", "x'G0'", "x'0G'", "x'@0'", "x'0`'", "x'/0'", "x'0:'", "x' '", "x'  '", "x'0 0'", "x'00 '", "x' 00'", "x'00 00'", "x'-1'", "x'+1'", "x'0x'", "x'\n00'", "x'\xff\xff'", "x'é'", "x'00--'", "x'0''0'", "x'0'0'", "X'_0'", "x'1_'", "x'0\x00'",
		"x'" + strings.Repeat("0", api.MaxText-2), "x'" + strings.Repeat("0", api.MaxText-3) + "'",
	} {
		checkFault(t, text, 0, api.ErrSyntax)
	}
	checkTokens(t, "x '00'", wordOf("x"), at(2, textOf("00")))
	checkTokens(t, "x\n'00'", wordOf("x"), at(2, textOf("00")))
	checkTokens(t, "x--\n'00'", wordOf("x"), at(4, textOf("00")))
	checkTokens(t, "X", wordOf("x"))
	checkTokens(t, "x,", wordOf("x"), at(1, symbolOf(",")))
	checkTokens(t, "xx'00'", wordOf("xx"), at(2, textOf("00")))
	checkTokens(t, "ax'00'", wordOf("ax"), at(2, textOf("00")))
	checkTokens(t, "_x'00'", wordOf("_x"), at(2, textOf("00")))
	checkTokens(t, "x1'00'", wordOf("x1"), at(2, textOf("00")))
	checkTokens(t, "1x'00'", intOf(1), at(1, blobOf("\x00")))
	checkTokens(t, "y'00'", wordOf("y"), at(1, textOf("00")))
	checkTokens(t, "b'00'", wordOf("b"), at(1, textOf("00")))
	checkTokens(t, "x'00''11'", blobOf("\x00"), at(5, textOf("11")))
	checkTokens(t, "x''''", blobOf(""), at(3, textOf("")))
	checkTokens(t, "x'00'x'11'", blobOf("\x00"), at(5, blobOf("\x11")))
	checkTokens(t, "x'00'a", blobOf("\x00"), at(5, wordOf("a")))
	checkFault(t, "a x'0'", 2, api.ErrSyntax)
	checkFault(t, "x'' X'zz' !", 4, api.ErrSyntax)
	checkFault(t, "x'''", 3, api.ErrSyntax)
	checkFault(t, "x'''00", 3, api.ErrSyntax)
}

// 12.1: symbols, the longest that stands there.
func TestSymbols(t *testing.T) {
	all := strings.Fields("<> <= >= || ( ) , . * = < > + - / % ;")
	if len(all) != 17 {
		t.Fatalf("%d symbols", len(all))
	}
	for _, s := range all {
		checkTokens(t, s, symbolOf(s))
		checkTokens(t, s+" "+s, symbolOf(s), at(len(s)+1, symbolOf(s)))
		checkTokens(t, "a"+s+"1", wordOf("a"), at(1, symbolOf(s)), at(1+len(s), intOf(1)))
		checkFault(t, s+"!", len(s), api.ErrSyntax)
	}
	pairs := strings.Fields("<> <= >= ||")
	for _, a := range all {
		for _, b := range all {
			text := a + b
			if len(text) != 2 || text == "--" || slices.Contains(pairs, text) {
				continue
			}
			checkTokens(t, text, symbolOf(a), at(1, symbolOf(b)))
		}
	}
	for text, want := range map[string][]api.Token{
		"<=>": list(symbolOf("<="), at(2, symbolOf(">"))), "<>=": list(symbolOf("<>"), at(2, symbolOf("="))), ">==": list(symbolOf(">="), at(2, symbolOf("="))), "<<=": list(symbolOf("<"), at(1, symbolOf("<="))), "><>": list(symbolOf(">"), at(1, symbolOf("<>"))), ">>=": list(symbolOf(">"), at(1, symbolOf(">="))),
		"==": list(symbolOf("="), at(1, symbolOf("="))), "=<": list(symbolOf("="), at(1, symbolOf("<"))), "=>": list(symbolOf("="), at(1, symbolOf(">"))), "||||": list(symbolOf("||"), at(2, symbolOf("||"))), "< >": list(symbolOf("<"), at(2, symbolOf(">"))), "< =": list(symbolOf("<"), at(2, symbolOf("="))), "<\n=": list(symbolOf("<"), at(2, symbolOf("="))),
		"()": list(symbolOf("("), at(1, symbolOf(")"))), "**": list(symbolOf("*"), at(1, symbolOf("*"))), "..": list(symbolOf("."), at(1, symbolOf("."))), ";;": list(symbolOf(";"), at(1, symbolOf(";"))), "//": list(symbolOf("/"), at(1, symbolOf("/"))), "/*": list(symbolOf("/"), at(1, symbolOf("*"))),
	} {
		checkTokens(t, text, want...)
	}
	checkFault(t, "|", 0, api.ErrSyntax)
	checkFault(t, "a | b", 2, api.ErrSyntax)
	checkFault(t, "| |", 0, api.ErrSyntax)
	checkFault(t, "|||", 2, api.ErrSyntax)
	checkFault(t, "a != b", 2, api.ErrSyntax)
	checkFault(t, "<!", 1, api.ErrSyntax)
}

// 12.1: what each byte is, alone: the beginning of a token, of none, or nothing at all.
func TestEachByte(t *testing.T) {
	for c := range 256 {
		s := string([]byte{byte(c)})
		switch {
		case strings.Contains(" \t\n\r", s):
			checkTokens(t, s)
			checkTokens(t, "a"+s+"b", wordOf("a"), at(2, wordOf("b")))
		case strings.Contains("abcdefghijklmnopqrstuvwxyzABCDEFGHIJKLMNOPQRSTUVWXYZ_", s):
			checkTokens(t, s, wordOf(strings.ToLower(s)))
		case strings.Contains("0123456789", s):
			checkTokens(t, s, intOf(int64(c-48)))
		case strings.Contains("(),.*=<>+-/%;", s):
			checkTokens(t, s, symbolOf(s))
		default:
			checkFault(t, s, 0, api.ErrSyntax)
			checkFault(t, "a "+s, 2, api.ErrSyntax)
		}
	}
}

// 12.1: blanks, tabs, line feeds, carriage returns and remarks between tokens, and where
// tokens meet without any.
func TestBetween(t *testing.T) {
	for _, gap := range []string{" ", "\t", "\n", "\r", "  ", " \t\n\r", "\r\n", "--\n", "-- a\n", "--a--b\n", "---\n", "-- 'it\n", "-- x'0\n", "-- !\xff\x00\n", "--\r\n", "-- a\rb\n", "--\n--\n", " -- a\n\t-- b\r\n ", "--" + strings.Repeat(" -", 1000) + "\n"} {
		n := len(gap)
		checkTokens(t, "a"+gap+"b", wordOf("a"), at(1+n, wordOf("b")))
		checkTokens(t, gap+"a", at(n, wordOf("a")))
		checkTokens(t, "a"+gap, wordOf("a"))
		checkTokens(t, gap+"1"+gap+"'2'"+gap+"x'33'"+gap+"<"+gap+"="+gap, at(n, intOf(1)), at(2*n+1, textOf("2")), at(3*n+4, blobOf("3")), at(4*n+9, symbolOf("<")), at(5*n+10, symbolOf("=")))
		checkFault(t, "a"+gap+"!", 1+n, api.ErrSyntax)
		checkFault(t, gap+"'a", n, api.ErrSyntax)
	}
	for _, c := range []string{"\x00", "\x0b", "\x0c", "\x1f", "\x7f", "\x85", "\xa0", "\u00a0", "\u2028", "\ufeff"} {
		checkFault(t, "a"+c+"b", 1, api.ErrSyntax)
	}
}

// 12.1: a remark ends with its line, or with the text; a single - begins none.
func TestRemarks(t *testing.T) {
	for _, rest := range []string{"--", "--a", "-- b 'c", "--\r", "--\rb", "-- a\r\t!", "-- \xff", "--\n"} {
		checkTokens(t, "a"+rest, wordOf("a"))
		checkTokens(t, "a\n"+rest, wordOf("a"))
	}
	for text, want := range map[string][]api.Token{
		"-":           list(symbolOf("-")),
		"- -":         list(symbolOf("-"), at(2, symbolOf("-"))),
		"-\n-":        list(symbolOf("-"), at(2, symbolOf("-"))),
		"-a":          list(symbolOf("-"), at(1, wordOf("a"))),
		"a-":          list(wordOf("a"), at(1, symbolOf("-"))),
		"a-b":         list(wordOf("a"), at(1, symbolOf("-")), at(2, wordOf("b"))),
		"a--b\n-c":    list(wordOf("a"), at(5, symbolOf("-")), at(6, wordOf("c"))),
		"<--\n=":      list(symbolOf("<"), at(4, symbolOf("="))),
		"- --\n-":     list(symbolOf("-"), at(5, symbolOf("-"))),
		"1---2":       list(intOf(1)),
		"(-(-a":       list(symbolOf("("), at(1, symbolOf("-")), at(2, symbolOf("(")), at(3, symbolOf("-")), at(4, wordOf("a"))),
		"'a--b'":      list(textOf("a--b")),
		"'a'--'\n'c'": list(textOf("a"), at(7, textOf("c"))),
	} {
		checkTokens(t, text, want...)
	}
}

// 12.1: a whole statement, over lines, with the place of each token.
func TestStatement(t *testing.T) {
	checkTokens(t, "INSERT into T (a,_B)\r\n\tVALUES (-007, X'6a''it''''s') -- two\n;",
		wordOf("insert"), at(7, wordOf("into")), at(12, wordOf("t")), at(14, symbolOf("(")), at(15, wordOf("a")), at(16, symbolOf(",")), at(17, wordOf("_b")), at(19, symbolOf(")")),
		at(23, wordOf("values")), at(30, symbolOf("(")), at(31, symbolOf("-")), at(32, intOf(7)), at(35, symbolOf(",")), at(37, blobOf("j")), at(42, textOf("it''s")), at(51, symbolOf(")")), at(60, symbolOf(";")))
}

// 12.1: the place is that of the first token that is none, whatever follows it.
func TestFirstFault(t *testing.T) {
	for text, place := range map[string]int{
		"!": 0, " !": 1, "a!": 1, "1 ?": 2, "'a' # 'b": 4, "9223372036854775808 !": 0, "! 9223372036854775808": 0, "x'0' '": 0, "a 'b ! c": 2, "a 'b' ! 'c": 6, "-- !\n!": 5, "a\n\n !": 4, "\"a\"": 0, "a \"b\"": 2, "a:b": 1, "$1": 0, "?": 0, "@a": 0, "[a]": 0, "{": 0, "`a`": 0, "a^b": 1, "a&b": 1, "~a": 0, "a\\b": 1, "é": 0, "select é": 7,
		strings.Repeat(" ", api.MaxText-1) + "!": api.MaxText - 1, strings.Repeat("a ", api.MaxText/2-1) + " '": api.MaxText - 1,
	} {
		checkFault(t, text, place, api.ErrSyntax)
	}
}

// 12.1: a text of 2^14 bytes is read; one more is too long, whatever else it is.
func TestLong(t *testing.T) {
	var want []api.Token
	for i := range 1 << 14 {
		want = append(want, at(i, symbolOf("(")))
	}
	checkTokens(t, strings.Repeat("(", 1<<14), want...)
	checkTokens(t, strings.Repeat(" ", 1<<14-1)+"a", at(1<<14-1, wordOf("a")))
	for _, c := range []string{" ", "a", "0", "9", "(", "-", "!", "'", "\xff", "x'"} {
		for _, n := range []int{1<<14 + 1, 1<<14 + 2, 1 << 15, 1 << 20} {
			checkFault(t, strings.Repeat(c, n)[:n], 0, api.ErrLong)
		}
	}
	checkFault(t, "a "+strings.Repeat("!", 1<<14-1), 0, api.ErrLong)
	checkFault(t, "a "+strings.Repeat("!", 1<<14-2), 2, api.ErrSyntax)
}

// 12.2: Keyword.
func TestKeyword(t *testing.T) {
	all := strings.Fields("select distinct from join on where group by having order asc desc limit offset as insert into values update set delete create table unique index drop not null is and or true false begin commit rollback to savepoint release int text blob bool")
	if len(all) != 43 {
		t.Fatalf("%d keywords", len(all))
	}
	for _, s := range all {
		if !Keyword(s) {
			t.Errorf("%s is a keyword", s)
		}
		for _, other := range []string{strings.ToUpper(s), strings.ToUpper(s[:1]) + s[1:], s[:len(s)-1] + strings.ToUpper(s[len(s)-1:]), s + " ", " " + s, s + "1", "_" + s, s + s, s + "\x00", "'" + s + "'"} {
			if Keyword(other) {
				t.Errorf("%q is no keyword", other)
			}
		}
	}
	for _, other := range []string{"", " ", "a", "selec", "select from", "count", "sum", "min", "max", "length", "abs", "upper", "lower", "coalesce", "substr", "inner", "left", "like", "in", "integer", "(", "<>", "1", "\xff", strings.Repeat("select", 10000)} {
		if Keyword(other) {
			t.Errorf("%q is no keyword", short(other))
		}
	}
}

// 12.2: Print of each kind; the place does not matter.
func TestPrint(t *testing.T) {
	for i, c := range []struct {
		token api.Token
		want  string
	}{
		{wordOf("select"), "select"}, {wordOf("a_1"), "a_1"}, {wordOf(""), ""}, {wordOf("A b'"), "A b'"},
		{intOf(0), "0"}, {intOf(7), "7"}, {intOf(1000), "1000"}, {intOf(math.MaxInt64), "9223372036854775807"},
		{textOf(""), "''"}, {textOf("a"), "'a'"}, {textOf("it's"), "'it''s'"}, {textOf("'"), "''''"}, {textOf("''"), "''''''"}, {textOf("a\n\xff\x00"), "'a\n\xff\x00'"}, {textOf("NULL"), "'NULL'"},
		{blobOf(""), "X''"}, {blobOf("\x0a\xff"), "X'0AFF'"}, {blobOf("'"), "X'27'"}, {blobOf("\x00\x9b"), "X'009B'"},
		{symbolOf("<>"), "<>"}, {symbolOf(";"), ";"}, {symbolOf("||"), "||"}, {symbolOf("-"), "-"}, {symbolOf(""), ""}, {symbolOf("!"), "!"},
		{textOf(strings.Repeat("'", 1<<15)), strings.Repeat("'", 1<<16+2)}, {blobOf(strings.Repeat("\xab", 1<<15)), "X'" + strings.Repeat("AB", 1<<15) + "'"},
	} {
		for _, place := range []int{0, 1, -1, math.MaxInt} {
			if s := Print(at(place, c.token)); s != c.want {
				t.Errorf("%d: Print: %q, want %q", i, short(s), short(c.want))
			}
		}
	}
}

// 12.2: Print of a kind that is none is nothing.
func TestPrintNoKind(t *testing.T) {
	for _, kind := range []int{0, -1, -2, 6, 7, 255, 256 + api.TWord, 1<<32 + api.TInt, math.MinInt, math.MaxInt} {
		for _, token := range []api.Token{{}, {Text: "a"}, {Int: 7}, {Text: "a", Int: 7, At: 3}} {
			token.Kind = kind
			if s := Print(token); s != "" {
				t.Errorf("Print(%+v): %q, want nothing", token, s)
			}
		}
	}
}

// R4: what is handed out is new memory.
func TestNewMemory(t *testing.T) {
	one, _ := Tokens("a + 'b'")
	two, _ := Tokens("a + 'b'")
	spoilt := one[:cap(one)]
	for i := range spoilt {
		spoilt[i] = intOf(99)
	}
	if !slices.Equal(two, list(wordOf("a"), at(2, symbolOf("+")), at(4, textOf("b")))) {
		t.Errorf("another answer has changed: %v", two)
	}
	checkTokens(t, "a + 'b'", two...)
}
