package value

import (
	"math"
	"slices"
	"strings"
	"testing"

	"quarry/api"
)

func truthOf(n int64) api.Value { return api.Value{Kind: api.Bool, Int: n} }

func number(n int64) api.Value { return api.Value{Kind: api.Int, Int: n} }

func text(s string) api.Value { return api.Value{Kind: api.Text, Text: s} }

func blob(s string) api.Value { return api.Value{Kind: api.Blob, Text: s} }

func row(l ...api.Value) []api.Value { return l }

// numbers is a row of numbers.
func numbers(l ...int64) []api.Value {
	var out []api.Value
	for _, n := range l {
		out = append(out, number(n))
	}
	return out
}

// inOrder is right values, each ahead of those behind it.
func inOrder() []api.Value {
	l := []api.Value{
		{},
		truthOf(0), truthOf(1),
		number(math.MinInt64), number(math.MinInt64 + 1), number(-10), number(-2), number(-1), number(0), number(1), number(2), number(10), number(math.MaxInt64),
	}
	texts := []string{"", "\x00", "\x00\x00", "\x00a", "'", "''", "A", "B", "a", "a\x00", "aa", "ab", "b", "\x7f", "\x80", "é", "\xff", "\xff\x00", "\xff\xff"}
	for _, s := range texts {
		l = append(l, text(s))
	}
	for _, s := range texts {
		l = append(l, blob(s))
	}
	return l
}

// notRight is values of the five kinds that are not right.
func notRight() []api.Value {
	return []api.Value{
		{Int: 1}, {Int: -1}, {Text: "a"}, {Int: 1, Text: "a"},
		{Kind: api.Bool, Int: 2}, {Kind: api.Bool, Int: -1}, {Kind: api.Bool, Int: math.MinInt64}, {Kind: api.Bool, Int: math.MaxInt64}, {Kind: api.Bool, Int: 1 << 32},
		{Kind: api.Bool, Text: "a"}, {Kind: api.Bool, Int: 1, Text: "TRUE"}, {Kind: api.Bool, Int: 2, Text: "a"},
		{Kind: api.Int, Text: "0"}, {Kind: api.Int, Int: 7, Text: "7"}, {Kind: api.Int, Int: 7, Text: "\x00"},
		{Kind: api.Text, Int: 1}, {Kind: api.Text, Int: -1, Text: "a"}, {Kind: api.Text, Int: math.MinInt64, Text: "a"},
		{Kind: api.Blob, Int: 1}, {Kind: api.Blob, Int: 1 << 40, Text: "a"},
	}
}

// noKinds is numbers that are no kind.
func noKinds() []int {
	return []int{-1, 5, 6, 255, 256, 1 << 32, math.MinInt, math.MaxInt}
}

func sign(n int) int {
	switch {
	case n < 0:
		return -1
	case n > 0:
		return 1
	}
	return 0
}

// 1.1: Check.
func TestCheck(t *testing.T) {
	for _, v := range inOrder() {
		if e := Check(v); e != api.OK {
			t.Errorf("Check(%+v): %d, want OK", v, e)
		}
	}
	for _, v := range notRight() {
		if e := Check(v); e != api.ErrField {
			t.Errorf("Check(%+v): %d, want ErrField", v, e)
		}
	}
	for _, k := range noKinds() {
		for _, v := range []api.Value{{Kind: k}, {Kind: k, Int: 2}, {Kind: k, Text: "a"}, {Kind: k, Int: 1, Text: "a"}} {
			if e := Check(v); e != api.ErrKind {
				t.Errorf("Check(%+v): %d, want ErrKind", v, e)
			}
		}
	}
}

// 1.1: a text that is longer than every limit is right.
func TestCheckLong(t *testing.T) {
	long := strings.Repeat("x", 4*api.MaxText)
	for _, v := range []api.Value{text(long), blob(long)} {
		if e := Check(v); e != api.OK {
			t.Errorf("Check of a long value of kind %d: %d", v.Kind, e)
		}
	}
}

// 1.1 and 1.4: of right values in order Compare tells their places.
func TestCompareRight(t *testing.T) {
	l := inOrder()
	for i, a := range l {
		for j, b := range l {
			if x := Compare(a, b); x != sign(i-j) {
				t.Errorf("Compare(%+v, %+v): %d, want %d", a, b, x, sign(i-j))
			}
		}
	}
}

// 1.1: Compare of values that are not right.
func TestCompareAny(t *testing.T) {
	for i, c := range []struct {
		a, b api.Value
		want int
	}{
		{api.Value{Int: 1, Text: "b"}, api.Value{Int: 9, Text: "a"}, 0},
		{api.Value{Int: 1}, truthOf(0), -1},
		{truthOf(7), truthOf(-7), 1},
		{truthOf(math.MinInt64), truthOf(math.MaxInt64), -1},
		{api.Value{Kind: api.Bool, Int: 1, Text: "a"}, api.Value{Kind: api.Bool, Int: 1, Text: "b"}, 0},
		{truthOf(9), number(-9), -1},
		{api.Value{Kind: api.Int, Int: 3, Text: "b"}, api.Value{Kind: api.Int, Int: 3, Text: "a"}, 0},
		{api.Value{Kind: api.Int, Int: 4, Text: "a"}, api.Value{Kind: api.Int, Int: 3, Text: "b"}, 1},
		{api.Value{Kind: api.Text, Int: 9, Text: "a"}, api.Value{Kind: api.Text, Int: 1, Text: "a"}, 0},
		{api.Value{Kind: api.Text, Int: 9, Text: "a"}, api.Value{Kind: api.Text, Int: 1, Text: "b"}, -1},
		{api.Value{Kind: api.Blob, Int: 1, Text: "a"}, api.Value{Kind: api.Blob, Int: 2, Text: "a"}, 0},
		{api.Value{Kind: api.Blob, Int: 1, Text: "b"}, api.Value{Kind: api.Blob, Int: 2, Text: "a"}, 1},
		{api.Value{Kind: 5, Int: 1, Text: "a"}, api.Value{Kind: 5, Int: 2, Text: "b"}, 0},
		{api.Value{Kind: -1, Int: 1, Text: "a"}, api.Value{Kind: -1}, 0},
		{api.Value{Kind: -1}, api.Value{}, -1},
		{api.Value{Kind: 5}, blob("\xff"), 1},
		{api.Value{Kind: 5}, api.Value{Kind: 6}, -1},
		{api.Value{Kind: math.MinInt}, api.Value{Kind: math.MaxInt}, -1},
		{api.Value{Kind: 1 << 32}, api.Value{Kind: 1}, 1},
	} {
		if x := Compare(c.a, c.b); x != c.want {
			t.Errorf("%d: Compare(%+v, %+v): %d, want %d", i, c.a, c.b, x, c.want)
		}
		if x := Compare(c.b, c.a); x != -c.want {
			t.Errorf("%d: Compare(%+v, %+v): %d, want %d", i, c.b, c.a, x, -c.want)
		}
	}
}

// 1.2: Rows.
func TestRows(t *testing.T) {
	odd := api.Value{Kind: 9, Int: 1}
	for i, c := range []struct {
		a, b []api.Value
		desc []bool
		want int
	}{
		{nil, nil, nil, 0},
		{nil, row(), []bool{true}, 0},
		{nil, numbers(1), nil, -1},
		{nil, numbers(1), []bool{true}, -1},
		{nil, row(api.Value{}), []bool{true, true}, -1},
		{numbers(1, 2), numbers(1, 2), nil, 0},
		{numbers(1, 2), numbers(1, 2), []bool{true, true}, 0},
		{numbers(1, 2), numbers(1, 3), nil, -1},
		{numbers(1, 2), numbers(1, 3), []bool{false, true}, 1},
		{numbers(1, 2), numbers(1, 3), []bool{true, false}, -1},
		{numbers(1, 2), numbers(1, 3), []bool{true}, -1},
		{numbers(1, 2), numbers(2, 1), []bool{true}, 1},
		{numbers(1, 2), numbers(2, 1), []bool{false, true}, -1},
		{numbers(1, 2), numbers(1, 3), []bool{false, true, true, false}, 1},
		{numbers(1, 2), numbers(1, 3), []bool{false, false, true, true}, -1},
		{numbers(1), numbers(1, 2), nil, -1},
		{numbers(1), numbers(1, 2), []bool{true, true}, -1},
		{numbers(1), numbers(1, 2), []bool{false, true, true}, -1},
		{numbers(2), numbers(1, 2), nil, 1},
		{numbers(2), numbers(1, 2), []bool{true}, -1},
		{row(api.Value{}, text("b")), row(api.Value{}, text("ab")), nil, 1},
		{row(text("a"), number(1)), row(blob("a"), number(0)), nil, -1},
		{row(text("a"), number(1)), row(blob("a"), number(0)), []bool{true}, 1},
		{row(odd, number(1)), row(api.Value{Kind: 9, Int: 2}, number(0)), nil, 1},
	} {
		if x := Rows(c.a, c.b, c.desc); x != c.want {
			t.Errorf("%d: Rows(%v, %v, %v): %d, want %d", i, c.a, c.b, c.desc, x, c.want)
		}
		if x := Rows(c.b, c.a, c.desc); x != -c.want {
			t.Errorf("%d: Rows(%v, %v, %v): %d, want %d", i, c.b, c.a, c.desc, x, -c.want)
		}
	}
}

// R4: what is handed in stays as it is.
func TestRowsChangesNothing(t *testing.T) {
	a, b, desc := numbers(1, 2, 3), numbers(1, 5, 3), []bool{false, true, true}
	Rows(a[:2], b[:2], desc[:2])
	if !slices.Equal(a, numbers(1, 2, 3)) || !slices.Equal(b, numbers(1, 5, 3)) || !slices.Equal(desc, []bool{false, true, true}) {
		t.Errorf("Rows has changed what it was given: %v %v %v", a, b, desc)
	}
}

// 1.3: Literal of right values.
func TestLiteral(t *testing.T) {
	all := allBytes()
	for want, v := range map[string]api.Value{
		"NULL":                    {},
		"FALSE":                   truthOf(0),
		"TRUE":                    truthOf(1),
		"0":                       number(0),
		"1":                       number(1),
		"-7":                      number(-7),
		"1000":                    number(1000),
		"9223372036854775807":     number(math.MaxInt64),
		"-9223372036854775808":    number(math.MinInt64),
		"''":                      text(""),
		"''''":                    text("'"),
		"''''''":                  text("''"),
		"'it''s'":                 text("it's"),
		"'''a''''b'''":            text("'a''b'"),
		"'a\"\\n\n'":              text("a\"\\n\n"),
		"'\x00\xff\xc3'":          text("\x00\xff\xc3"),
		"X''":                     blob(""),
		"X'27'":                   blob("'"),
		"X'0AFF'":                 blob("\n\xff"),
		"X'00'":                   blob("\x00"),
		"X'0123456789ABCDEF'":     blob("\x01\x23\x45\x67\x89\xab\xcd\xef"),
		"X'F09F7FC3A9'":           blob("\xf0\x9f\x7fé"),
		"'" + doubled(all) + "'":  text(all),
		"X'" + hexUpTo(256) + "'": blob(all),
	} {
		if x := Literal(v); x != want {
			t.Errorf("Literal(%+v): %q, want %q", v, x, want)
		}
	}
}

// allBytes is a text of each byte once.
func allBytes() string {
	var b []byte
	for i := range 256 {
		b = append(b, byte(i))
	}
	return string(b)
}

// doubled is a text in which each ' stands twice, found byte by byte.
func doubled(s string) string {
	var b []byte
	for _, c := range []byte(s) {
		b = append(b, c)
		if c == 39 {
			b = append(b, c)
		}
	}
	return string(b)
}

// hexUpTo is the two digits of each of the numbers below n.
func hexUpTo(n int) string {
	out := ""
	for i := range n {
		for _, d := range []int{i / 16, i % 16} {
			if d < 10 {
				out += string([]byte{byte(48 + d)})
			} else {
				out += string([]byte{byte(55 + d)})
			}
		}
	}
	return out
}

// 1.3: Literal of a value that is not right is nothing.
func TestLiteralNotRight(t *testing.T) {
	l := notRight()
	for _, k := range noKinds() {
		l = append(l, api.Value{Kind: k}, api.Value{Kind: k, Int: 1, Text: "a"})
	}
	for _, v := range l {
		if x := Literal(v); x != "" {
			t.Errorf("Literal(%+v): %q, want nothing", v, x)
		}
	}
}

// 1.3: Literal of texts that are longer than every limit.
func TestLiteralLong(t *testing.T) {
	n := 4 * api.MaxText
	if x := Literal(text(strings.Repeat("'", n))); x != strings.Repeat("'", 2*n+2) {
		t.Errorf("Literal of %d quotes has %d bytes", n, len(x))
	}
	if x := Literal(blob(strings.Repeat("\xa0", n))); x != "X'"+strings.Repeat("A0", n)+"'" {
		t.Errorf("Literal of a blob of %d bytes has %d bytes", n, len(x))
	}
}

// 1.3: Type.
func TestType(t *testing.T) {
	for i, want := range []string{"NULL", "BOOL", "INT", "TEXT", "BLOB"} {
		if x := Type(i); x != want {
			t.Errorf("Type(%d): %q, want %q", i, x, want)
		}
	}
	for _, k := range noKinds() {
		if x := Type(k); x != "" {
			t.Errorf("Type(%d): %q, want nothing", k, x)
		}
	}
}

// 1.4: Compare is an order of the right values, and 0 just for the same ones;
// values and their literals stand for one another.
func TestCompareIsAnOrder(t *testing.T) {
	l := inOrder()
	places := map[api.Value]int{}
	literals := map[string]int{}
	for i, v := range l {
		places[v] = i
		literals[Literal(v)] = i
	}
	if len(places) != len(l) || len(literals) != len(l) {
		t.Fatalf("%d values, %d literals, want %d", len(places), len(literals), len(l))
	}
	for _, a := range l {
		for _, b := range l {
			if (Compare(a, b) == 0) != (a == b) {
				t.Errorf("Compare(%+v, %+v): %d", a, b, Compare(a, b))
			}
			for _, c := range l {
				if Compare(a, b) <= 0 && Compare(b, c) <= 0 && Compare(a, c) > 0 {
					t.Errorf("%+v, %+v, %+v do not stand in a row", a, b, c)
				}
			}
		}
	}
	mixed := slices.Clone(l)
	slices.Reverse(mixed)
	slices.SortFunc(mixed, Compare)
	if !slices.Equal(mixed, l) {
		t.Errorf("sorted: %v", mixed)
	}
}

// someRows is all rows of at most two of some values, shorter ones ahead of
// what goes on from them.
func someRows() [][]api.Value {
	vs := []api.Value{{}, truthOf(1), number(-1), number(3), text(""), text("a"), text("ab"), blob("a")}
	out := [][]api.Value{nil}
	for _, a := range vs {
		out = append(out, row(a))
		for _, b := range vs {
			out = append(out, row(a, b))
		}
	}
	return out
}

// 1.4: with a desc of nothing but false Rows is the order, place by place.
func TestRowsIsAnOrder(t *testing.T) {
	l := someRows()
	for i, a := range l {
		for j, b := range l {
			for _, desc := range [][]bool{nil, {}, {false}, {false, false}, {false, false, false}} {
				if x := Rows(a, b, desc); x != sign(i-j) {
					t.Errorf("Rows(%v, %v, %v): %d, want %d", a, b, desc, x, sign(i-j))
				}
			}
		}
	}
}

// 1.4: with desc turned about at all places rows of one length stand the other way round.
func TestRowsTurnedAbout(t *testing.T) {
	l := someRows()
	for _, desc := range [][]bool{{false, false}, {false, true}, {true, false}, {true, true}} {
		turned := []bool{!desc[0], !desc[1]}
		for _, a := range l {
			for _, b := range l {
				if len(a) == len(b) && Rows(a, b, turned) != -Rows(a, b, desc) {
					t.Errorf("Rows(%v, %v, %v): %d, turned about %d", a, b, desc, Rows(a, b, desc), Rows(a, b, turned))
				}
			}
		}
	}
}
