package calc

import (
	"math"
	"math/big"
	"slices"
	"strings"
	"testing"

	"quarry/api"
	"quarry/value"
)

var null = api.Value{}

func boolOf(n int64) api.Value { return api.Value{Kind: api.Bool, Int: n} }

func intOf(n int64) api.Value { return api.Value{Kind: api.Int, Int: n} }

func textOf(s string) api.Value { return api.Value{Kind: api.Text, Text: s} }

func blobOf(s string) api.Value { return api.Value{Kind: api.Blob, Text: s} }

func row(l ...api.Value) []api.Value { return l }

// oneOfEach is some right values of each kind.
func oneOfEach() []api.Value {
	return row(null, boolOf(0), boolOf(1), intOf(0), intOf(1), intOf(math.MinInt64), textOf(""), textOf("a"), blobOf(""), blobOf("a"))
}

// edges is numbers at which sums go over, or turn their sign.
func edges() []int64 {
	l := []int64{0, 1, 2, 3, 7, 10, 1<<31 - 1, 1 << 31, 1<<31 + 1, 3037000499, 3037000500, 1 << 32, 1<<62 - 1, 1 << 62, 1<<62 + 1, math.MaxInt64/3 + 1, math.MaxInt64 / 3, math.MaxInt64 - 1, math.MaxInt64}
	for _, n := range slices.Clone(l) {
		l = append(l, -n)
	}
	return append(l, math.MinInt64, math.MinInt64+1, math.MinInt64+2, math.MinInt64/3, math.MinInt64/3-1)
}

// noOperators is numbers that are neither Neg nor Not nor one of Or to Cat.
func noOperators() []int {
	return []int{0, -1, 17, 18, 255, 256 + 3, 1<<32 + 5, math.MinInt, math.MaxInt}
}

func isNull(v api.Value) bool { return v.Kind == api.Null }

func checkUnary(t *testing.T, op int, v, want api.Value, e api.Errno) {
	t.Helper()
	if x, y := Unary(op, v); x != want || y != e {
		t.Errorf("Unary(%d, %#v): %#v, error %d, want %#v, %d", op, v, x, y, want, e)
	}
}

func checkBinary(t *testing.T, op int, a, b, want api.Value, e api.Errno) {
	t.Helper()
	if x, y := Binary(op, a, b); x != want || y != e {
		t.Errorf("Binary(%d, %#v, %#v): %#v, error %d, want %#v, %d", op, a, b, x, y, want, e)
	}
}

func checkCall(t *testing.T, f int, args []api.Value, want api.Value, e api.Errno) {
	t.Helper()
	before := slices.Clone(args)
	if x, y := Call(f, args); x != want || y != e {
		t.Errorf("Call(%d, %#v): %#v, error %d, want %#v, %d", f, args, x, y, want, e)
	}
	if !slices.Equal(args, before) {
		t.Errorf("Call(%d, %#v): the args were changed, to %#v", f, before, args)
	}
}

// 2.1: an operator that is none, whatever the value.
func TestUnaryKind(t *testing.T) {
	for _, op := range append(noOperators(), 3, 4, 5, 10, 11, 12, 13, 14, 15, 16) {
		for _, v := range append(oneOfEach(), api.Value{Kind: 9}) {
			checkUnary(t, op, v, null, api.ErrKind)
		}
	}
}

// 2.1: NULL, and kinds that do not go there.
func TestUnaryType(t *testing.T) {
	for op, kind := range map[int]int{api.Neg: api.Int, api.Not: api.Bool} {
		for _, v := range oneOfEach() {
			switch v.Kind {
			case kind:
			case api.Null:
				checkUnary(t, op, v, null, api.OK)
			default:
				checkUnary(t, op, v, null, api.ErrType)
			}
		}
	}
}

// 2.1: the number, its sign turned, and the one that has no opposite.
func TestNeg(t *testing.T) {
	for n, want := range map[int64]int64{0: 0, 1: -1, -1: 1, 7: -7, -7: 7, 1 << 40: -1 << 40, math.MaxInt64: math.MinInt64 + 1, math.MinInt64 + 1: math.MaxInt64} {
		checkUnary(t, api.Neg, intOf(n), intOf(want), api.OK)
	}
	checkUnary(t, api.Neg, intOf(math.MinInt64), null, api.ErrOverflow)
}

// 2.1: TRUE and FALSE.
func TestNot(t *testing.T) {
	checkUnary(t, api.Not, boolOf(0), boolOf(1), api.OK)
	checkUnary(t, api.Not, boolOf(1), boolOf(0), api.OK)
}

// 2.2: an operator that is none, whatever the values.
func TestBinaryKind(t *testing.T) {
	for _, op := range append(noOperators(), api.Neg, api.Not) {
		for _, a := range append(oneOfEach(), api.Value{Kind: 9}) {
			for _, b := range oneOfEach() {
				checkBinary(t, op, a, b, null, api.ErrKind)
				checkBinary(t, op, b, a, null, api.ErrKind)
			}
		}
	}
}

// 2.2: which kinds go where: what does not go there is told ahead of NULL, of a
// FALSE that would decide, of a divisor 0 and of sums that are too great.
func TestBinaryType(t *testing.T) {
	kindOf := func(op int) int {
		switch {
		case op <= api.And:
			return api.Bool
		case op == api.Cat:
			return api.Text
		}
		return api.Int
	}
	for op := api.Or; op <= api.Cat; op++ {
		for _, a := range oneOfEach() {
			for _, b := range oneOfEach() {
				right := (isNull(a) || a.Kind == kindOf(op)) && (isNull(b) || b.Kind == kindOf(op))
				if op >= api.Eq && op <= api.Ge {
					right = isNull(a) || isNull(b) || a.Kind == b.Kind
				}
				v, e := Binary(op, a, b)
				if !right && (e != api.ErrType || v != null) || right && e == api.ErrType {
					t.Errorf("Binary(%d, %#v, %#v): %#v, error %d; the kinds go there: %#v", op, a, b, v, e, right)
				}
				if right && op > api.And && (isNull(a) || isNull(b)) && (v != null || e != api.OK) {
					t.Errorf("Binary(%d, %#v, %#v): %#v, error %d, want NULL", op, a, b, v, e)
				}
			}
		}
	}
	for _, c := range []struct {
		op   int
		a, b api.Value
	}{
		{api.And, boolOf(0), intOf(0)}, {api.And, null, textOf("a")}, {api.Or, boolOf(1), intOf(1)}, {api.Or, blobOf(""), null},
		{api.Eq, intOf(1), textOf("a")}, {api.Ne, boolOf(1), intOf(1)}, {api.Lt, textOf("a"), blobOf("a")}, {api.Ge, boolOf(0), textOf("")},
		{api.Div, textOf("a"), intOf(0)}, {api.Rem, boolOf(1), intOf(0)}, {api.Div, null, textOf("a")}, {api.Add, boolOf(1), boolOf(1)},
		{api.Cat, null, intOf(1)}, {api.Cat, textOf("a"), blobOf("a")}, {api.Cat, blobOf("a"), blobOf("a")}, {api.Cat, textOf(strings.Repeat("a", 3000)), intOf(1)},
	} {
		checkBinary(t, c.op, c.a, c.b, null, api.ErrType)
	}
}

// 2.2: And and Or of all that go there.
func TestAndOr(t *testing.T) {
	no, yes := boolOf(0), boolOf(1)
	for _, c := range []struct{ a, b, and, or api.Value }{
		{no, no, no, no}, {no, null, no, null}, {no, yes, no, yes},
		{null, no, no, null}, {null, null, null, null}, {null, yes, null, yes},
		{yes, no, no, yes}, {yes, null, null, yes}, {yes, yes, yes, yes},
	} {
		checkBinary(t, api.And, c.a, c.b, c.and, api.OK)
		checkBinary(t, api.Or, c.a, c.b, c.or, api.OK)
	}
}

// inOrder is, kind by kind, values that stand in their order.
func inOrder() [][]api.Value {
	return [][]api.Value{
		{boolOf(0), boolOf(1)},
		{intOf(math.MinInt64), intOf(-10), intOf(-2), intOf(0), intOf(2), intOf(10), intOf(math.MaxInt64)},
		{textOf(""), textOf("\x00"), textOf("10"), textOf("2"), textOf("B"), textOf("a"), textOf("ab"), textOf("b"), textOf("\xff")},
		{blobOf(""), blobOf("\x00"), blobOf("B"), blobOf("a"), blobOf("ab"), blobOf("b"), blobOf("\xff")},
	}
}

// 2.2: comparisons of values of one kind.
func TestComparisons(t *testing.T) {
	// what each comparison says of values that stand ahead, with, behind
	want := map[int][3]int64{
		api.Eq: {0, 1, 0}, api.Ne: {1, 0, 1}, api.Lt: {1, 0, 0}, api.Le: {1, 1, 0}, api.Gt: {0, 0, 1}, api.Ge: {0, 1, 1},
	}
	for _, l := range inOrder() {
		for i, a := range l {
			for j, b := range l {
				side := 1
				if i < j {
					side = 0
				} else if i > j {
					side = 2
				}
				for op, w := range want {
					checkBinary(t, op, a, b, boolOf(w[side]), api.OK)
				}
			}
		}
	}
}

// exact is what a sum without bounds makes, and whether it is a number.
func exact(op int, a, b int64) (int64, bool) {
	x, y, n := big.NewInt(a), big.NewInt(b), new(big.Int)
	switch op {
	case api.Add:
		n.Add(x, y)
	case api.Sub:
		n.Sub(x, y)
	case api.Mul:
		n.Mul(x, y)
	case api.Div:
		n.Quo(x, y)
	case api.Rem:
		n.Rem(x, y)
	}
	if !n.IsInt64() {
		return 0, false
	}
	return n.Int64(), true
}

// 2.2: sums at the edges of the numbers, held against sums without bounds.
func TestSums(t *testing.T) {
	for op := api.Add; op <= api.Rem; op++ {
		for _, a := range edges() {
			for _, b := range edges() {
				if b == 0 && op >= api.Div {
					checkBinary(t, op, intOf(a), intOf(b), null, api.ErrDivide)
				} else if n, ok := exact(op, a, b); ok {
					checkBinary(t, op, intOf(a), intOf(b), intOf(n), api.OK)
				} else {
					checkBinary(t, op, intOf(a), intOf(b), null, api.ErrOverflow)
				}
			}
		}
	}
}

// 2.2: some sums, written out.
func TestSomeSums(t *testing.T) {
	for _, c := range []struct {
		op         int
		a, b, want int64
	}{
		{api.Add, 2, 3, 5}, {api.Sub, 2, 3, -1}, {api.Mul, -4, 3, -12}, {api.Mul, 0, math.MinInt64, 0}, {api.Mul, math.MinInt64, 0, 0},
		{api.Mul, 1, math.MinInt64, math.MinInt64}, {api.Mul, -1 << 31, 1 << 32, math.MinInt64}, {api.Sub, -1, math.MinInt64, math.MaxInt64}, {api.Add, math.MaxInt64, math.MinInt64, -1},
		{api.Div, 7, 2, 3}, {api.Div, -7, 2, -3}, {api.Div, 7, -2, -3}, {api.Div, -7, -2, 3}, {api.Div, 1, 2, 0}, {api.Div, -1, 2, 0}, {api.Div, 7, -1, -7}, {api.Div, math.MinInt64, 1, math.MinInt64},
		{api.Rem, 7, 2, 1}, {api.Rem, -7, 2, -1}, {api.Rem, 7, -2, 1}, {api.Rem, -7, -2, -1}, {api.Rem, 5, -1, 0}, {api.Rem, math.MinInt64, -1, 0}, {api.Rem, 3, math.MinInt64, 3},
	} {
		checkBinary(t, c.op, intOf(c.a), intOf(c.b), intOf(c.want), api.OK)
	}
	for _, c := range []struct {
		op   int
		a, b int64
	}{
		{api.Add, math.MaxInt64, 1}, {api.Add, math.MinInt64, -1}, {api.Sub, 0, math.MinInt64}, {api.Sub, math.MinInt64, 1}, {api.Sub, math.MaxInt64, -1},
		{api.Mul, math.MinInt64, -1}, {api.Mul, -1, math.MinInt64}, {api.Mul, 1 << 32, 1 << 31}, {api.Mul, 1 << 32, 1 << 32}, {api.Mul, math.MinInt64, math.MinInt64}, {api.Div, math.MinInt64, -1},
	} {
		checkBinary(t, c.op, intOf(c.a), intOf(c.b), null, api.ErrOverflow)
	}
}

// 2.2: a divisor 0 is an error of each number, and none beside NULL.
func TestDivide(t *testing.T) {
	for _, op := range []int{api.Div, api.Rem} {
		for _, n := range edges() {
			checkBinary(t, op, intOf(n), intOf(0), null, api.ErrDivide)
		}
		checkBinary(t, op, null, intOf(0), null, api.OK)
		checkBinary(t, op, intOf(0), null, null, api.OK)
	}
}

// 2.2: texts behind each other, up to 2048 bytes.
func TestCat(t *testing.T) {
	long := func(n int) api.Value { return textOf(strings.Repeat("é", n/2) + strings.Repeat("x", n%2)) }
	for _, c := range [][3]string{{"", "", ""}, {"a", "", "a"}, {"", "a", "a"}, {"ab", "cd", "abcd"}, {"\xff", "\x00'", "\xff\x00'"}, {"\xc3", "\xa9", "é"}} {
		checkBinary(t, api.Cat, textOf(c[0]), textOf(c[1]), textOf(c[2]), api.OK)
	}
	for _, n := range []int{0, 1, 1000, 1024, 2047, 2048} {
		a, b := long(n), long(api.MaxRow-n)
		checkBinary(t, api.Cat, a, b, textOf(a.Text+b.Text), api.OK)
		checkBinary(t, api.Cat, long(n+1), b, null, api.ErrLong)
		checkBinary(t, api.Cat, a, long(api.MaxRow-n+1), null, api.ErrLong)
	}
	checkBinary(t, api.Cat, long(5000), long(5000), null, api.ErrLong)
	checkBinary(t, api.Cat, long(5000), null, null, api.OK)
	checkBinary(t, api.Cat, null, long(5000), null, api.OK)
}

// 2.3: how many values each function takes.
func TestArgs(t *testing.T) {
	for f, want := range map[int]int{
		api.Length: 1, api.Abs: 1, api.Upper: 1, api.Lower: 1, api.Substr: 3, api.Coalesce: 2,
		0: 0, -1: 0, 7: 0, 8: 0, 256 + 1: 0, 1<<32 + 1: 0, math.MinInt: 0, math.MaxInt: 0,
	} {
		if n := Args(f); n != want {
			t.Errorf("Args(%d): %d, want %d", f, n, want)
		}
	}
}

// 2.3: a function that is none, ahead of how many args there are, ahead of their
// kinds.
func TestCallErrors(t *testing.T) {
	for _, f := range []int{0, -1, 7, 8, 256 + 1, 1<<32 + 1, math.MinInt, math.MaxInt} {
		for n := range 5 {
			checkCall(t, f, make([]api.Value, n), null, api.ErrKind)
		}
	}
	for f := api.Length; f <= api.Coalesce; f++ {
		for n := range 70 {
			wrong := slices.Repeat(row(api.Value{Kind: 9}), n)
			if n != Args(f) {
				checkCall(t, f, nil, null, api.ErrCount)
				checkCall(t, f, wrong, null, api.ErrCount)
				checkCall(t, f, make([]api.Value, n), null, api.ErrCount)
			} else {
				checkCall(t, f, make([]api.Value, n), null, api.OK)
			}
		}
	}
}

// 2.3: which kinds functions of one value take.
func TestCallType(t *testing.T) {
	takes := map[int][]int{api.Length: {api.Text, api.Blob}, api.Abs: {api.Int}, api.Upper: {api.Text}, api.Lower: {api.Text}}
	for f, kinds := range takes {
		for _, v := range oneOfEach() {
			if isNull(v) {
				checkCall(t, f, row(v), null, api.OK)
			} else if !slices.Contains(kinds, v.Kind) {
				checkCall(t, f, row(v), null, api.ErrType)
			} else if _, e := Call(f, row(v)); e == api.ErrType {
				t.Errorf("Call(%d, %#v): ErrType", f, v)
			}
		}
	}
}

// 2.3: which kinds Substr takes at each place; NULL does not hide one that does
// not go there.
func TestSubstrType(t *testing.T) {
	places := [3]int{api.Text, api.Int, api.Int}
	for _, a := range oneOfEach() {
		for _, b := range oneOfEach() {
			for _, c := range oneOfEach() {
				args := row(a, b, c)
				right, some := true, false
				for i, v := range args {
					right = right && (isNull(v) || v.Kind == places[i])
					some = some || isNull(v)
				}
				if !right {
					checkCall(t, api.Substr, args, null, api.ErrType)
				} else if some {
					checkCall(t, api.Substr, args, null, api.OK)
				} else if v, e := Call(api.Substr, args); e != api.OK || v.Kind != api.Text {
					t.Errorf("Call(Substr, %#v): %#v, error %d", args, v, e)
				}
			}
		}
	}
}

// 2.3: Coalesce of any two.
func TestCoalesce(t *testing.T) {
	for _, a := range oneOfEach() {
		for _, b := range oneOfEach() {
			switch {
			case isNull(a):
				checkCall(t, api.Coalesce, row(a, b), b, api.OK)
			case isNull(b) || a.Kind == b.Kind:
				checkCall(t, api.Coalesce, row(a, b), a, api.OK)
			default:
				checkCall(t, api.Coalesce, row(a, b), null, api.ErrType)
			}
		}
	}
	checkCall(t, api.Coalesce, row(intOf(3), intOf(4)), intOf(3), api.OK)
	checkCall(t, api.Coalesce, row(null, intOf(5)), intOf(5), api.OK)
	checkCall(t, api.Coalesce, row(boolOf(1), intOf(1)), null, api.ErrType)
	checkCall(t, api.Coalesce, row(textOf("a"), blobOf("a")), null, api.ErrType)
}

// 2.3: how many bytes.
func TestLength(t *testing.T) {
	for s, want := range map[string]int64{"": 0, "a": 1, "é": 2, "\x00\x01": 2, "\xff\xff\xff": 3, strings.Repeat("x", 5000): 5000} {
		checkCall(t, api.Length, row(textOf(s)), intOf(want), api.OK)
		checkCall(t, api.Length, row(blobOf(s)), intOf(want), api.OK)
	}
}

// 2.3: numbers without their sign, and the one that has none.
func TestAbs(t *testing.T) {
	for n, want := range map[int64]int64{0: 0, 1: 1, -1: 1, -7: 7, math.MaxInt64: math.MaxInt64, math.MinInt64 + 1: math.MaxInt64} {
		checkCall(t, api.Abs, row(intOf(n)), intOf(want), api.OK)
	}
	checkCall(t, api.Abs, row(intOf(math.MinInt64)), null, api.ErrOverflow)
}

// 2.3: just the 26 letters, byte by byte.
func TestLetters(t *testing.T) {
	var all, upper, lower []byte
	for i := range 256 {
		c := byte(i)
		u, l := c, c
		if strings.IndexByte("abcdefghijklmnopqrstuvwxyz", c) >= 0 {
			u = c - 32
		}
		if strings.IndexByte("ABCDEFGHIJKLMNOPQRSTUVWXYZ", c) >= 0 {
			l = c + 32
		}
		all, upper, lower = append(all, c), append(upper, u), append(lower, l)
	}
	for _, c := range [][3]string{
		{string(all), string(upper), string(lower)}, {"", "", ""}, {"aZ", "AZ", "az"}, {"@[`{", "@[`{", "@[`{"},
		{"éÉßſK", "éÉßſK", "éÉßſk"}, {"\xffa\xc3A", "\xffA\xc3A", "\xffa\xc3a"}, {"ſ\u212a", "ſ\u212a", "ſ\u212a"},
	} {
		checkCall(t, api.Upper, row(textOf(c[0])), textOf(c[1]), api.OK)
		checkCall(t, api.Lower, row(textOf(c[0])), textOf(c[2]), api.OK)
	}
}

// between is the bytes at the places that are at least p and below p + n, as
// numbers without bounds.
func between(s string, p, n int64) string {
	from := big.NewInt(p)
	end := new(big.Int).Add(from, big.NewInt(n))
	var out []byte
	for i := range len(s) {
		if place := big.NewInt(int64(i) + 1); place.Cmp(from) >= 0 && place.Cmp(end) < 0 {
			out = append(out, s[i])
		}
	}
	return string(out)
}

// 2.3: Substr at all places and lengths about a text, and at the edges of the
// numbers.
func TestSubstr(t *testing.T) {
	numbers := edges()
	for n := int64(-8); n <= 8; n++ {
		numbers = append(numbers, n, math.MinInt64+8+n, math.MaxInt64-8+n)
	}
	for _, s := range []string{"", "h", "hello", "é\xff\x00'a"} {
		for _, p := range numbers {
			for _, n := range numbers {
				checkCall(t, api.Substr, row(textOf(s), intOf(p), intOf(n)), textOf(between(s, p, n)), api.OK)
			}
		}
	}
	for _, c := range []struct {
		p, n int64
		want string
	}{
		{2, 3, "ell"}, {0, 2, "h"}, {4, -1, ""}, {1, 5, "hello"}, {1, 6, "hello"}, {5, 1, "o"}, {6, 1, ""}, {1, 0, ""}, {-3, 4, ""}, {-3, 5, "h"},
		{1, math.MaxInt64, "hello"}, {math.MinInt64, math.MaxInt64, ""}, {math.MaxInt64, math.MaxInt64, ""}, {0, math.MaxInt64, "hello"}, {3, math.MaxInt64, "llo"},
		{3, math.MinInt64, ""}, {math.MinInt64, math.MinInt64, ""}, {-math.MaxInt64 + 2, math.MaxInt64, "h"},
	} {
		checkCall(t, api.Substr, row(textOf("hello"), intOf(c.p), intOf(c.n)), textOf(c.want), api.OK)
	}
}

// 2.4: just the Bool 1.
func TestTrue(t *testing.T) {
	for _, v := range append(oneOfEach(), textOf("TRUE"), blobOf("\x01"), intOf(-1)) {
		if want := v == boolOf(1); True(v) != want {
			t.Errorf("True(%#v): %#v", v, !want)
		}
	}
}

// some is right values of each kind, the edges among them.
func some() []api.Value {
	l := oneOfEach()
	for _, n := range edges() {
		l = append(l, intOf(n))
	}
	for _, k := range inOrder() {
		l = append(l, k...)
	}
	return l
}

// 2.5: what does not hang on which stands first, and Lt as Gt the other way
// round.
func TestExchanged(t *testing.T) {
	for _, op := range []int{api.And, api.Or, api.Eq, api.Ne, api.Add, api.Mul} {
		for _, a := range some() {
			for _, b := range some() {
				v, e := Binary(op, a, b)
				checkBinary(t, op, b, a, v, e)
			}
		}
	}
	for _, a := range some() {
		for _, b := range some() {
			v, e := Binary(api.Lt, a, b)
			checkBinary(t, api.Gt, b, a, v, e)
		}
	}
}

// 2.5: Not of And is Or of the Nots.
func TestNotOfAnd(t *testing.T) {
	not := func(v api.Value) api.Value {
		n, e := Unary(api.Not, v)
		if e != api.OK {
			t.Errorf("Not %#v: error %d", v, e)
		}
		return n
	}
	for _, a := range row(null, boolOf(0), boolOf(1)) {
		for _, b := range row(null, boolOf(0), boolOf(1)) {
			v, e := Binary(api.And, a, b)
			checkBinary(t, api.Or, not(a), not(b), not(v), e)
		}
	}
}

// 2.5: quotients and what is left over make the number again.
func TestQuotients(t *testing.T) {
	for _, a := range edges() {
		for _, b := range edges() {
			q, e1 := Binary(api.Div, intOf(a), intOf(b))
			r, e2 := Binary(api.Rem, intOf(a), intOf(b))
			if e1 != api.OK || e2 != api.OK {
				continue
			}
			p, e := Binary(api.Mul, q, intOf(b))
			if e != api.OK {
				t.Errorf("(%d / %d) * %d: error %d", a, b, b, e)
			}
			checkBinary(t, api.Add, p, r, intOf(a), api.OK)
		}
	}
}

// R1, and right values come out where right ones went in: of what is not right
// nothing is promised but that all ends.
func TestAnyValues(t *testing.T) {
	wrong := row(api.Value{Kind: -1}, api.Value{Kind: 9, Int: 1, Text: "a"}, api.Value{Int: 3}, api.Value{Kind: api.Bool, Int: 7}, api.Value{Kind: api.Text, Int: 3}, api.Value{Kind: api.Int, Text: "a"})
	all := append(oneOfEach(), wrong...)
	for i, a := range all {
		for op := -1; op <= 18; op++ {
			Unary(op, a)
			for j, b := range all {
				v, _ := Binary(op, a, b)
				if right := len(all) - len(wrong); i < right && j < right && value.Check(v) != api.OK {
					t.Errorf("Binary(%d, %#v, %#v): %#v, which is not right", op, a, b, v)
				}
				Call(op, row(a))
				Call(op, row(a, b))
				Call(op, row(a, b, a))
			}
		}
	}
}
