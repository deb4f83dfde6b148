package agg

import (
	"math"
	"slices"
	"strings"
	"testing"

	"quarry/api"
	"quarry/value"
)

// rising is right values of each kind, in their order.
func rising() []api.Value {
	return list(api.Value{},
		boolOf(0), boolOf(1),
		intOf(math.MinInt64), intOf(-7), intOf(-1), intOf(0), intOf(1), intOf(2), intOf(10), intOf(math.MaxInt64),
		textOf(""), textOf("\x00"), textOf("\x00\xff"), textOf("10"), textOf("2"), textOf("Z"), textOf("a"), textOf("a\x00"), textOf("ab"), textOf("b"), textOf(strings.Repeat("x", api.MaxRow)), textOf("\xff"),
		blobOf(""), blobOf("\x00"), blobOf("a"), blobOf("ab"), blobOf("ab\xff"), blobOf("b"))
}

// The chapter's examples.
func TestExamples(t *testing.T) {
	check(t, ofSum, intOf(3), intOf(1), api.Value{}, intOf(2))
	check(t, ofSum, api.Value{})
	checkSteps(t, ofSum, step{intOf(math.MaxInt64), api.OK, intOf(math.MaxInt64)}, step{intOf(1), api.ErrOverflow, intOf(math.MaxInt64)})
	check(t, ofCount, intOf(0), api.Value{})
	check(t, ofRows, intOf(1), api.Value{})
	check(t, ofMax, textOf("b"), textOf("a"), textOf("b"))
}

// 17.1: which numbers are aggregates, and of which rows may be set. With an error
// there is no accumulator (R2).
func TestNew(t *testing.T) {
	numbers := []int{math.MinInt, math.MinInt + 1, math.MinInt + 4, -1 << 32, 1 << 32, 1<<32 + api.Count, 1<<32 + api.Sum, 1 << 8, 1<<8 + api.Count, 1<<16 + api.Max, math.MaxInt}
	for n := -300; n <= 300; n++ {
		numbers = append(numbers, n)
	}
	for _, op := range numbers {
		for _, rows := range []bool{false, true} {
			want := api.ErrKind
			if slices.Contains(aggregates(), aggregate{op, rows}) {
				want = api.OK
			}
			if a, e := New(op, rows); e != want || (a == nil) == (want == api.OK) {
				t.Errorf("New(%d, %t): error %d, want %d; an accumulator: %t", op, rows, e, want, a != nil)
			}
		}
	}
	for op, want := range map[int]string{api.Count: "0", api.Sum: "NULL", api.Min: "NULL", api.Max: "NULL"} {
		a, e := New(op, false)
		if e != api.OK || value.Literal(a.Value()) != want {
			t.Errorf("New(%d, false): error %d, %s, want %s", op, e, show(a.Value()), want)
		}
	}
}

// 17.1, 17.3: what there is when nothing came, and when just NULLs came.
func TestNothing(t *testing.T) {
	null := api.Value{}
	for many := range 5 {
		nulls := make([]api.Value, many)
		check(t, ofCount, intOf(0), nulls...)
		check(t, ofRows, intOf(int64(many)), nulls...)
		check(t, ofSum, null, nulls...)
		check(t, ofMin, null, nulls...)
		check(t, ofMax, null, nulls...)
	}
}

// 17.2: NULL first, last, between and alone: it is not taken, but where rows are
// counted.
func TestNull(t *testing.T) {
	null := api.Value{}
	rows := [][]api.Value{{null, intOf(5), intOf(3)}, {intOf(5), intOf(3), null}, {intOf(5), null, intOf(3)}, {null, null, intOf(5), null, intOf(3), null, null}}
	for _, l := range rows {
		check(t, ofCount, intOf(2), l...)
		check(t, ofRows, intOf(int64(len(l))), l...)
		check(t, ofSum, intOf(8), l...)
		check(t, ofMin, intOf(3), l...)
		check(t, ofMax, intOf(5), l...)
	}
	// NULL stands ahead of all, but is not the least
	checkSteps(t, ofMin, step{null, api.OK, null}, step{boolOf(0), api.OK, boolOf(0)}, step{null, api.OK, boolOf(0)})
	checkSteps(t, ofMax, step{null, api.OK, null}, step{boolOf(0), api.OK, boolOf(0)}, step{null, api.OK, boolOf(0)})
	checkSteps(t, ofSum, step{null, api.OK, null}, step{intOf(-7), api.OK, intOf(-7)}, step{null, api.OK, intOf(-7)})
	checkSteps(t, ofCount, step{null, api.OK, intOf(0)}, step{textOf(""), api.OK, intOf(1)}, step{null, api.OK, intOf(1)})
	checkSteps(t, ofRows, step{null, api.OK, intOf(1)}, step{textOf(""), api.OK, intOf(2)}, step{null, api.OK, intOf(3)})
}

// 17.2, 17.3: one value of each kind, alone: just numbers can be added.
func TestKinds(t *testing.T) {
	for _, v := range rising()[1:] {
		check(t, ofCount, intOf(1), v)
		check(t, ofRows, intOf(1), v)
		check(t, ofMin, v, v)
		check(t, ofMax, v, v)
		if v.Kind == api.Int {
			check(t, ofSum, v, v)
			continue
		}
		checkSteps(t, ofSum, step{v, api.ErrType, api.Value{}}, step{v, api.ErrType, api.Value{}}, step{intOf(4), api.OK, intOf(4)}, step{v, api.ErrType, intOf(4)}, step{intOf(-5), api.OK, intOf(-1)})
	}
	// a count is of all that came, however often and of whichever kinds
	check(t, ofCount, intOf(int64(len(rising())-1)), rising()...)
	check(t, ofRows, intOf(int64(len(rising()))), rising()...)
	check(t, ofCount, intOf(3), intOf(0), intOf(0), intOf(0))
	check(t, ofCount, intOf(4), boolOf(0), boolOf(0), textOf(""), blobOf(""))
	checkSteps(t, ofCount, step{intOf(9), api.OK, intOf(1)}, step{textOf("x"), api.OK, intOf(2)}, step{boolOf(0), api.OK, intOf(3)}, step{blobOf("x"), api.OK, intOf(4)}, step{intOf(9), api.OK, intOf(5)})
}

// 17.2, 17.3: a sum of 0 is not the sum of nothing.
func TestSum(t *testing.T) {
	check(t, ofSum, intOf(0), intOf(0))
	check(t, ofSum, intOf(0), intOf(0), intOf(0))
	check(t, ofSum, intOf(0), intOf(7), intOf(-7))
	check(t, ofSum, intOf(3), intOf(7), intOf(-7), intOf(3))
	check(t, ofSum, intOf(-6), intOf(-1), intOf(-2), intOf(-3))
	check(t, ofSum, intOf(21), intOf(7), intOf(7), intOf(7))
	checkSteps(t, ofSum, step{intOf(1), api.OK, intOf(1)}, step{intOf(10), api.OK, intOf(11)}, step{intOf(-100), api.OK, intOf(-89)}, step{intOf(0), api.OK, intOf(-89)}, step{intOf(1 << 40), api.OK, intOf(1<<40 - 89)})
}

// 17.2: sums at both ends of the numbers. What would go over is not taken: what
// comes behind it is added to what was there ahead of it.
func TestSumEnds(t *testing.T) {
	const least, most = math.MinInt64, math.MaxInt64
	check(t, ofSum, intOf(most), intOf(most))
	check(t, ofSum, intOf(least), intOf(least))
	check(t, ofSum, intOf(most), intOf(most-1), intOf(1))
	check(t, ofSum, intOf(least), intOf(least+1), intOf(-1))
	check(t, ofSum, intOf(-1), intOf(least), intOf(most))
	check(t, ofSum, intOf(-1), intOf(most), intOf(least))
	check(t, ofSum, intOf(most), intOf(most), intOf(0), intOf(least), intOf(most), intOf(1), intOf(least), intOf(1), intOf(most), intOf(0))
	checkSteps(t, ofSum, step{intOf(most), api.OK, intOf(most)}, step{intOf(1), api.ErrOverflow, intOf(most)}, step{intOf(most), api.ErrOverflow, intOf(most)}, step{intOf(0), api.OK, intOf(most)}, step{intOf(-1), api.OK, intOf(most - 1)}, step{intOf(2), api.ErrOverflow, intOf(most - 1)}, step{intOf(1), api.OK, intOf(most)})
	checkSteps(t, ofSum, step{intOf(least), api.OK, intOf(least)}, step{intOf(-1), api.ErrOverflow, intOf(least)}, step{intOf(least), api.ErrOverflow, intOf(least)}, step{intOf(0), api.OK, intOf(least)}, step{intOf(1), api.OK, intOf(least + 1)}, step{intOf(-2), api.ErrOverflow, intOf(least + 1)}, step{intOf(-1), api.OK, intOf(least)})
	checkSteps(t, ofSum, step{intOf(1), api.OK, intOf(1)}, step{intOf(most), api.ErrOverflow, intOf(1)}, step{intOf(least), api.OK, intOf(least + 1)}, step{intOf(most), api.OK, intOf(0)})
	checkSteps(t, ofSum, step{intOf(-1), api.OK, intOf(-1)}, step{intOf(least), api.ErrOverflow, intOf(-1)}, step{intOf(most), api.OK, intOf(most - 1)}, step{intOf(least), api.OK, intOf(-2)})
	// the order decides which one goes over
	check(t, ofSum, intOf(most), intOf(most), intOf(-1), intOf(1))
	checkSteps(t, ofSum, step{intOf(most), api.OK, intOf(most)}, step{intOf(1), api.ErrOverflow, intOf(most)}, step{intOf(-1), api.OK, intOf(most - 1)})
}

// 17.2: an error takes nothing, whatever comes ahead of it and behind it; both
// errors, one behind the other.
func TestBehindErrors(t *testing.T) {
	null := api.Value{}
	checkSteps(t, ofSum, step{textOf("1"), api.ErrType, null}, step{null, api.OK, null}, step{boolOf(1), api.ErrType, null}, step{blobOf("\x01"), api.ErrType, null}, step{intOf(0), api.OK, intOf(0)}, step{boolOf(1), api.ErrType, intOf(0)}, step{intOf(math.MinInt64), api.OK, intOf(math.MinInt64)}, step{intOf(-1), api.ErrOverflow, intOf(math.MinInt64)}, step{textOf(""), api.ErrType, intOf(math.MinInt64)}, step{null, api.OK, intOf(math.MinInt64)}, step{intOf(1), api.OK, intOf(math.MinInt64 + 1)})
	checkSteps(t, ofSum, step{intOf(math.MaxInt64), api.OK, intOf(math.MaxInt64)}, step{textOf("1"), api.ErrType, intOf(math.MaxInt64)}, step{intOf(1), api.ErrOverflow, intOf(math.MaxInt64)}, step{null, api.OK, intOf(math.MaxInt64)}, step{intOf(math.MinInt64), api.OK, intOf(-1)})
}

// 17.2: the least and the greatest of any two, in both orders, and among equal
// ones; of some kinds, and of texts and blobs of which one begins the other.
func TestOfTwo(t *testing.T) {
	l := rising()[1:]
	for i, low := range l {
		for _, high := range l[i:] {
			for _, pair := range [][]api.Value{{low, high}, {high, low}, {low, low, high, high}, {high, high, low, low}, {low, high, low}, {high, low, high}} {
				check(t, ofMin, low, pair...)
				check(t, ofMax, high, pair...)
			}
		}
	}
}

// 17.2: what is kept, behind each single value.
func TestKept(t *testing.T) {
	null, a, ab, b := api.Value{}, textOf("a"), textOf("ab"), textOf("b")
	checkSteps(t, ofMin, step{ab, api.OK, ab}, step{b, api.OK, ab}, step{a, api.OK, a}, step{ab, api.OK, a}, step{null, api.OK, a}, step{intOf(2), api.OK, intOf(2)}, step{intOf(10), api.OK, intOf(2)}, step{blobOf(""), api.OK, intOf(2)}, step{boolOf(1), api.OK, boolOf(1)}, step{boolOf(0), api.OK, boolOf(0)})
	checkSteps(t, ofMax, step{boolOf(0), api.OK, boolOf(0)}, step{boolOf(1), api.OK, boolOf(1)}, step{intOf(math.MinInt64), api.OK, intOf(math.MinInt64)}, step{boolOf(1), api.OK, intOf(math.MinInt64)}, step{intOf(10), api.OK, intOf(10)}, step{intOf(2), api.OK, intOf(10)}, step{a, api.OK, a}, step{ab, api.OK, ab}, step{a, api.OK, ab}, step{b, api.OK, b}, step{null, api.OK, b}, step{blobOf(""), api.OK, blobOf("")}, step{b, api.OK, blobOf("")}, step{blobOf("\x00"), api.OK, blobOf("\x00")})
	l := rising()[1:]
	check(t, ofMin, l[0], l...)
	check(t, ofMax, l[len(l)-1], l...)
	slices.Reverse(l)
	check(t, ofMin, l[len(l)-1], l...)
	check(t, ofMax, l[0], l...)
}

// Two accumulators side by side, of one aggregate and of two: neither knows of
// the other.
func TestSideBySide(t *testing.T) {
	values := list(intOf(5), api.Value{}, textOf("x"), intOf(math.MaxInt64), intOf(1), blobOf(""), intOf(-9), boolOf(1))
	for _, one := range aggregates() {
		for _, other := range aggregates() {
			a, b, p, q := made(t, one), made(t, other), plain{aggregate: one}, plain{aggregate: other}
			for i, v := range values {
				w := values[len(values)-1-i]
				if e, want := a.Add(v), p.add(v); e != want {
					t.Errorf("%v beside %v: error %d, want %d", one, other, e, want)
				}
				hold(t, b, q.value(), other, values[len(values)-i:]...)
				if e, want := b.Add(w), q.add(w); e != want {
					t.Errorf("%v beside %v: error %d, want %d", other, one, e, want)
				}
				hold(t, a, p.value(), one, values[:i+1]...)
			}
		}
	}
	a, b := made(t, ofSum), made(t, ofSum)
	a.Add(intOf(1))
	hold(t, b, api.Value{}, ofSum)
	b.Add(intOf(10))
	a.Add(intOf(2))
	hold(t, a, intOf(3), ofSum, intOf(1), intOf(2))
	hold(t, b, intOf(10), ofSum, intOf(10))
}
