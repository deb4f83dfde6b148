package sorter

import (
	"math"
	"slices"
	"strings"
	"testing"

	"quarry/api"
)

// inOrder is right values of each kind, in their order.
func inOrder() []api.Value {
	return rowOf(null(),
		boolOf(0), boolOf(1),
		intOf(math.MinInt64), intOf(-10), intOf(-2), intOf(0), intOf(1), intOf(2), intOf(10), intOf(math.MaxInt64),
		textOf(""), textOf("\x00"), textOf("\x00\xff"), textOf("10"), textOf("2"), textOf("a"), textOf("a\x00"), textOf("ab"), textOf("b"), textOf("\xff"),
		blobOf(""), blobOf("\x00"), blobOf("a"), blobOf("ab"), blobOf("b"), blobOf("\xff"))
}

// The chapter's examples.
func TestExamples(t *testing.T) {
	numbers := columnOf(intOf(2), intOf(1), intOf(2))
	holdOrder(t, numbers, nil, 1, 0, 2)
	holdOrder(t, numbers, []bool{true}, 0, 2, 1)
	letters := columnOf(textOf("a"), textOf("b"), textOf("a"))
	holdDistinct(t, letters, 0, 1)
	holdGroup(t, letters, []int{0, 2}, []int{1})
	holdCut(t, 5, 2, 4, 4, 5)
	holdCut(t, 5, -1, 9, 5, 5)
}

// 18.1, 18.2: nothing to be ordered.
func TestNothing(t *testing.T) {
	for _, rows := range [][][]api.Value{nil, {}, make([][]api.Value, 0, 4)} {
		for _, desc := range [][]bool{nil, {}, {true}, {false, true}} {
			holdOrder(t, rows, desc)
		}
		holdDistinct(t, rows)
		holdGroup(t, rows)
	}
	check(t, rowsOf(nil), nil, []bool{true})
	check(t, rowsOf(rowOf()), nil, []bool{true})
}

// 18.1: values of all kinds, from whichever order they come.
func TestOrderOfKinds(t *testing.T) {
	l := columnOf(inOrder()...)
	n := len(l)
	holdOrder(t, l, nil, rising(n)...)
	holdOrder(t, l, []bool{false}, rising(n)...)
	falling := rising(n)
	slices.Reverse(falling)
	holdOrder(t, l, []bool{true}, falling...)
	slices.Reverse(l)
	holdOrder(t, l, nil, falling...)
	holdOrder(t, l, []bool{true}, rising(n)...)
	// one place of many decides, wherever it is
	for many := range 5 {
		var rows [][]api.Value
		for _, v := range inOrder() {
			row := slices.Repeat(rowOf(intOf(5)), 5)
			row[many] = v
			rows = append(rows, row)
		}
		desc := make([]bool, 5)
		holdOrder(t, rows, desc, rising(n)...)
		desc[many] = true
		holdOrder(t, rows, desc, falling...)
		holdOrder(t, rows, desc[:many+1], falling...)
		holdOrder(t, rows, desc[:many], rising(n)...)
		for i := range desc {
			desc[i] = !desc[i]
		}
		holdOrder(t, rows, desc, rising(n)...)
	}
}

// 18.1: keys that are the same keep the order of their places, whichever way
// they are ordered.
func TestOrderOfSame(t *testing.T) {
	for _, n := range []int{1, 2, 3, 11, 12, 13, 20, 21, 50, 51, 100, 1000, 5000} {
		all := slices.Repeat(columnOf(textOf("x")), n)
		holdOrder(t, all, nil, rising(n)...)
		holdOrder(t, all, []bool{true}, rising(n)...)
		holdOrder(t, make([][]api.Value, n), []bool{true}, rising(n)...)
		var halves [][]api.Value
		for i := range n {
			halves = append(halves, rowOf(intOf(int64(i%2))))
		}
		var up, down []int
		for i := 0; i < n; i += 2 {
			up = append(up, i)
		}
		for i := 1; i < n; i += 2 {
			up, down = append(up, i), append(down, i)
		}
		for i := 0; i < n; i += 2 {
			down = append(down, i)
		}
		holdOrder(t, halves, nil, up...)
		holdOrder(t, halves, []bool{true}, down...)
	}
}

// 18.1: the first place that is not the same decides, each turned about for
// itself; the shorter key stands ahead, turned about or not.
func TestOrderOfPlaces(t *testing.T) {
	l := rowsOf(
		rowOf(intOf(1), textOf("b")), // 0
		rowOf(intOf(2), textOf("a")), // 1
		rowOf(intOf(1), textOf("a")), // 2
		rowOf(intOf(2), textOf("b")), // 3
		rowOf(intOf(1)),              // 4
		rowOf(),                      // 5
		rowOf(null(), null()),        // 6
		rowOf(intOf(1), textOf("b"))) // 7
	holdOrder(t, l, nil, 5, 6, 4, 2, 0, 7, 1, 3)
	holdOrder(t, l, []bool{true}, 5, 1, 3, 4, 2, 0, 7, 6)
	holdOrder(t, l, []bool{false, true}, 5, 6, 4, 0, 7, 2, 3, 1)
	holdOrder(t, l, []bool{true, true}, 5, 3, 1, 4, 0, 7, 2, 6)
	// desc may be longer than the keys
	holdOrder(t, l, []bool{true, true, true, true}, 5, 3, 1, 4, 0, 7, 2, 6)
	holdOrder(t, l, []bool{false, false, true}, 5, 6, 4, 2, 0, 7, 1, 3)
}

// 18.2: values of all kinds, each but once or again and again.
func TestSameOfKinds(t *testing.T) {
	l := columnOf(inOrder()...)
	n := len(l)
	holdDistinct(t, l, rising(n)...)
	holdDistinct(t, slices.Repeat(l, 3), rising(n)...)
	var groups [][]int
	for i := range n {
		groups = append(groups, []int{i, i + n, i + 2*n})
	}
	holdGroup(t, slices.Repeat(l, 3), groups...)
	back := slices.Clone(l)
	slices.Reverse(back)
	groups = nil
	for i := range n {
		groups = append(groups, []int{i, 2*n - 1 - i})
	}
	holdGroup(t, append(l, back...), groups...)
	// in rows of more values, at each place
	for many := range 4 {
		var rows [][]api.Value
		for _, v := range inOrder() {
			row := slices.Repeat(rowOf(textOf("x")), 4)
			row[many] = v
			rows = append(rows, row, slices.Clone(row))
		}
		check(t, rows)
	}
}

// 18.2: rows that are as long as one another, or not: the same are just those
// that are as long, and of no values there is just one.
func TestSameOfLengths(t *testing.T) {
	a, b := intOf(1), textOf("")
	l := rowsOf(rowOf(), rowOf(a), nil, rowOf(a, a), rowOf(b), rowOf(a), rowOf(a, a, a), rowOf(a, a), rowOf(null()), rowOf(null(), null()), rowOf(), rowOf(b, b), rowOf(null(), null()), rowOf(b))
	holdDistinct(t, l, 0, 1, 3, 4, 6, 8, 9, 11)
	holdGroup(t, l, []int{0, 2, 10}, []int{1, 5}, []int{3, 7}, []int{4, 13}, []int{6}, []int{8}, []int{9, 12}, []int{11})
}

// 18.2: rows whose bytes, one behind the other, are the same, or look like what
// stands between values.
func TestSameOfTexts(t *testing.T) {
	var rows [][]api.Value
	for _, l := range [][]string{{"a", "b"}, {"ab", ""}, {"", "ab"}, {"a", "", "b"}, {"ab"}, {"a", ""}, {"", "a"}, {"a;", "b"}, {"a", ";b"}, {"a;b", ""}, {";", ";"}, {";;", ""}, {"3;0;1;", ""}, {"", "3;0;1;"}, {"3;0;", ""}, {"", "3;0;"}, {"3;", ""}, {"", "3;"}, {"3;0;0;3;0;0;", ""}, {"", "", ""}, {"", "", "", ""}, {"3", "0", "1"}, {"3;0", "1"}, {"'", "'"}, {"', '", ""}, {"''", ""}, {"a,", "b"}, {"a", ",b"}, {"\x00", "\x00"}, {"\x00\x00", ""}, {"\xff", "\xfe"}, {"\xfe", "\xff"}, {"\xc3", "\xa9"}, {"\xc3\xa9", ""}, {"a ", "b"}, {"a", " b"}, {"1", "2"}, {"12", ""}, {"a|b", "c"}, {"a", "b|c"}, {"A", "b"}, {"a", "b "}} {
		var texts, blobs []api.Value
		for _, s := range l {
			texts, blobs = append(texts, textOf(s)), append(blobs, blobOf(s))
		}
		rows = append(rows, texts, blobs)
		if len(l) == 2 {
			rows = append(rows, rowOf(texts[0], blobs[1]), rowOf(blobs[0], texts[1]))
		}
	}
	for _, l := range [][]int64{{1, 11}, {11, 1}, {1, 1, 1}, {111, 0}, {-1, 1}, {1, -1}, {1, 0}, {0, 1}, {10, 0}, {1, 2}, {12, 0}, {1, 1023}, {1021, 3}, {1, -23}, {102, 3}, {3, 0, 0}, {math.MaxInt64, math.MinInt64}, {math.MinInt64, math.MaxInt64}} {
		var numbers, texts []api.Value
		for _, n := range l {
			numbers = append(numbers, intOf(n))
			texts = append(texts, textOf(strings.Repeat("1", int(n&3))))
		}
		rows = append(rows, numbers)
		if isFirst(append(rows, texts), len(rows)) {
			rows = append(rows, texts)
		}
	}
	rows = append(rows, rowOf(boolOf(0), boolOf(1)), rowOf(boolOf(1), boolOf(0)), rowOf(boolOf(1), intOf(0)), rowOf(intOf(1), boolOf(0)), rowOf(null(), textOf("")), rowOf(textOf(""), null()), rowOf(null(), blobOf("")), rowOf(null(), null()), rowOf(null(), intOf(0)), rowOf(null(), boolOf(0)))
	n := len(rows)
	holdDistinct(t, rows, rising(n)...)
	holdDistinct(t, slices.Repeat(rows, 2), rising(n)...)
	check(t, append(slices.Clone(rows), rows...))
}

// 18.2: long texts, and rows of many values, that are the same but for one byte.
func TestSameOfLong(t *testing.T) {
	long := strings.Repeat("x", 1<<16)
	a, b, c := textOf(long), textOf(long[1:]+"y"), textOf("y"+long[1:])
	holdGroup(t, columnOf(a, b, c, c, b, a, textOf(long[1:])), []int{0, 5}, []int{1, 4}, []int{2, 3}, []int{6})
	holdGroup(t, rowsOf(rowOf(a, b), rowOf(a, c), rowOf(b, a), rowOf(a, a), rowOf(c, a), rowOf(a, b), rowOf(b, b), rowOf(a, a)), []int{0, 5}, []int{1}, []int{2}, []int{3, 7}, []int{4}, []int{6})
	many := slices.Repeat(rowOf(intOf(1), textOf("x"), null()), 1000)
	last, first := slices.Clone(many), slices.Clone(many)
	last[len(last)-1], first[0] = textOf(""), intOf(2)
	holdGroup(t, rowsOf(many, last, first, slices.Clone(many), many[1:], slices.Clone(last), many[:2999]), []int{0, 3}, []int{1, 5}, []int{2}, []int{4}, []int{6})
}

// 18.2: values that are not right are the same value by value, too.
func TestSameOfNotRight(t *testing.T) {
	l := rowOf(null(), api.Value{Int: 1}, api.Value{Text: "x"}, boolOf(0), boolOf(2), api.Value{Kind: api.Bool, Text: "x"}, intOf(7), api.Value{Kind: api.Int, Int: 7, Text: "x"}, textOf("x"), api.Value{Kind: api.Text, Int: 1, Text: "x"}, blobOf("x"), api.Value{Kind: api.Blob, Int: -1, Text: "x"}, api.Value{Kind: 5}, api.Value{Kind: -1}, api.Value{Kind: math.MaxInt}, api.Value{Kind: math.MinInt}, api.Value{Kind: 1<<32 + api.Int, Int: 7})
	check(t, slices.Repeat(columnOf(l...), 2))
	holdDistinct(t, slices.Repeat(columnOf(l...), 2), rising(len(l))...)
	var pairs [][]api.Value
	for _, v := range l {
		for _, w := range l {
			pairs = append(pairs, rowOf(v, w))
		}
	}
	holdDistinct(t, slices.Repeat(pairs, 2), rising(len(pairs))...)
}

func holdCut(t testing.TB, n, limit, offset, from, to int) {
	t.Helper()
	if a, b := Cut(n, limit, offset); a != from || b != to {
		t.Errorf("Cut(%d, %d, %d): %d, %d, want %d, %d", n, limit, offset, a, b, from, to)
	}
}

// 18.3: what a limit leaves, at its edges.
func TestCut(t *testing.T) {
	for _, c := range [][5]int{
		{5, -1, 0, 0, 5}, {5, -1, 2, 2, 5}, {5, -1, 5, 5, 5}, {5, -1, 6, 5, 5}, {5, -9, -1, 0, 5},
		{5, 0, 0, 0, 0}, {5, 0, 2, 2, 2}, {5, 0, 5, 5, 5}, {5, 0, 6, 5, 5},
		{5, 1, 0, 0, 1}, {5, 4, 0, 0, 4}, {5, 5, 0, 0, 5}, {5, 6, 0, 0, 5}, {5, 2, 1, 1, 3}, {5, 3, 2, 2, 5}, {5, 4, 2, 2, 5}, {5, 2, -1, 0, 2}, {5, 2, -7, 0, 2}, {5, 1, 4, 4, 5}, {5, 1, 5, 5, 5}, {5, 3, 9, 5, 5},
		{0, -1, 0, 0, 0}, {0, 3, 0, 0, 0}, {0, 3, 2, 0, 0}, {0, 0, -1, 0, 0},
		{-1, -1, 0, 0, 0}, {-1, 2, 1, 0, 0}, {-7, 3, -2, 0, 0}, {-7, -1, -9, 0, 0}, {-3, 0, 5, 0, 0},
	} {
		holdCut(t, c[0], c[1], c[2], c[3], c[4])
	}
}

// 18.3: numbers near the ends of what they may be.
func TestCutOfGreat(t *testing.T) {
	most, least := math.MaxInt, math.MinInt
	for _, c := range [][5]int{
		{most, most, most, most, most}, {most, most, 1, 1, most}, {most, most - 1, 1, 1, most}, {most, most - 2, 1, 1, most - 1}, {most, most, 0, 0, most}, {most, 1, most - 1, most - 1, most}, {most, 2, most - 1, most - 1, most}, {most, -1, most, most, most},
		{5, most, 2, 2, 5}, {5, most, 5, 5, 5}, {5, most, most, 5, 5}, {5, 2, most, 5, 5}, {5, most, least, 0, 5}, {5, least, 2, 2, 5}, {5, least, least, 0, 5}, {5, 2, least, 0, 2},
		{least, most, most, 0, 0}, {least, least, least, 0, 0}, {least, most, least, 0, 0}, {most, least, least, 0, most}, {least, 0, 0, 0, 0}, {0, most, most, 0, 0},
	} {
		holdCut(t, c[0], c[1], c[2], c[3], c[4])
	}
}
