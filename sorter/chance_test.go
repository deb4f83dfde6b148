package sorter

import (
	"math"
	"math/rand"
	"slices"
	"strconv"
	"testing"

	"quarry/api"
)

// everyList hands out all lists of some members, of at most so many.
func everyList[T any](members []T, most int, work func(l []T)) {
	var longer func(l []T)
	longer = func(l []T) {
		work(l)
		if len(l) == most {
			return
		}
		for _, m := range members {
			longer(append(slices.Clone(l), m))
		}
	}
	longer(nil)
}

// 18.1, 18.2: all lists of few rows.
func TestEveryList(t *testing.T) {
	t.Parallel()
	var rows [][]api.Value
	everyList(rowOf(null(), intOf(1), textOf("a")), 2, func(row []api.Value) { rows = append(rows, row) })
	descs := [][]bool{nil}
	everyList([]bool{false, true}, 2, func(desc []bool) { descs = append(descs, desc) })
	everyList(rows, 3, func(l [][]api.Value) { check(t, l, descs...) })
	rows = columnOf(null(), boolOf(0), intOf(0))
	everyList(rows, 6, func(l [][]api.Value) { check(t, l, nil, []bool{true}) })
}

// 18.3: all small numbers, and great ones with one another.
func TestEveryCut(t *testing.T) {
	t.Parallel()
	var numbers []int
	for n := -8; n <= 8; n++ {
		numbers = append(numbers, n, n+100)
	}
	for n := range 4 {
		numbers = append(numbers, math.MaxInt-n, math.MinInt+n, math.MaxInt/2+n, math.MinInt/2-n, 1<<31-1+n, -1<<31+n)
	}
	for _, n := range numbers {
		for _, limit := range numbers {
			for _, offset := range numbers {
				from, to := plainCut(n, limit, offset)
				holdCut(t, n, limit, offset, from, to)
			}
		}
	}
}

func one[T any](c *rand.Rand, l ...T) T { return l[c.Intn(len(l))] }

// someText is one by chance, often the same as others, or the beginning of them.
func someText(c *rand.Rand) string {
	b := make([]byte, c.Intn(4))
	for i := range b {
		b[i] = one[byte](c, 0, ';', 'a', '0', 255)
	}
	return string(b)
}

func someNumber(c *rand.Rand) int64 {
	near := int64(c.Intn(4))
	return one(c, near, -near, math.MaxInt64-near, math.MinInt64+near, int64(c.Uint64()))
}

func someValue(c *rand.Rand) api.Value {
	return one(c, null(), boolOf(int64(c.Intn(2))), intOf(someNumber(c)), textOf(someText(c)), blobOf(someText(c)))
}

// someRows is rows by chance, of one length or of several, of few values or of
// many.
func someRows(c *rand.Rand, many int) [][]api.Value {
	few := make([]api.Value, 1+c.Intn(4))
	for i := range few {
		few[i] = someValue(c)
	}
	length, oneLength, justFew := c.Intn(5), c.Intn(2) == 0, c.Intn(3) > 0
	rows := make([][]api.Value, c.Intn(many+1))
	for i := range rows {
		if !oneLength {
			length = c.Intn(4)
		}
		for range length {
			rows[i] = append(rows[i], one(c, one(c, few...), someValue(c)))
		}
		if justFew {
			for at := range rows[i] {
				rows[i][at] = one(c, few...)
			}
		}
	}
	return rows
}

func someDesc(c *rand.Rand) []bool {
	desc := make([]bool, c.Intn(6))
	for i := range desc {
		desc[i] = c.Intn(2) == 0
	}
	return desc
}

// 18.4: what follows: an order stays, what is distinct stays, each place is in
// one group.
func checkFollows(t testing.TB, rows [][]api.Value, desc []bool) {
	t.Helper()
	order := Order(rows, desc)
	holdOrder(t, at(rows, order), desc, rising(len(rows))...)
	if !slices.Equal(slices.Sorted(slices.Values(order)), rising(len(rows))) {
		t.Errorf("Order of %s with %v: %s: not each place once", show(rows), desc, few(order))
	}
	firsts := Distinct(rows)
	holdDistinct(t, at(rows, firsts), rising(len(firsts))...)
	var places, heads []int
	for _, group := range Group(rows) {
		if !slices.IsSorted(group) || len(group) == 0 {
			t.Fatalf("Group of %s: %s", show(rows), few(group))
		}
		places, heads = append(places, group...), append(heads, group[0])
		holdDistinct(t, at(rows, group), 0)
	}
	if !slices.Equal(slices.Sorted(slices.Values(places)), rising(len(rows))) {
		t.Errorf("Group of %s: %s: not each place once", show(rows), few(places))
	}
	if !slices.Equal(heads, firsts) {
		t.Errorf("of %s: groups begin with %s, Distinct is %s", show(rows), few(heads), few(firsts))
	}
}

// 18.1, 18.2, 18.4: rows by chance.
func TestByChance(t *testing.T) {
	t.Parallel()
	for seed := range int64(3000) {
		c := rand.New(rand.NewSource(seed))
		rows, desc := someRows(c, 60), someDesc(c)
		check(t, rows, desc)
		checkFollows(t, rows, desc)
		if t.Failed() {
			t.Fatalf("seed %d", seed)
		}
	}
}

// 18.1, 18.2: the order in which rows come is to be seen in their places alone:
// whatever it is, the keys in order are the same, and the groups are of the same
// keys.
func TestShuffled(t *testing.T) {
	t.Parallel()
	for seed := range int64(300) {
		c := rand.New(rand.NewSource(seed))
		rows, desc := someRows(c, 300), someDesc(c)
		mixed := slices.Clone(rows)
		c.Shuffle(len(mixed), func(i, j int) { mixed[i], mixed[j] = mixed[j], mixed[i] })
		a, b := at(rows, Order(rows, desc)), at(mixed, Order(mixed, desc))
		if !slices.EqualFunc(a, b, same) {
			t.Fatalf("seed %d: of %s: %s and %s", seed, show(rows), show(a), show(b))
		}
		if m, n := sizes(rows), sizes(mixed); !slices.Equal(m, n) {
			t.Fatalf("seed %d: of %s: groups of %v and %v", seed, show(rows), m, n)
		}
	}
}

// sizes is how many the groups have, in the order of their keys.
func sizes(rows [][]api.Value) []int {
	groups := Group(rows)
	var heads [][]api.Value
	for _, group := range groups {
		heads = append(heads, rows[group[0]])
	}
	var l []int
	for _, place := range Order(heads, nil) {
		l = append(l, len(groups[place]))
	}
	return l
}

// Many rows, from every order that might be a bad one to begin with.
func TestMany(t *testing.T) {
	t.Parallel()
	const many = 1 << 16
	for name, number := range map[string]func(i int) int{
		"rising":  func(i int) int { return i },
		"falling": func(i int) int { return many - i },
		"all one": func(int) int { return 7 },
		"two":     func(i int) int { return i & 1 },
		"saw":     func(i int) int { return i % 1000 },
		"organ":   func(i int) int { return min(i, many-i) },
		"strewn":  func(i int) int { return i * 40503 % many },
	} {
		single, pair := make([][]api.Value, many), make([][]api.Value, many)
		for i := range many {
			n := number(i)
			single[i] = rowOf(intOf(int64(n)))
			pair[i] = rowOf(textOf(strconv.Itoa(n)), null())
		}
		for _, rows := range [][][]api.Value{single, pair} {
			checkFollows(t, rows, nil)
			checkFollows(t, rows, []bool{true})
		}
		if t.Failed() {
			t.Fatal(name)
		}
	}
}

// R4: what is handed in stays as it is, what lies in the spare room too, and is
// not kept; what is handed out is new, and no two lists share any.
func TestMemory(t *testing.T) {
	t.Parallel()
	for seed := range int64(300) {
		c := rand.New(rand.NewSource(seed))
		rows, desc := someRows(c, 30), someDesc(c)
		roomy := slices.Clone(rows)
		for i, row := range rows {
			roomy[i] = append(slices.Clone(row), textOf("spare"), intOf(98))[:len(row)]
		}
		roomy = append(roomy, rowOf(intOf(99)), nil)[:len(rows)]
		turned := append(slices.Clone(desc), true, false)[:len(desc)]
		for range 2 {
			order, firsts, groups := Order(roomy, turned), Distinct(roomy), Group(roomy)
			holdRoomy(t, rows, roomy, desc, turned)
			spoil(order)
			spoil(firsts)
			for i := range groups {
				others := slices.Concat(groups[i+1:]...)
				spoil(groups[i])
				if !slices.Equal(others, slices.Concat(groups[i+1:]...)) {
					t.Fatalf("seed %d: two groups share memory", seed)
				}
			}
			check(t, roomy, turned)
		}
		// what it was handed the last time does not matter
		for i := range roomy {
			clear(roomy[i])
		}
		clear(turned)
		check(t, roomy, turned)
		if t.Failed() {
			t.Fatalf("seed %d", seed)
		}
	}
}

// spoil writes over a list, and over the room behind it.
func spoil(l []int) {
	l = l[:cap(l)]
	for i := range l {
		l[i] = -5
	}
}

func holdRoomy(t testing.TB, rows, roomy [][]api.Value, desc, turned []bool) {
	t.Helper()
	spare := rowOf(textOf("spare"), intOf(98))
	for i, row := range roomy {
		if !same(row, rows[i]) || !same(row[len(row):len(row)+2], spare) {
			t.Fatalf("%s: the row %d has changed", show(rows), i)
		}
	}
	if behind := roomy[len(roomy) : len(roomy)+2]; !same(behind[0], rowOf(intOf(99))) || behind[1] != nil {
		t.Fatalf("%s: what lies behind the rows has changed", show(rows))
	}
	if !slices.Equal(turned[:len(desc)+2], append(slices.Clone(desc), true, false)) {
		t.Fatalf("%v: it has changed", desc)
	}
}

// R1: values that are not right: each call ends, none panics.
func TestNotRight(t *testing.T) {
	t.Parallel()
	for seed := range int64(500) {
		c := rand.New(rand.NewSource(seed))
		rows := someRows(c, 60)
		for _, row := range rows {
			for i := range row {
				kind := one(c, row[i].Kind, c.Intn(8)-1, int(c.Uint64()))
				row[i] = api.Value{Kind: kind, Int: one(c, row[i].Int, someNumber(c)), Text: one(c, row[i].Text, someText(c))}
			}
		}
		Order(rows, someDesc(c))
		check(t, rows)
	}
}
