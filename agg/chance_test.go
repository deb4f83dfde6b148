package agg

import (
	"math"
	"math/rand"
	"slices"
	"testing"

	"quarry/api"
)

// everyRow hands out all rows of some values, of at most so many.
func everyRow(values []api.Value, most int, work func(l []api.Value)) {
	var longer func(l []api.Value)
	longer = func(l []api.Value) {
		work(l)
		if len(l) == most {
			return
		}
		for _, v := range values {
			longer(append(slices.Clone(l), v))
		}
	}
	longer(nil)
}

// everyOrder hands out all orders of some values.
func everyOrder(l []api.Value, work func(l []api.Value)) {
	var from func(at int)
	from = func(at int) {
		if at >= len(l) {
			work(l)
			return
		}
		for i := at; i < len(l); i++ {
			l[at], l[i] = l[i], l[at]
			from(at + 1)
			l[at], l[i] = l[i], l[at]
		}
	}
	from(0)
}

// 17.2, 17.3: all rows of few values, of each aggregate.
func TestEveryRow(t *testing.T) {
	t.Parallel()
	values := list(api.Value{}, boolOf(1), intOf(0), intOf(-1), intOf(1), intOf(math.MinInt64), intOf(math.MaxInt64), textOf(""), textOf("a"), textOf("a\x00"), blobOf("a"))
	for _, of := range aggregates() {
		everyRow(values, 4, func(l []api.Value) { come(t, of, l...) })
		if t.Failed() {
			return
		}
	}
}

// 17.4: of values in any order Count, Min and Max are the same, and so is Sum,
// where no sum on the way is too great.
func TestEveryOrder(t *testing.T) {
	t.Parallel()
	null := api.Value{}
	for _, l := range [][]api.Value{
		{}, {null}, {intOf(0), null}, {intOf(1), intOf(2), intOf(3), null, intOf(-4), intOf(2)}, {null, null, boolOf(0), boolOf(1), textOf("a"), textOf("a\x00")}, {textOf("b"), textOf("ab"), blobOf("a"), textOf("a"), textOf(""), blobOf("")}, {intOf(math.MaxInt64 - 6), intOf(1), intOf(2), intOf(3), null}, {intOf(math.MinInt64 + 6), intOf(-1), intOf(-2), intOf(-3), null}, {intOf(math.MinInt64), intOf(math.MaxInt64), intOf(0), null, intOf(0)}, {intOf(7), intOf(7), intOf(7), boolOf(1), intOf(7)},
	} {
		for _, of := range aggregates() {
			if of == ofSum && slices.ContainsFunc(l, func(v api.Value) bool { return v.Kind != api.Int && v.Kind != api.Null }) {
				continue
			}
			first, errors := come(t, of, l...)
			if errors != nil {
				t.Errorf("%v of %s: errors %v", of, show(l...), errors)
			}
			everyOrder(slices.Clone(l), func(l []api.Value) { check(t, of, first, l...) })
		}
		if t.Failed() {
			return
		}
	}
}

// 17.4: some of the orders are such that a sum on the way is too great; of all
// others it is the same.
func TestOrdersOfSums(t *testing.T) {
	t.Parallel()
	for _, of := range []struct {
		want api.Value
		l    []api.Value
	}{
		{intOf(math.MaxInt64 - 1), list(intOf(math.MaxInt64), intOf(1), intOf(-2), api.Value{}, intOf(0))},
		{intOf(math.MinInt64 + 1), list(intOf(math.MinInt64), intOf(-1), intOf(2), intOf(math.MinInt64), intOf(math.MaxInt64), intOf(1))},
		{intOf(-2), list(intOf(math.MinInt64), intOf(math.MinInt64), intOf(math.MaxInt64), intOf(math.MaxInt64))},
	} {
		same, other := 0, 0
		everyOrder(of.l, func(l []api.Value) {
			v, errors := come(t, ofSum, l...)
			if errors != nil {
				other++
				return
			}
			same++
			if v != of.want {
				t.Errorf("%v of %s: %s, want %s", ofSum, show(l...), show(v), show(of.want))
			}
		})
		if same == 0 || other == 0 {
			t.Errorf("of %s: %d orders have a sum, %d go over", show(of.l...), same, other)
		}
	}
}

func one[T any](c *rand.Rand, l ...T) T { return l[c.Intn(len(l))] }

// someText is one by chance, often the beginning of others.
func someText(c *rand.Rand) string {
	b := make([]byte, c.Intn(5))
	for i := range b {
		b[i] = one[byte](c, 0, 'a', 'b', 255)
	}
	return string(b)
}

// someNumber is one by chance, often small, or near an end.
func someNumber(c *rand.Rand) int64 {
	near := int64(c.Intn(5))
	return one(c, near, -near, math.MaxInt64-near, math.MinInt64+near, math.MaxInt64/2+near, math.MinInt64/2-near, int64(c.Uint64()), int64(c.Uint64())>>32)
}

func someValue(c *rand.Rand) api.Value {
	return one(c, api.Value{}, boolOf(int64(c.Intn(2))), intOf(someNumber(c)), intOf(someNumber(c)), intOf(someNumber(c)), textOf(someText(c)), blobOf(someText(c)))
}

// 17.2 to 17.4: long rows by chance, and others of the same values.
func TestByChance(t *testing.T) {
	t.Parallel()
	told := map[api.Errno]int{}
	for seed := range int64(2000) {
		c := rand.New(rand.NewSource(seed))
		l := make([]api.Value, c.Intn(40))
		numbers := c.Intn(2) == 0
		for i := range l {
			l[i] = someValue(c)
			if numbers && l[i].Kind != api.Null {
				l[i] = intOf(someNumber(c))
			}
		}
		mixed := slices.Clone(l)
		c.Shuffle(len(mixed), func(i, j int) { mixed[i], mixed[j] = mixed[j], mixed[i] })
		for _, of := range aggregates() {
			v, errors := come(t, of, l...)
			w, others := come(t, of, mixed...)
			if v != w && errors == nil && others == nil {
				t.Errorf("%v of %s: %s, of %s: %s", of, show(l...), show(v), show(mixed...), show(w))
			}
			for _, e := range errors {
				told[e]++
			}
		}
		if t.Failed() {
			t.Fatalf("seed %d", seed)
		}
	}
	for _, e := range []api.Errno{api.ErrType, api.ErrOverflow} {
		if told[e] < 1000 {
			t.Errorf("error %d came just %d times", e, told[e])
		}
	}
}

// Many values.
func TestMany(t *testing.T) {
	t.Parallel()
	const many = 1 << 20
	for _, of := range []struct {
		aggregate
		want api.Value
	}{{ofCount, intOf(many / 2)}, {ofRows, intOf(many)}, {ofSum, intOf((many / 2) * (many / 2))}, {ofMin, intOf(1)}, {ofMax, intOf(many - 1)}} {
		a := made(t, of.aggregate)
		for i := range int64(many) {
			v := api.Value{}
			if i%2 == 1 {
				v = intOf(i)
			}
			if e := a.Add(v); e != api.OK {
				t.Fatalf("%v: error %d", of.aggregate, e)
			}
		}
		hold(t, a, of.want, of.aggregate)
	}
}

// R1, R2: values that are not right, numbers that are no aggregates: each call
// ends, none panics.
func TestNotRight(t *testing.T) {
	t.Parallel()
	c := rand.New(rand.NewSource(1))
	for range 5000 {
		op, rows := c.Intn(7)-1, c.Intn(2) == 0
		a, e := New(op, rows)
		if e != api.OK {
			if a != nil {
				t.Errorf("New(%d, %t): an accumulator beside the error %d", op, rows, e)
			}
			continue
		}
		for range c.Intn(20) {
			kind := one(c, c.Intn(7)-1, int(c.Uint64()))
			a.Add(one(c, someValue(c), api.Value{Kind: kind, Int: someNumber(c), Text: someText(c)}))
			a.Value()
		}
	}
}
