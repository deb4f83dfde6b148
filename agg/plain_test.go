package agg

import (
	"fmt"
	"math/big"
	"slices"
	"strconv"
	"strings"
	"testing"

	"quarry/api"
	"quarry/value"
)

// aggregate is what New is handed.
type aggregate struct {
	op   int
	rows bool
}

var (
	ofCount = aggregate{api.Count, false}
	ofRows  = aggregate{api.Count, true}
	ofSum   = aggregate{api.Sum, false}
	ofMin   = aggregate{api.Min, false}
	ofMax   = aggregate{api.Max, false}
)

// aggregates is all that there are.
func aggregates() []aggregate { return []aggregate{ofCount, ofRows, ofSum, ofMin, ofMax} }

func (of aggregate) String() string {
	name := []string{"COUNT", "SUM", "MIN", "MAX"}[of.op-1]
	if of.rows {
		return name + "(*)"
	}
	return name
}

// plain is an accumulator as the chapter's words have it: a list of all that it
// has taken, which is gone through anew each time.
type plain struct {
	aggregate
	taken []api.Value
}

func (p *plain) add(v api.Value) api.Errno {
	if v.Kind == api.Null && !p.rows {
		return api.OK
	}
	more := append(slices.Clone(p.taken), v)
	if p.op == api.Sum && v.Kind != api.Int {
		return api.ErrType
	}
	if p.op == api.Sum && !total(more).IsInt64() {
		return api.ErrOverflow
	}
	p.taken = more
	return api.OK
}

func (p *plain) value() api.Value {
	switch {
	case p.op == api.Count:
		return intOf(int64(len(p.taken)))
	case len(p.taken) == 0:
		return api.Value{}
	case p.op == api.Sum:
		return intOf(total(p.taken).Int64())
	}
	rising := slices.SortedFunc(slices.Values(p.taken), value.Compare)
	if p.op == api.Min {
		return rising[0]
	}
	return rising[len(rising)-1]
}

// total is a sum that is never too great.
func total(l []api.Value) *big.Int {
	n := new(big.Int)
	for _, v := range l {
		n.Add(n, big.NewInt(v.Int))
	}
	return n
}

func made(t testing.TB, of aggregate) *Acc {
	t.Helper()
	a, e := New(of.op, of.rows)
	if e != api.OK || a == nil {
		t.Fatalf("New of %v: error %d", of, e)
	}
	return a
}

// hold looks at an accumulator's value, twice: that it is asked changes nothing.
func hold(t testing.TB, a *Acc, want api.Value, of aggregate, l ...api.Value) {
	t.Helper()
	for range 2 {
		if v := a.Value(); v != want {
			t.Errorf("%v of %s: %s, want %s", of, show(l...), show(v), show(want))
		}
	}
}

// come adds values, one behind the other, and holds each error, and the value
// that is there behind it, against the chapter's words. The value at the end is
// the answer, and which errors there were.
func come(t testing.TB, of aggregate, l ...api.Value) (api.Value, []api.Errno) {
	t.Helper()
	a, p := made(t, of), plain{aggregate: of}
	hold(t, a, p.value(), of)
	var errors []api.Errno
	for i, v := range l {
		e, want := a.Add(v), p.add(v)
		if e != want {
			t.Errorf("%v of %s: error %d, want %d", of, show(l[:i+1]...), e, want)
		}
		hold(t, a, p.value(), of, l[:i+1]...)
		if e != api.OK {
			errors = append(errors, e)
		}
	}
	return a.Value(), errors
}

// check adds values, and looks at the value that is there at the end; none of
// them meets an error.
func check(t testing.TB, of aggregate, want api.Value, l ...api.Value) {
	t.Helper()
	v, errors := come(t, of, l...)
	if v != want || errors != nil {
		t.Errorf("%v of %s: %s, errors %v, want %s", of, show(l...), show(v), errors, show(want))
	}
}

// step is a value, the error that it meets, and what is there behind it.
type step struct {
	v      api.Value
	e      api.Errno
	behind api.Value
}

// checkSteps adds values, and looks behind each at the error and the value.
func checkSteps(t testing.TB, of aggregate, steps ...step) {
	t.Helper()
	a := made(t, of)
	var l []api.Value
	for _, s := range steps {
		l = append(l, s.v)
		if e := a.Add(s.v); e != s.e {
			t.Errorf("%v of %s: error %d, want %d", of, show(l...), e, s.e)
		}
		hold(t, a, s.behind, of, l...)
	}
	come(t, of, l...)
}

func boolOf(n int64) api.Value { return api.Value{Kind: api.Bool, Int: n} }

func intOf(n int64) api.Value { return api.Value{Kind: api.Int, Int: n} }

func textOf(s string) api.Value { return api.Value{Kind: api.Text, Text: s} }

func blobOf(s string) api.Value { return api.Value{Kind: api.Blob, Text: s} }

func list(l ...api.Value) []api.Value { return l }

// show is values as a text that is not too long to be read.
func show(l ...api.Value) string {
	var text []string
	for _, v := range l[:min(len(l), 20)] {
		literal := value.Literal(v)
		if literal == "" {
			literal = fmt.Sprintf("%+v", v)
		}
		text = append(text, fmt.Sprintf("%.60s", strings.Trim(strconv.QuoteToASCII(literal), `"`)))
	}
	return fmt.Sprintf("%v of %d", text, len(l))
}
