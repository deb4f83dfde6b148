package agg

import (
	"quarry/api"
	"quarry/calc"
	"quarry/value"
)

// gatherer is what one kind of aggregate makes of the values that it takes.
// Which of those that come are to be taken, is not its matter.
type gatherer interface {
	take(v api.Value) api.Errno
	gathered() api.Value
}

// gathererOf is one that has taken nothing, or none, if there is no such
// aggregate.
func gathererOf(op int) gatherer {
	switch op {
	case api.Count:
		return &count{}
	case api.Sum:
		return &sum{}
	case api.Min:
		return &least{}
	case api.Max:
		return &greatest{}
	}
	return nil
}

type count struct{ taken int64 }

func (c *count) take(api.Value) api.Errno {
	c.taken++
	return api.OK
}

func (c *count) gathered() api.Value { return number(c.taken) }

// held is the value that all those taken have come to. NULL says that there was
// none: no kind that holds a value takes NULL.
type held struct{ value api.Value }

func (h *held) gathered() api.Value { return h.value }

func (h *held) empty() bool { return h.value.Kind == api.Null }

type sum struct{ held }

func (s *sum) take(v api.Value) api.Errno {
	before := s.value
	if s.empty() {
		before = number(0)
	}
	total, e := calc.Binary(api.Add, before, v)
	if e == api.OK {
		s.value = total
	}
	return e
}

type least struct{ held }

func (l *least) take(v api.Value) api.Errno {
	if l.empty() || value.Compare(v, l.value) < 0 {
		l.value = v
	}
	return api.OK
}

type greatest struct{ held }

func (g *greatest) take(v api.Value) api.Errno {
	if g.empty() || value.Compare(v, g.value) > 0 {
		g.value = v
	}
	return api.OK
}

func number(n int64) api.Value { return api.Value{Kind: api.Int, Int: n} }
