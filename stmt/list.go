package stmt

import "quarry/api"

// list reads members with a comma between each two.
func list[T any](r *reader, member func() T) []T {
	l := []T{member()}
	for r.Take(api.TSymbol, ",") {
		l = more(r, l, api.MaxItems, member)
	}
	return l
}

// bracketed reads a list within brackets.
func bracketed[T any](r *reader, member func() T) []T {
	r.Must(api.TSymbol, "(")
	l := list(r, member)
	r.Must(api.TSymbol, ")")
	return l
}

// more is the list with the member that stands at the reader's place. If the
// list has its most already, that member's first token does not fit, whatever
// stands behind it; what begins no member at all is no member too many.
func more[T any](r *reader, l []T, most int, member func() T) []T {
	if len(l) < most {
		return append(l, member())
	}
	long := r.Fault(api.ErrLong)
	if f := caught(func() { member() }); f != nil && f.At == long.At {
		panic(f)
	}
	panic(long)
}

// caught is the fault that reading throws, or nil.
func caught(read func()) (f *api.Fault) {
	defer func() {
		if thrown := recover(); thrown != nil {
			f = thrown.(*api.Fault)
		}
	}()
	read()
	return nil
}
