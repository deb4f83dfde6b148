// Package tokens goes through the words of a statement from the left on, for
// the layers that read them.
package tokens

import (
	"quarry/api"
	"quarry/catalog"
)

// Reader stands at a place of a list of tokens. What must stand there, and does
// not, it throws as a fault, to be caught at the face of the layer that reads.
type Reader struct {
	List []api.Token
	At   int
}

// Ended tells whether the reader stands behind all tokens.
func (r *Reader) Ended() bool { return r.At >= len(r.List) }

// Token is that which stands so many behind the reader's place; behind the end
// it is of no kind.
func (r *Reader) Token(further int) api.Token {
	if r.At+further < len(r.List) {
		return r.List[r.At+further]
	}
	return api.Token{}
}

// Stands tells whether that token stands at the reader's place.
func (r *Reader) Stands(kind int, text string) bool {
	t := r.Token(0)
	return t.Kind == kind && t.Text == text
}

// Take goes past a token, if it is that one.
func (r *Reader) Take(kind int, text string) bool {
	if !r.Stands(kind, text) {
		return false
	}
	r.At++
	return true
}

// Must goes past a token that has to be that one.
func (r *Reader) Must(kind int, text string) {
	if !r.Take(kind, text) {
		panic(r.Fault(api.ErrSyntax))
	}
}

// Name goes past a token that has to be a name.
func (r *Reader) Name() string {
	t := r.Token(0)
	if t.Kind != api.TWord || catalog.Name(t.Text) != api.OK {
		panic(r.Fault(api.ErrSyntax))
	}
	r.At++
	return t.Text
}

// Fault is one at the reader's place, for its caller to throw.
func (r *Reader) Fault(e api.Errno) *api.Fault {
	switch {
	case !r.Ended():
		return &api.Fault{At: r.List[r.At].At, Err: e}
	case len(r.List) == 0:
		return &api.Fault{At: 0, Err: e}
	}
	return &api.Fault{At: r.List[len(r.List)-1].At + 1, Err: e}
}
