package tokens

import (
	"strings"
	"testing"

	"quarry/api"
	"quarry/lexer"
)

func readerOf(t *testing.T, text string) *Reader {
	t.Helper()
	l, err := lexer.Tokens(text)
	if err != nil {
		t.Fatalf("Tokens(%q): %v", text, err)
	}
	return &Reader{List: l}
}

// thrown is the fault that something throws, or nil.
func thrown(f func()) (fault *api.Fault) {
	defer func() {
		if x := recover(); x != nil {
			fault = x.(*api.Fault)
		}
	}()
	f()
	return nil
}

// What stands at a place, and behind it.
func TestToken(t *testing.T) {
	r := readerOf(t, "select 'select' ( 7")
	if !r.Stands(api.TWord, "select") || r.Stands(api.TText, "select") || r.Stands(api.TWord, "selec") || r.Ended() || r.At != 0 {
		t.Errorf("%+v", r)
	}
	for further, want := range r.List {
		if got := r.Token(further); got != want {
			t.Errorf("Token(%d): %+v", further, got)
		}
	}
	if got := r.Token(4); got != (api.Token{}) {
		t.Errorf("Token(4): %+v", got)
	}
	r.At = 3
	if r.Ended() || r.Token(0).Int != 7 || r.Token(1) != (api.Token{}) {
		t.Errorf("%+v", r)
	}
	r.At = 4
	if !r.Ended() || r.Token(0) != (api.Token{}) || r.Stands(api.TWord, "") {
		t.Errorf("%+v", r)
	}
}

// Take and Must go past the token that is asked for, and past no other one.
func TestTake(t *testing.T) {
	r := readerOf(t, "select ( 'a'")
	if r.Take(api.TSymbol, "select") || r.Take(api.TWord, "(") || r.Take(api.TWord, "SELECT") || r.At != 0 {
		t.Errorf("%+v", r)
	}
	if !r.Take(api.TWord, "select") || r.At != 1 {
		t.Errorf("%+v", r)
	}
	if f := thrown(func() { r.Must(api.TSymbol, ")") }); f == nil || *f != (api.Fault{At: 7, Err: api.ErrSyntax}) || r.At != 1 {
		t.Errorf("Must: %v", f)
	}
	if f := thrown(func() { r.Must(api.TSymbol, "(") }); f != nil || r.At != 2 {
		t.Errorf("Must: %v", f)
	}
	if !r.Take(api.TText, "a") || r.Take(api.TText, "a") || !r.Ended() {
		t.Errorf("%+v", r)
	}
	if f := thrown(func() { r.Must(api.TText, "a") }); f == nil || *f != (api.Fault{At: 10, Err: api.ErrSyntax}) {
		t.Errorf("Must: %v", f)
	}
}

// Name goes past right names, as words, alone.
func TestName(t *testing.T) {
	for _, name := range []string{"a", "_", "a1", "length", "count", strings.Repeat("n", 24)} {
		r := readerOf(t, name)
		if got := r.Name(); got != name || r.At != 1 {
			t.Errorf("Name: %q, want %q", got, name)
		}
	}
	for _, text := range []string{"", "1", "'a'", "x'61'", "(", "select", "int", "null", strings.Repeat("n", 25)} {
		r := readerOf(t, text)
		if f := thrown(func() { r.Name() }); f == nil || *f != (api.Fault{At: 0, Err: api.ErrSyntax}) || r.At != 0 {
			t.Errorf("Name of %q: %v", text, f)
		}
	}
}

// The place of a fault: the token's, that of the last one and 1 more, or 0.
func TestFault(t *testing.T) {
	r := readerOf(t, " a bcd ")
	for place, at := range []int{1, 3, 4, 4} {
		r.At = place
		if f := r.Fault(api.ErrLong); *f != (api.Fault{At: at, Err: api.ErrLong}) {
			t.Errorf("at %d: %v, want %d", place, f, at)
		}
	}
	r = &Reader{At: 0}
	if f := r.Fault(api.ErrSyntax); *f != (api.Fault{At: 0, Err: api.ErrSyntax}) {
		t.Errorf("of no token: %v", f)
	}
}
