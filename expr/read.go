package expr

import (
	"quarry/api"
	"quarry/tokens"
)

// line reads what a line of the grammar says, from the reader's place on.
type line func() api.Expr

// reader goes through tokens from the left on; it throws a fault at the first
// one that does not fit.
type reader struct {
	tokens.Reader
	nesting int
	or      line // the whole grammar, which stands within brackets, too
}

func newReader(list []api.Token, at int) *reader {
	r := &reader{Reader: tokens.Reader{List: list, At: at}}
	sign := r.ahead(lineSign, r.item)
	prod := r.row(lineProd, sign)
	sum := r.row(lineSum, prod)
	cat := r.row(lineCat, sum)
	test := r.test(cat)
	not := r.ahead(lineNot, test)
	and := r.row(lineAnd, not)
	r.or = r.row(lineOr, and)
	return r
}

// row is a line with any number of its operators, and such parts between them.
func (r *reader) row(number int, part line) line {
	return func() api.Expr {
		e := part()
		for o, ok := r.operator(number); ok; o, ok = r.operator(number) {
			e = r.with(o, e, part)
		}
		return e
	}
}

// test is the line with one operator at most.
func (r *reader) test(part line) line {
	return func() api.Expr {
		e := part()
		if r.Take(api.TWord, "is") {
			return api.Expr{Kind: api.ENull, Op: r.nullness(), Args: []api.Expr{e}}
		}
		if o, ok := r.operator(lineTest); ok {
			return r.with(o, e, part)
		}
		return e
	}
}

// ahead is a line on which its operator may stand ahead of the line itself.
func (r *reader) ahead(number int, part line) line {
	var itself line
	itself = func() api.Expr {
		o, ok := r.operator(number)
		if !ok {
			return part()
		}
		r.deeper()
		e := itself()
		r.nesting--
		return api.Expr{Kind: o.kind, Op: o.op, Args: []api.Expr{e}}
	}
	return itself
}

// with is what an operator at the reader's place makes of what stands ahead of
// it and the part behind it.
func (r *reader) with(o operator, left api.Expr, part line) api.Expr {
	r.At++
	return api.Expr{Kind: o.kind, Op: o.op, Args: []api.Expr{left, part()}}
}

func (r *reader) nullness() int {
	op := isNull
	if r.Take(api.TWord, "not") {
		op = isNotNull
	}
	r.Must(api.TWord, "null")
	return op
}

func (r *reader) item() api.Expr {
	if r.Stands(api.TSymbol, "(") {
		var e api.Expr
		r.brackets(func() { e = r.or() })
		return e
	}
	if v, ok := literal(r.Token(0)); ok {
		r.At++
		return api.Expr{Kind: api.ELit, Value: v}
	}
	if c, ok := r.call(); ok {
		r.At++
		return r.called(c)
	}
	return r.column()
}

// literal is the value for which a token stands, if it does for one.
func literal(t api.Token) (api.Value, bool) {
	switch t.Kind {
	case api.TInt:
		return api.Value{Kind: api.Int, Int: t.Int}, true
	case api.TText:
		return api.Value{Kind: api.Text, Text: t.Text}, true
	case api.TBlob:
		return api.Value{Kind: api.Blob, Text: t.Text}, true
	case api.TWord:
		switch t.Text {
		case "null":
			return api.Value{}, true
		case "true":
			return api.Value{Kind: api.Bool, Int: 1}, true
		case "false":
			return api.Value{Kind: api.Bool}, true
		}
	}
	return api.Value{}, false
}

// call is the function or the aggregate whose name stands at the reader's
// place; without a ( behind it, it would be a column's.
func (r *reader) call() (call, bool) {
	name, next := r.Token(0), r.Token(1)
	if name.Kind != api.TWord || next.Kind != api.TSymbol || next.Text != "(" {
		return call{}, false
	}
	return callNamed(name.Text)
}

// called is the call with what stands in its brackets.
func (r *reader) called(c call) api.Expr {
	e := api.Expr{Kind: c.kind, Op: c.op}
	r.brackets(func() {
		if c.counts() && r.Take(api.TSymbol, "*") {
			return
		}
		e.Args = r.operands(c.operands)
	})
	return e
}

func (r *reader) operands(count int) []api.Expr {
	list := []api.Expr{r.or()}
	for len(list) < count {
		r.Must(api.TSymbol, ",")
		list = append(list, r.or())
	}
	return list
}

func (r *reader) column() api.Expr {
	first := r.Name()
	if !r.Take(api.TSymbol, ".") {
		return api.Expr{Kind: api.ECol, Name: first}
	}
	return api.Expr{Kind: api.ECol, Table: first, Name: r.Name()}
}

// brackets reads what is within the ( at the reader's place, and its ).
func (r *reader) brackets(within func()) {
	r.deeper()
	within()
	r.Must(api.TSymbol, ")")
	r.nesting--
}

// deeper goes past a token behind which the nesting is one more.
func (r *reader) deeper() {
	if r.nesting == api.MaxDepth {
		panic(r.Fault(api.ErrDepth))
	}
	r.nesting++
	r.At++
}

// operator is that of the line's operators which stands at the reader's place.
func (r *reader) operator(number int) (operator, bool) {
	for _, o := range operators {
		if o.line == number && r.Stands(o.token, o.text) {
			return o, true
		}
	}
	return operator{}, false
}
