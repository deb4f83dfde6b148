package stmt

import (
	"math"
	"strings"

	"quarry/api"
	"quarry/expr"
	"quarry/tokens"
	"quarry/value"
)

// reader reads the parts of statements; it throws a fault at the first token
// that does not fit.
type reader struct {
	tokens.Reader
}

func newReader(l []api.Token) *reader {
	return &reader{tokens.Reader{List: l}}
}

// take goes past a keyword, if it stands there.
func (r *reader) take(keyword string) bool { return r.Take(api.TWord, keyword) }

// must goes past a keyword that has to stand there.
func (r *reader) must(keyword string) { r.Must(api.TWord, keyword) }

// text reads a statement that goes up to the end.
func (r *reader) text() api.Stmt {
	s := r.statement()
	r.Take(api.TSymbol, ";")
	if !r.Ended() {
		panic(r.Fault(api.ErrSyntax))
	}
	return s
}

func (r *reader) statement() api.Stmt {
	switch {
	case r.take("select"):
		return r.query()
	case r.take("insert"):
		return r.insert()
	case r.take("update"):
		return r.update()
	case r.take("delete"):
		return r.remove()
	case r.take("create"):
		return r.create()
	case r.take("drop"):
		return r.drop()
	case r.take("begin"):
		return api.Stmt{Kind: api.SBegin}
	case r.take("commit"):
		return api.Stmt{Kind: api.SCommit}
	case r.take("rollback"):
		return r.rollback()
	case r.take("savepoint"):
		return r.named(api.SSavepoint)
	case r.take("release"):
		return r.named(api.SRelease)
	}
	panic(r.Fault(api.ErrSyntax))
}

// named is a statement of which just a name is left to read.
func (r *reader) named(kind int) api.Stmt {
	return api.Stmt{Kind: kind, Name: r.Name()}
}

func (r *reader) query() api.Stmt {
	s := api.Stmt{Kind: api.SSelect, Limit: noLimit}
	s.Distinct = r.take("distinct")
	s.Items = list(r, r.item)
	if r.take("from") {
		s.From = r.from()
	}
	s.Where = r.behind("where")
	if r.take("group") {
		r.must("by")
		s.Group = list(r, r.expr)
	}
	s.Having = r.behind("having")
	if r.take("order") {
		r.must("by")
		s.Order = list(r, r.order)
	}
	if r.take("limit") {
		s.Limit = r.count()
		if r.take("offset") {
			s.Offset = r.count()
		}
	}
	return s
}

func (r *reader) item() api.Item {
	if r.Take(api.TSymbol, "*") {
		return api.Item{Star: true}
	}
	return api.Item{Expr: r.expr()}
}

// from reads tables with a comma or JOIN between each two.
func (r *reader) from() []api.From {
	l := []api.From{r.table()}
	for {
		switch {
		case r.Take(api.TSymbol, ","):
			l = more(r, l, api.MaxFrom, r.table)
		case r.take("join"):
			l = more(r, l, api.MaxFrom, r.joined)
		default:
			return l
		}
	}
}

func (r *reader) table() api.From {
	name := r.Name()
	if r.take("as") {
		return api.From{Table: name, Alias: r.Name()}
	}
	return api.From{Table: name, Alias: name}
}

func (r *reader) joined() api.From {
	t := r.table()
	r.must("on")
	t.On = []api.Expr{r.expr()}
	return t
}

func (r *reader) order() api.Order {
	e := r.expr()
	return api.Order{Expr: e, Desc: r.desc()}
}

// desc tells which way an order goes: up, if nothing is said.
func (r *reader) desc() bool { return !r.take("asc") && r.take("desc") }

// count reads a number of rows.
func (r *reader) count() int {
	t := r.Token(0)
	switch {
	case t.Kind != api.TInt:
		panic(r.Fault(api.ErrSyntax))
	case t.Int > math.MaxInt32:
		panic(r.Fault(api.ErrLong))
	}
	r.At++
	return int(t.Int)
}

func (r *reader) insert() api.Stmt {
	r.must("into")
	s := r.named(api.SInsert)
	if r.Stands(api.TSymbol, "(") {
		s.Names = bracketed(r, r.Name)
	}
	r.must("values")
	s.Rows = list(r, r.values)
	return s
}

func (r *reader) values() []api.Expr { return bracketed(r, r.expr) }

func (r *reader) update() api.Stmt {
	s := r.named(api.SUpdate)
	r.must("set")
	s.Sets = list(r, r.setting)
	s.Where = r.behind("where")
	return s
}

func (r *reader) setting() api.Set {
	name := r.Name()
	r.Must(api.TSymbol, "=")
	return api.Set{Name: name, Expr: r.expr()}
}

func (r *reader) remove() api.Stmt {
	r.must("from")
	s := r.named(api.SDelete)
	s.Where = r.behind("where")
	return s
}

func (r *reader) create() api.Stmt {
	if r.take("table") {
		s := r.named(api.SCreateTable)
		s.Cols = bracketed(r, r.column)
		return s
	}
	unique := r.take("unique")
	r.must("index")
	s := r.named(api.SCreateIndex)
	s.Unique = unique
	r.must("on")
	s.Table = r.Name()
	for _, p := range bracketed(r, r.place) {
		s.Names = append(s.Names, p.name)
		s.Desc = append(s.Desc, p.desc)
	}
	return s
}

func (r *reader) column() api.Column {
	c := api.Column{Name: r.Name()}
	c.Type = r.columnType()
	if r.take("not") {
		r.must("null")
		c.NotNull = true
	}
	return c
}

func (r *reader) columnType() int {
	for t := api.Bool; t <= api.Blob; t++ {
		if r.take(strings.ToLower(value.Type(t))) {
			return t
		}
	}
	panic(r.Fault(api.ErrSyntax))
}

// place is one of those by which an index orders its rows.
type place struct {
	name string
	desc bool
}

func (r *reader) place() place {
	name := r.Name()
	return place{name, r.desc()}
}

func (r *reader) drop() api.Stmt {
	if r.take("table") {
		return r.named(api.SDropTable)
	}
	r.must("index")
	return r.named(api.SDropIndex)
}

func (r *reader) rollback() api.Stmt {
	if r.take("to") {
		return r.named(api.SRollbackTo)
	}
	return api.Stmt{Kind: api.SRollback}
}

// behind reads the expression behind a keyword, if that stands there.
func (r *reader) behind(keyword string) []api.Expr {
	if !r.take(keyword) {
		return nil
	}
	return []api.Expr{r.expr()}
}

func (r *reader) expr() api.Expr {
	if r.Ended() {
		// expr.Read tells no place behind the tokens
		panic(r.Fault(api.ErrSyntax))
	}
	e, behind, err := expr.Read(r.List, r.At)
	if err != nil {
		panic(err)
	}
	r.At = behind
	return e
}
