package names

import (
	"slices"

	"quarry/api"
	"quarry/expr"
)

// plain goes by the chapter's words, one after another: it never stops at what is
// wrong, and keeps the first of it.
type plain struct {
	first   api.Errno
	aliases []string
	cols    []plainColumn
}

type plainColumn struct {
	alias, name string
	typ         int
}

func (p *plain) wrong(is bool, e api.Errno) {
	if is && p.first == api.OK {
		p.first = e
	}
}

func (p *plain) table(s api.Schema, name string) api.Table {
	for _, t := range s.Tables {
		if t.Name == name {
			return t
		}
	}
	p.wrong(true, api.ErrTable)
	return api.Table{}
}

// add lays a table's columns behind those that are there.
func (p *plain) add(alias string, t api.Table) {
	p.wrong(slices.Contains(p.aliases, alias), api.ErrExists)
	p.aliases = append(p.aliases, alias)
	for _, c := range t.Cols {
		p.cols = append(p.cols, plainColumn{alias, c.Name, c.Type})
	}
}

func (p *plain) column(e api.Expr) api.Expr {
	var places []int
	for at, c := range p.cols {
		if c.name == e.Name && (e.Table == "" || e.Table == c.alias) {
			places = append(places, at)
		}
	}
	p.wrong(e.Table != "" && !slices.Contains(p.aliases, e.Table), api.ErrTable)
	p.wrong(len(places) == 0, api.ErrColumn)
	p.wrong(len(places) > 1, api.ErrAmbig)
	if len(places) == 1 {
		e.Col, e.Type = places[0], p.cols[places[0]].typ
	}
	return e
}

// look answers an expression with its places and types; nothing of what it
// answers counts once something is wrong.
func (p *plain) look(e api.Expr, aggregates bool) api.Expr {
	p.wrong(e.Kind == api.EAgg && !aggregates, api.ErrGroup)
	var args []api.Expr
	var types []int
	for _, a := range e.Args {
		a = p.look(a, aggregates && e.Kind != api.EAgg)
		args = append(args, a)
		types = append(types, a.Type)
	}
	e.Args = args
	p.wrong(expr.Print(e) == "", api.ErrKind)
	if p.first != api.OK {
		return e
	}
	switch e.Kind {
	case api.ECol:
		return p.column(e)
	case api.ELit:
		e.Type = e.Value.Kind
	case api.ENull:
		e.Type = api.Bool
	case api.EAgg:
		e.Type = api.Int
		if e.Op == api.Min || e.Op == api.Max {
			e.Type = types[0]
		}
		p.wrong(e.Op == api.Sum && !goes(types[0], api.Int), api.ErrType)
	default:
		e.Type = wanted(e, types)
		p.wrong(e.Type < 0, api.ErrType)
	}
	return e
}

func goes(typ, as int) bool { return typ == api.Null || typ == as }

func (p *plain) looks(l []api.Expr, aggregates bool) []api.Expr {
	var made []api.Expr
	for _, e := range l {
		made = append(made, p.look(e, aggregates))
	}
	return made
}

func (p *plain) lookAs(e api.Expr, aggregates bool, typ int) api.Expr {
	e = p.look(e, aggregates)
	p.wrong(!goes(e.Type, typ), api.ErrType)
	return e
}

func (p *plain) tests(l []api.Expr, aggregates bool) []api.Expr {
	var made []api.Expr
	for _, e := range l {
		made = append(made, p.lookAs(e, aggregates, api.Bool))
	}
	return made
}

// resolve is what a statement becomes; nothing of it counts once something is wrong.
func (p *plain) resolve(s api.Schema, q api.Stmt) api.Stmt {
	switch q.Kind {
	case api.SSelect:
		return p.query(s, q)
	case api.SInsert:
		return p.insert(s, q)
	case api.SUpdate:
		t := p.table(s, q.Name)
		p.add(q.Name, t)
		var sets, ahead = []api.Set(nil), []string(nil)
		for _, set := range q.Sets {
			set.Col = p.place(t, set.Name)
			p.wrong(slices.Contains(ahead, set.Name), api.ErrExists)
			ahead = append(ahead, set.Name)
			set.Expr = p.lookAs(set.Expr, false, typeAt(t, set.Col))
			sets = append(sets, set)
		}
		q.Sets, q.Where = sets, p.tests(q.Where, false)
	case api.SDelete:
		p.add(q.Name, p.table(s, q.Name))
		q.Where = p.tests(q.Where, false)
	}
	return q
}

func (p *plain) query(s api.Schema, q api.Stmt) api.Stmt {
	for _, f := range q.From {
		p.add(f.Alias, p.table(s, f.Table))
	}
	q.From = slices.Clone(q.From)
	for i, f := range q.From {
		q.From[i].On = p.tests(f.On, false)
	}
	q.Where = p.tests(q.Where, false)
	q.Group = p.looks(q.Group, false)
	var items []api.Item
	for _, i := range q.Items {
		if !i.Star {
			items = append(items, api.Item{Expr: p.look(i.Expr, true)})
			continue
		}
		p.wrong(len(p.cols) == 0, api.ErrColumn)
		for at, c := range p.cols {
			items = append(items, api.Item{Expr: api.Expr{Kind: api.ECol, Table: c.alias, Name: c.name, Col: at, Type: c.typ}})
		}
	}
	q.Items = items
	q.Having = p.tests(q.Having, true)
	q.Order = slices.Clone(q.Order)
	for i, o := range q.Order {
		q.Order[i].Expr = p.look(o.Expr, true)
	}
	if len(q.Group) > 0 || len(q.Having) > 0 || len(plainAggregates(q)) > 0 {
		for _, e := range lastOf(q) {
			p.wrong(!plainFits(e, q.Group), api.ErrGroup)
		}
	}
	return q
}

// lastOf is the expressions of Items, Having and Order.
func lastOf(q api.Stmt) []api.Expr {
	var l []api.Expr
	for _, i := range q.Items {
		l = append(l, i.Expr)
	}
	l = append(l, q.Having...)
	for _, o := range q.Order {
		l = append(l, o.Expr)
	}
	return l
}

// plainFits knows expressions by how they are written.
func plainFits(e api.Expr, group []api.Expr) bool {
	for _, g := range group {
		if expr.Print(g) == expr.Print(e) {
			return true
		}
	}
	switch e.Kind {
	case api.EAgg:
		return true
	case api.ECol:
		return false
	}
	for _, a := range e.Args {
		if !plainFits(a, group) {
			return false
		}
	}
	return true
}

// plainAggregates is how the aggregates of a query are written, in their order,
// each once.
func plainAggregates(q api.Stmt) []string {
	var texts []string
	todo := lastOf(q)
	for len(todo) > 0 {
		e := todo[0]
		todo = append(slices.Clone(e.Args), todo[1:]...)
		if e.Kind == api.EAgg && !slices.Contains(texts, expr.Print(e)) {
			texts = append(texts, expr.Print(e))
		}
	}
	return texts
}

func (p *plain) insert(s api.Schema, q api.Stmt) api.Stmt {
	t := p.table(s, q.Name)
	names := q.Names
	if len(names) == 0 {
		for _, c := range t.Cols {
			names = append(names, c.Name)
		}
	}
	var types []int
	for i, name := range names {
		types = append(types, typeAt(t, p.place(t, name)))
		p.wrong(slices.Index(names, name) != i, api.ErrExists)
	}
	var rows [][]api.Expr
	for _, row := range q.Rows {
		p.wrong(len(row) != len(names), api.ErrCount)
		if p.first != api.OK {
			return q
		}
		var made []api.Expr
		for i, e := range row {
			made = append(made, p.lookAs(e, false, types[i]))
		}
		rows = append(rows, made)
	}
	q.Names, q.Rows = names, rows
	return q
}

func (p *plain) place(t api.Table, name string) int {
	at := slices.IndexFunc(t.Cols, func(c api.Column) bool { return c.Name == name })
	p.wrong(at < 0, api.ErrColumn)
	return at
}

func typeAt(t api.Table, at int) int {
	if at < 0 {
		return api.Null
	}
	return t.Cols[at].Type
}
