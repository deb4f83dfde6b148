package names

import (
	"slices"

	"quarry/api"
	"quarry/catalog"
)

// resolve finds what the names of a statement mean, and its types; the first
// error is thrown.
func resolve(s api.Schema, q *api.Stmt) {
	switch q.Kind {
	case api.SSelect:
		query(s, q)
	case api.SInsert:
		insert(s, q)
	case api.SUpdate:
		update(s, q)
	case api.SDelete:
		rowsOf(tableOf(s, q.Name)).tests(q.Where)
	}
}

func query(s api.Schema, q *api.Stmt) {
	rows := place{columns: columnsOf(s, q.From)}
	for _, f := range q.From {
		rows.tests(f.On)
	}
	rows.tests(q.Where)
	for i := range q.Group {
		rows.look(&q.Group[i])
	}
	groups := place{columns: rows.columns, aggregates: true}
	q.Items = groups.items(q.Items)
	groups.tests(q.Having)
	for i := range q.Order {
		groups.look(&q.Order[i].Expr)
	}
	if !Grouped(*q) {
		return
	}
	for _, e := range answers(*q) {
		if !fits(e, q.Group) {
			panic(api.ErrGroup)
		}
	}
}

// items is the items of a query, with all columns where a star stands.
func (p place) items(l []api.Item) []api.Item {
	var made []api.Item
	for _, i := range l {
		if i.Star {
			made = append(made, p.star()...)
			continue
		}
		p.look(&i.Expr)
		made = append(made, i)
	}
	return made
}

func (p place) star() []api.Item {
	if len(p.columns) == 0 {
		panic(api.ErrColumn)
	}
	var l []api.Item
	for at, c := range p.columns {
		l = append(l, api.Item{Expr: api.Expr{Kind: api.ECol, Table: c.alias, Name: c.Name, Col: at, Type: c.Type}})
	}
	return l
}

func insert(s api.Schema, q *api.Stmt) {
	t := tableOf(s, q.Name)
	if len(q.Names) == 0 {
		for _, c := range t.Cols {
			q.Names = append(q.Names, c.Name)
		}
	}
	var types []int
	for i, name := range q.Names {
		types = append(types, t.Cols[columnAt(t, name)].Type)
		if slices.Contains(q.Names[:i], name) {
			panic(api.ErrExists)
		}
	}
	for _, row := range q.Rows {
		if len(row) != len(types) {
			panic(api.ErrCount)
		}
		for i := range row {
			place{}.lookAs(types[i], &row[i])
		}
	}
}

func update(s api.Schema, q *api.Stmt) {
	t := tableOf(s, q.Name)
	rows := rowsOf(t)
	for i := range q.Sets {
		set := &q.Sets[i]
		set.Col = columnAt(t, set.Name)
		if slices.ContainsFunc(q.Sets[:i], func(ahead api.Set) bool { return ahead.Name == set.Name }) {
			panic(api.ErrExists)
		}
		rows.lookAs(t.Cols[set.Col].Type, &set.Expr)
	}
	rows.tests(q.Where)
}

func tableOf(s api.Schema, name string) api.Table {
	t, ok := catalog.Table(s, name)
	if !ok {
		panic(api.ErrTable)
	}
	return t
}

// columnAt is the place of a table's column.
func columnAt(t api.Table, name string) int {
	at := slices.IndexFunc(t.Cols, func(c api.Column) bool { return c.Name == name })
	if at < 0 {
		panic(api.ErrColumn)
	}
	return at
}
