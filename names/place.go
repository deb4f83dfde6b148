package names

import (
	"slices"

	"quarry/api"
	"quarry/shape"
)

// place is what an expression may be made of where it stands.
type place struct {
	columns    []column
	aggregates bool
}

// column is one of a query's, with the name by which the query knows its table.
type column struct {
	alias string
	api.Column
}

// columnsOf is the columns of a query.
func columnsOf(s api.Schema, from []api.From) []column {
	var l []column
	for i, f := range from {
		t := tableOf(s, f.Table)
		if slices.ContainsFunc(from[:i], func(ahead api.From) bool { return ahead.Alias == f.Alias }) {
			panic(api.ErrExists)
		}
		l = append(l, aliased(f.Alias, t)...)
	}
	return l
}

func aliased(alias string, t api.Table) []column {
	var l []column
	for _, c := range t.Cols {
		l = append(l, column{alias, c})
	}
	return l
}

// rowsOf is the place where expressions of a table's rows stand, by its own name.
func rowsOf(t api.Table) place { return place{columns: aliased(t.Name, t)} }

// tests looks at expressions that must be true of what is to remain.
func (p place) tests(l []api.Expr) {
	for i := range l {
		p.lookAs(api.Bool, &l[i])
	}
}

// lookAs looks at an expression that has to go as a type.
func (p place) lookAs(t int, e *api.Expr) {
	p.look(e)
	mustGo([]api.Expr{*e}, t)
}

// look finds what the names of an expression mean, and the types of all its parts.
func (p place) look(e *api.Expr) {
	if e.Kind == api.EAgg {
		if !p.aggregates {
			panic(api.ErrGroup)
		}
		p.aggregates = false // within it
	}
	for i := range e.Args {
		p.look(&e.Args[i])
	}
	if shape.None(*e) {
		panic(api.ErrKind)
	}
	if e.Kind == api.ECol {
		e.Col = p.column(*e)
		e.Type = p.columns[e.Col].Type
		return
	}
	e.Type = typeOf(*e)
}

// column is the place of the column that an expression names.
func (p place) column(e api.Expr) int {
	table := e.Table == ""
	var found []int
	for at, c := range p.columns {
		if e.Table != "" && e.Table != c.alias {
			continue
		}
		table = true
		if c.Name == e.Name {
			found = append(found, at)
		}
	}
	switch {
	case !table:
		panic(api.ErrTable)
	case len(found) == 0:
		panic(api.ErrColumn)
	case len(found) > 1:
		panic(api.ErrAmbig)
	}
	return found[0]
}
