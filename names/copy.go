package names

import (
	"slices"

	"quarry/api"
)

// copyOf is a statement that shares no memory with q.
func copyOf(q api.Stmt) api.Stmt {
	q.Items = copied(q.Items, func(i api.Item) api.Item { return api.Item{Star: i.Star, Expr: copyOfExpr(i.Expr)} })
	q.From = copied(q.From, func(f api.From) api.From { return api.From{Table: f.Table, Alias: f.Alias, On: copyOfExprs(f.On)} })
	q.Where = copyOfExprs(q.Where)
	q.Group = copyOfExprs(q.Group)
	q.Having = copyOfExprs(q.Having)
	q.Order = copied(q.Order, func(o api.Order) api.Order { return api.Order{Expr: copyOfExpr(o.Expr), Desc: o.Desc} })
	q.Cols = slices.Clone(q.Cols)
	q.Names = slices.Clone(q.Names)
	q.Desc = slices.Clone(q.Desc)
	q.Rows = copied(q.Rows, copyOfExprs)
	q.Sets = copied(q.Sets, func(s api.Set) api.Set { return api.Set{Name: s.Name, Col: s.Col, Expr: copyOfExpr(s.Expr)} })
	return q
}

func copyOfExprs(l []api.Expr) []api.Expr { return copied(l, copyOfExpr) }

func copyOfExpr(e api.Expr) api.Expr {
	e.Args = copyOfExprs(e.Args)
	return e
}

// copied is a list of copies of what stands in another one.
func copied[T any](l []T, member func(T) T) []T {
	l = slices.Clone(l)
	for i, m := range l {
		l[i] = member(m)
	}
	return l
}
