package stmt

import (
	"strconv"
	"strings"

	"quarry/api"
	"quarry/expr"
	"quarry/value"
)

const comma = ", "

// parts is what stands in a statement's text with a blank between each two.
func parts(s api.Stmt) []string {
	switch s.Kind {
	case api.SSelect:
		return queryParts(s)
	case api.SInsert:
		return insertParts(s)
	case api.SUpdate:
		return append([]string{"UPDATE", s.Name, "SET", commas(s.Sets, setting)}, behind("WHERE", s.Where)...)
	case api.SDelete:
		return append([]string{"DELETE FROM", s.Name}, behind("WHERE", s.Where)...)
	case api.SCreateTable:
		return []string{"CREATE TABLE", s.Name, brackets(commas(s.Cols, column))}
	case api.SCreateIndex:
		return indexParts(s)
	case api.SDropTable:
		return []string{"DROP TABLE", s.Name}
	case api.SDropIndex:
		return []string{"DROP INDEX", s.Name}
	case api.SBegin:
		return []string{"BEGIN"}
	case api.SCommit:
		return []string{"COMMIT"}
	case api.SRollback:
		return []string{"ROLLBACK"}
	case api.SSavepoint:
		return []string{"SAVEPOINT", s.Name}
	case api.SRelease:
		return []string{"RELEASE", s.Name}
	case api.SRollbackTo:
		return []string{"ROLLBACK TO", s.Name}
	}
	return nil
}

// commas is members with a comma between each two.
func commas[T any](l []T, member func(T) string) string {
	texts := make([]string, len(l))
	for i, m := range l {
		texts[i] = member(m)
	}
	return strings.Join(texts, comma)
}

func brackets(text string) string { return "(" + text + ")" }

// behind is keywords and what stands behind them, if something does.
func behind(keywords string, l []api.Expr) []string {
	if len(l) == 0 {
		return nil
	}
	return []string{keywords, commas(l, expr.Print)}
}

func queryParts(s api.Stmt) []string {
	p := []string{"SELECT"}
	if s.Distinct {
		p = append(p, "DISTINCT")
	}
	p = append(p, commas(s.Items, item))
	if len(s.From) > 0 {
		p = append(p, "FROM", from(s.From))
	}
	p = append(p, behind("WHERE", s.Where)...)
	p = append(p, behind("GROUP BY", s.Group)...)
	p = append(p, behind("HAVING", s.Having)...)
	if len(s.Order) > 0 {
		p = append(p, "ORDER BY", commas(s.Order, order))
	}
	if s.Limit != noLimit {
		p = append(p, "LIMIT", strconv.Itoa(s.Limit))
	}
	if s.Offset != 0 {
		p = append(p, "OFFSET", strconv.Itoa(s.Offset))
	}
	return p
}

func item(i api.Item) string {
	if i.Star {
		return "*"
	}
	return expr.Print(i.Expr)
}

func from(l []api.From) string {
	var text strings.Builder
	for i, f := range l {
		switch {
		case len(f.On) > 0:
			text.WriteString(" JOIN ")
		case i > 0:
			text.WriteString(comma)
		}
		text.WriteString(table(f))
	}
	return text.String()
}

func table(f api.From) string {
	p := []string{f.Table}
	if f.Alias != f.Table {
		p = append(p, "AS", f.Alias)
	}
	return strings.Join(append(p, behind("ON", f.On)...), " ")
}

func order(o api.Order) string { return turned(expr.Print(o.Expr), o.Desc) }

// turned says of an order that it goes down; that it goes up is said by nothing.
func turned(text string, desc bool) string {
	if desc {
		return text + " DESC"
	}
	return text
}

func insertParts(s api.Stmt) []string {
	p := []string{"INSERT INTO", s.Name}
	if len(s.Names) > 0 {
		p = append(p, brackets(strings.Join(s.Names, comma)))
	}
	return append(p, "VALUES", commas(s.Rows, values))
}

func values(row []api.Expr) string { return brackets(commas(row, expr.Print)) }

func setting(s api.Set) string { return s.Name + " = " + expr.Print(s.Expr) }

func column(c api.Column) string {
	text := c.Name + " " + value.Type(c.Type)
	if c.NotNull {
		return text + " NOT NULL"
	}
	return text
}

func indexParts(s api.Stmt) []string {
	p := []string{"CREATE"}
	if s.Unique {
		p = append(p, "UNIQUE")
	}
	places := make([]string, len(s.Names))
	for i, name := range s.Names {
		places[i] = turned(name, i < len(s.Desc) && s.Desc[i])
	}
	return append(p, "INDEX", s.Name, "ON", s.Table, brackets(strings.Join(places, comma)))
}
