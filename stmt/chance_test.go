package stmt

import (
	"math/rand"
	"strconv"
	"strings"
	"testing"

	"quarry/api"
	"quarry/expr"
	"quarry/lexer"
)

// chance makes statements, and with each of them two texts: the shortest one, of
// words with a blank between, as Print writes it, and one with all that may be
// left out, by chance.
type chance struct {
	*rand.Rand
	seldom      int // one list of so many has its most members
	plain, full strings.Builder
}

func (c *chance) yes() bool { return c.Intn(2) == 0 }

// both lays words into both texts.
func (c *chance) both(words ...string) {
	c.plain.WriteString(strings.Join(words, " "))
	c.more(words...)
}

// more lays words into the text that is not the shortest one.
func (c *chance) more(words ...string) {
	for _, word := range words {
		c.full.WriteString(" " + word + " ")
	}
}

func (c *chance) name() string {
	return []string{"a", "b", "t", "u", "_", "x1", "count", "length", "select_", strings.Repeat("n", 24)}[c.Intn(10)]
}

func (c *chance) aName() string {
	name := c.name()
	c.both(name)
	return name
}

func (c *chance) value() api.Value {
	switch c.Intn(5) {
	case 0:
		return api.Value{Kind: api.Int, Int: c.Int63()}
	case 1:
		return api.Value{Kind: api.Text, Text: []string{"", "it's", ";", "--", "a\x00\xff", "begin"}[c.Intn(6)]}
	case 2:
		return api.Value{Kind: api.Blob, Text: []string{"", "'", "\x00\xff"}[c.Intn(3)]}
	case 3:
		return api.Value{Kind: api.Bool, Int: int64(c.Intn(2))}
	}
	return api.Value{}
}

func (c *chance) expression(deep int) api.Expr {
	if deep == 0 {
		switch c.Intn(3) {
		case 0:
			return api.Expr{Kind: api.ELit, Value: c.value()}
		case 1:
			return api.Expr{Kind: api.ECol, Table: c.name(), Name: c.name()}
		}
		return api.Expr{Kind: api.ECol, Name: c.name()}
	}
	of := func(kind, op, n int) api.Expr {
		e := api.Expr{Kind: kind, Op: op}
		for range n {
			e.Args = append(e.Args, c.expression(c.Intn(deep)))
		}
		return e
	}
	switch c.Intn(8) {
	case 0:
		return of(api.EUnary, api.Neg+c.Intn(2), 1)
	case 1:
		return of(api.ENull, c.Intn(2), 1)
	case 2:
		return of(api.ECall, api.Length+c.Intn(4), 1)
	case 3:
		return of(api.EAgg, api.Count, 0)
	}
	return of(api.EBin, api.Or+c.Intn(14), 2)
}

func (c *chance) anExpression() api.Expr {
	e := c.expression(c.Intn(4))
	text := expr.Print(e)
	c.plain.WriteString(text)
	if c.Intn(5) == 0 {
		text = "((" + text + "))"
	}
	c.more(text)
	return e
}

// times does something once or more often, with a comma between.
func (c *chance) times(most int, member func()) {
	n := 1 + c.Intn(3)
	if c.Intn(c.seldom) == 0 {
		n = most
	}
	for i := range min(n, most) {
		if i > 0 {
			c.plain.WriteString(", ")
			c.more(",")
		}
		member()
	}
}

func (c *chance) within(list func()) {
	c.plain.WriteString("(")
	c.more("(")
	list()
	c.plain.WriteString(")")
	c.more(")")
}

// perhaps is a part behind a blank that may be there.
func (c *chance) perhaps(words string, part func()) {
	if c.yes() {
		c.both("", words, "")
		part()
	}
}

func (c *chance) desc() bool {
	if c.yes() {
		c.both("", "DESC")
		return true
	}
	if c.yes() {
		c.more("ASC")
	}
	return false
}

func (c *chance) table() api.From {
	f := api.From{Table: c.aName()}
	f.Alias = f.Table
	switch c.Intn(4) {
	case 0:
		c.more("AS", f.Alias)
	case 1:
		if name := c.name(); name != f.Table {
			f.Alias = name
			c.both("", "AS", name)
		}
	}
	return f
}

func (c *chance) query() api.Stmt {
	s := api.Stmt{Kind: api.SSelect, Limit: -1}
	c.both("SELECT", "")
	if c.yes() {
		s.Distinct = true
		c.both("DISTINCT", "")
	}
	c.times(32, func() {
		if c.Intn(4) == 0 {
			c.both("*")
			s.Items = append(s.Items, api.Item{Star: true})
			return
		}
		s.Items = append(s.Items, api.Item{Expr: c.anExpression()})
	})
	c.perhaps("FROM", func() {
		s.From = append(s.From, c.table())
		for range c.Intn(4) {
			if c.yes() {
				c.plain.WriteString(", ")
				c.more(",")
				s.From = append(s.From, c.table())
				continue
			}
			c.both("", "JOIN", "")
			f := c.table()
			c.both("", "ON", "")
			f.On = []api.Expr{c.anExpression()}
			s.From = append(s.From, f)
		}
	})
	c.perhaps("WHERE", func() { s.Where = []api.Expr{c.anExpression()} })
	c.perhaps("GROUP BY", func() { c.times(32, func() { s.Group = append(s.Group, c.anExpression()) }) })
	c.perhaps("HAVING", func() { s.Having = []api.Expr{c.anExpression()} })
	c.perhaps("ORDER BY", func() {
		c.times(32, func() {
			e := c.anExpression()
			s.Order = append(s.Order, api.Order{Expr: e, Desc: c.desc()})
		})
	})
	c.perhaps("LIMIT", func() {
		s.Limit = c.Intn(3) * (1<<31 - 1) / 2
		c.both(strconv.Itoa(s.Limit))
		if c.yes() {
			s.Offset = c.Intn(1 << 31)
			c.both("", "OFFSET", strconv.Itoa(s.Offset))
		} else if c.yes() {
			c.more("OFFSET", "0")
		}
	})
	return s
}

func (c *chance) where() (where []api.Expr) {
	c.perhaps("WHERE", func() { where = []api.Expr{c.anExpression()} })
	return where
}

func (c *chance) names() (l []string) {
	c.within(func() { c.times(32, func() { l = append(l, c.aName()) }) })
	return l
}

func (c *chance) insert() api.Stmt {
	c.both("INSERT INTO", "")
	s := api.Stmt{Kind: api.SInsert, Name: c.aName()}
	if c.yes() {
		c.both("", "")
		s.Names = c.names()
	}
	c.both("", "VALUES", "")
	c.times(32, func() {
		var row []api.Expr
		c.within(func() { c.times(32, func() { row = append(row, c.anExpression()) }) })
		s.Rows = append(s.Rows, row)
	})
	return s
}

func (c *chance) update() api.Stmt {
	c.both("UPDATE", "")
	s := api.Stmt{Kind: api.SUpdate, Name: c.aName()}
	c.both("", "SET", "")
	c.times(32, func() {
		name := c.aName()
		c.both("", "=", "")
		s.Sets = append(s.Sets, api.Set{Name: name, Expr: c.anExpression()})
	})
	s.Where = c.where()
	return s
}

func (c *chance) createTable() api.Stmt {
	c.both("CREATE TABLE", "")
	s := api.Stmt{Kind: api.SCreateTable, Name: c.aName()}
	c.both("", "")
	c.within(func() {
		c.times(32, func() {
			col := api.Column{Name: c.aName(), Type: 1 + c.Intn(4), NotNull: c.yes()}
			c.both("", []string{"", "BOOL", "INT", "TEXT", "BLOB"}[col.Type])
			if col.NotNull {
				c.both("", "NOT NULL")
			}
			s.Cols = append(s.Cols, col)
		})
	})
	return s
}

func (c *chance) createIndex() api.Stmt {
	s := api.Stmt{Kind: api.SCreateIndex, Unique: c.yes()}
	c.both("CREATE", "")
	if s.Unique {
		c.both("UNIQUE", "")
	}
	c.both("INDEX", "")
	s.Name = c.aName()
	c.both("", "ON", "")
	s.Table = c.aName()
	c.both("", "")
	c.within(func() {
		c.times(32, func() {
			s.Names = append(s.Names, c.aName())
			s.Desc = append(s.Desc, c.desc())
		})
	})
	return s
}

func (c *chance) statement() api.Stmt {
	switch kind := 1 + c.Intn(14); kind {
	case api.SInsert:
		return c.insert()
	case api.SUpdate:
		return c.update()
	case api.SDelete:
		c.both("DELETE FROM", "")
		s := api.Stmt{Kind: kind, Name: c.aName()}
		s.Where = c.where()
		return s
	case api.SCreateTable:
		return c.createTable()
	case api.SCreateIndex:
		return c.createIndex()
	case api.SBegin, api.SCommit, api.SRollback:
		c.both([]string{"BEGIN", "COMMIT", "ROLLBACK"}[kind-api.SBegin])
		return api.Stmt{Kind: kind}
	case api.SDropTable, api.SDropIndex, api.SSavepoint, api.SRelease, api.SRollbackTo:
		c.both(map[int]string{api.SDropTable: "DROP TABLE", api.SDropIndex: "DROP INDEX", api.SSavepoint: "SAVEPOINT", api.SRelease: "RELEASE", api.SRollbackTo: "ROLLBACK TO"}[kind], "")
		return api.Stmt{Kind: kind, Name: c.aName()}
	}
	return c.query()
}

// loose writes tokens with anything between them, and letters of any size.
func (c *chance) loose(l []api.Token) string {
	var s strings.Builder
	for _, t := range l {
		text := lexer.Print(t)
		switch {
		case t.Kind == api.TWord && c.yes(), t.Kind == api.TBlob && c.yes():
			text = strings.ToUpper(text)
		case t.Kind == api.TBlob:
			text = strings.ToLower(text)
		case t.Kind == api.TInt && c.Intn(5) == 0:
			text = "00" + text
		}
		if t.Kind == api.TSymbol && strings.Contains("(),;", t.Text) && c.yes() {
			s.WriteString(text)
			continue
		}
		s.WriteString([]string{" ", "\t", "\n", "\r", "  ", " -- x'\n", "\n--\n"}[c.Intn(7)] + text)
	}
	return s.String()
}

// tokensOfFull are the tokens of the text that is not the shortest one, which
// may end with a ; .
func (c *chance) tokensOfFull(t *testing.T) []api.Token {
	t.Helper()
	if c.yes() {
		c.more(";")
	}
	return tokensOf(t, c.full.String())
}

// 14.1 to 14.3: statements of every kind, with all their parts.
func TestByChance(t *testing.T) {
	t.Parallel()
	r := rand.New(rand.NewSource(1))
	tried := 0
	for range 6000 {
		c := &chance{Rand: r, seldom: 10}
		want := c.statement()
		if len(c.full.String()) > api.MaxText {
			continue
		}
		if text := Print(want); text != c.plain.String() {
			t.Fatalf("Print(%s): %q, want %q", dump(want), text, c.plain.String())
		}
		for _, text := range []string{c.plain.String(), c.full.String(), c.loose(c.tokensOfFull(t))} {
			if len(text) <= api.MaxText {
				checkParse(t, text, want)
				tried++
			}
		}
		if t.Failed() {
			return
		}
	}
	if tried < 15000 {
		t.Errorf("just %d texts", tried)
	}
}

// spoilt is some tokens, of which one or two are left out, changed, doubled,
// moved, or cut off.
func (c *chance) spoilt(l []api.Token, words []api.Token) []api.Token {
	made := append([]api.Token{}, l...)
	for range 1 + c.Intn(2) {
		if len(made) == 0 {
			break
		}
		i, j := c.Intn(len(made)), c.Intn(len(made))
		switch c.Intn(8) {
		case 0:
			made = append(made[:i:i], made[i+1:]...)
		case 1:
			made[i] = words[c.Intn(len(words))]
		case 2:
			made = append(made[:i:i], append([]api.Token{words[c.Intn(len(words))]}, made[i:]...)...)
		case 3:
			made[i], made[j] = made[j], made[i]
		case 4:
			made = made[:i]
		case 5: // a part of it once more
			i, j = min(i, j), max(i, j)
			made = append(made[:j:j], append(append([]api.Token{}, made[i:j]...), made[j:]...)...)
		default: // a member more, which makes lists too long
			for made[i].Text != "," && i+1 < len(made) {
				i++
			}
			more := []api.Token{{Kind: api.TSymbol, Text: ","}, {Kind: api.TWord, Text: "a"}}
			if c.Intn(3) == 0 {
				more[1] = words[c.Intn(len(words))]
			}
			made = append(made[:i:i], append(more, made[i:]...)...)
		}
	}
	return made
}

// 14.1: statements that are spoilt, against the grammar.
func TestSpoilt(t *testing.T) {
	t.Parallel()
	rules := rulesOf(grammar)
	var words []api.Token
	for _, word := range vocabulary() {
		words = append(words, tokensOf(t, word)...)
	}
	r := rand.New(rand.NewSource(2))
	told := map[api.Errno]int{}
	for range 30000 {
		c := &chance{Rand: r, seldom: 3}
		c.statement()
		text := c.loose(c.spoilt(c.tokensOfFull(t), words))
		checkPlain(t, rules, text)
		if t.Failed() {
			return
		}
		if _, err := Parse(text); err == nil {
			told[api.OK]++
		} else {
			told[err.(*api.Fault).Err.(api.Errno)]++
		}
	}
	if told[api.OK] < 1000 || told[api.ErrSyntax] < 10000 || told[api.ErrLong] < 300 {
		t.Errorf("%v", told)
	}
	t.Log(told)
}
