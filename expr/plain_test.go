package expr

import (
	"math/rand"
	"slices"
	"strings"
	"testing"

	"quarry/api"
	"quarry/catalog"
	"quarry/lexer"
)

// plain reads an expression token by token, by a stack of what is whole and one
// of what waits, without the lines of the grammar as functions.
type plain struct {
	l       []api.Token
	i       int
	whole   []api.Expr
	waiting []waits
	// mayNot: NOT may stand here; tested: there was a test since the last AND, OR
	// or bracket; closed: it was one of IS.
	mayNot, tested, closed bool
}

// waits is an operator that waits for its right operand, or what is open.
type waits struct {
	kind, op, line int  // line 0: a bracket or, with a kind, a call
	have           int  // operands of a call, so far
	tested         bool // ahead of it
}

func (p *plain) is(text string) bool {
	if p.i >= len(p.l) {
		return false
	}
	kind := api.TSymbol
	if lexer.Keyword(text) {
		kind = api.TWord
	}
	return p.l[p.i].Kind == kind && p.l[p.i].Text == text
}

func (p *plain) fault(e api.Errno) *api.Fault {
	if p.i < len(p.l) {
		return &api.Fault{At: p.l[p.i].At, Err: e}
	}
	return &api.Fault{At: p.l[len(p.l)-1].At + 1, Err: e}
}

func (p *plain) nesting() int {
	n := 0
	for _, w := range p.waiting {
		if w.line == 0 || w.kind == api.EUnary {
			n++
		}
	}
	return n
}

// push lays down what nests.
func (p *plain) push(w waits) *api.Fault {
	if p.nesting() == 32 {
		return p.fault(api.ErrDepth)
	}
	w.tested = p.tested
	p.waiting = append(p.waiting, w)
	p.i++
	return nil
}

// reduce makes whole what waits and binds as tightly as that, or tighter.
func (p *plain) reduce(line int) {
	for len(p.waiting) > 0 {
		w := p.waiting[len(p.waiting)-1]
		if w.line == 0 || w.line < line {
			return
		}
		p.waiting = p.waiting[:len(p.waiting)-1]
		n := 2
		if w.kind == api.EUnary {
			n = 1
		}
		p.gather(w.kind, w.op, n)
	}
}

func (p *plain) gather(kind, op, n int) {
	args := slices.Clone(p.whole[len(p.whole)-n:])
	p.whole = append(p.whole[:len(p.whole)-n], api.Expr{Kind: kind, Op: op, Args: args})
}

func (p *plain) isName(at int) bool {
	return at < len(p.l) && p.l[at].Kind == api.TWord && catalog.Name(p.l[at].Text) == api.OK
}

// plainCall is the kind, the Op and the number of operands by a name.
func plainCall(name string) (c [3]int, ok bool) {
	c, ok = map[string][3]int{
		"length": {5, 1, 1}, "abs": {5, 2, 1}, "upper": {5, 3, 1}, "lower": {5, 4, 1}, "substr": {5, 5, 3}, "coalesce": {5, 6, 2},
		"count": {6, 1, 1}, "sum": {6, 2, 1}, "min": {6, 3, 1}, "max": {6, 4, 1},
	}[name]
	return c, ok
}

// operand goes up to the next operand that is whole, or to a fault.
func (p *plain) operand() *api.Fault {
	for {
		if p.i >= len(p.l) {
			return p.fault(api.ErrSyntax)
		}
		t := p.l[p.i]
		var f *api.Fault
		switch {
		case p.is("not") && p.mayNot:
			f = p.push(waits{kind: api.EUnary, op: api.Not, line: 3})
		case p.is("-"):
			f = p.push(waits{kind: api.EUnary, op: api.Neg, line: 8})
			p.mayNot = false
		case p.is("("):
			f = p.push(waits{})
			p.mayNot, p.tested = true, false
		case p.is("null"), p.is("true"), p.is("false"), t.Kind == api.TInt, t.Kind == api.TText, t.Kind == api.TBlob:
			p.whole = append(p.whole, plainLiteral(t))
			p.i++
			return nil
		case p.isName(p.i):
			var done bool
			if done, f = p.word(t.Text); done {
				return f
			}
		default:
			return p.fault(api.ErrSyntax)
		}
		if f != nil {
			return f
		}
	}
}

func plainLiteral(t api.Token) api.Expr {
	v := api.Value{Kind: map[int]int{api.TInt: api.Int, api.TText: api.Text, api.TBlob: api.Blob}[t.Kind], Int: t.Int}
	switch {
	case t.Kind == api.TWord && t.Text != "null":
		v = api.Value{Kind: api.Bool, Int: int64(strings.Count(t.Text, "true"))}
	case t.Kind == api.TText || t.Kind == api.TBlob:
		v.Text, v.Int = t.Text, 0
	}
	return api.Expr{Kind: api.ELit, Value: v}
}

// word is a name or the beginning of a call; done tells that an operand is whole.
func (p *plain) word(name string) (done bool, f *api.Fault) {
	p.i++
	c, ok := plainCall(name)
	if ok && p.is("(") {
		if f := p.push(waits{kind: c[0], op: c[1], have: 0}); f != nil {
			return true, f
		}
		p.mayNot, p.tested = true, false
		if name != "count" || !p.is("*") {
			return false, nil
		}
		p.i++
		if !p.is(")") {
			return true, p.fault(api.ErrSyntax)
		}
		p.i++
		p.tested = p.waiting[len(p.waiting)-1].tested
		p.waiting = p.waiting[:len(p.waiting)-1]
		p.whole = append(p.whole, api.Expr{Kind: api.EAgg, Op: api.Count})
		return true, nil
	}
	if !p.is(".") {
		p.whole = append(p.whole, api.Expr{Kind: api.ECol, Name: name})
		return true, nil
	}
	p.i++
	if !p.isName(p.i) {
		return true, p.fault(api.ErrSyntax)
	}
	p.whole = append(p.whole, api.Expr{Kind: api.ECol, Table: name, Name: p.l[p.i].Text})
	p.i++
	return true, nil
}

// between is the Op and the line of an operator between two operands.
func (p *plain) between() (op, line int) {
	for _, o := range []struct {
		text     string
		op, line int
	}{
		{"or", 3, 1}, {"and", 4, 2}, {"=", 5, 4}, {"<>", 6, 4}, {"<", 7, 4}, {"<=", 8, 4}, {">", 9, 4}, {">=", 10, 4},
		{"||", 16, 5}, {"+", 11, 6}, {"-", 12, 6}, {"*", 13, 7}, {"/", 14, 7}, {"%", 15, 7},
	} {
		if p.is(o.text) {
			return o.op, o.line
		}
	}
	return 0, 0
}

// behind goes on behind an operand that is whole: up to where another must
// stand (more), to the end of all, or to a fault.
func (p *plain) behind() (more bool, f *api.Fault) {
	for {
		op, line := p.between()
		switch {
		case p.is("is") && !p.tested:
			p.reduce(5)
			p.i++
			not := 0
			if p.is("not") {
				not = 1
				p.i++
			}
			if !p.is("null") {
				return false, p.fault(api.ErrSyntax)
			}
			p.i++
			p.gather(api.ENull, not, 1)
			p.tested, p.closed = true, true
		case line == 1, line == 2, line == 4 && !p.tested, line > 4 && !p.closed:
			if line == 4 {
				p.reduce(5)
			} else {
				p.reduce(line)
			}
			p.waiting = append(p.waiting, waits{kind: api.EBin, op: op, line: line})
			p.i++
			p.mayNot = line < 3
			p.tested = line == 4 || line > 4 && p.tested
			p.closed = false
			return true, nil
		default:
			p.reduce(1)
			if len(p.waiting) == 0 {
				return false, nil
			}
			if more, f := p.close(); more || f != nil {
				return more, f
			}
		}
	}
}

// close goes past the end of what is open, or to its next operand (more).
func (p *plain) close() (more bool, f *api.Fault) {
	w := &p.waiting[len(p.waiting)-1]
	count := 1
	for _, name := range strings.Fields("length abs upper lower substr coalesce count sum min max") {
		if c, _ := plainCall(name); c[0] == w.kind && c[1] == w.op {
			count = c[2]
		}
	}
	w.have++
	switch {
	case w.have < count && p.is(","):
		p.i++
		p.mayNot, p.tested, p.closed = true, false, false
		return true, nil
	case w.have == count && p.is(")"):
		p.i++
		p.tested, p.closed = w.tested, false
		if w.kind != 0 {
			p.gather(w.kind, w.op, count)
		}
		p.waiting = p.waiting[:len(p.waiting)-1]
		return false, nil
	}
	return false, p.fault(api.ErrSyntax)
}

func plainRead(l []api.Token, at int) (api.Expr, int, *api.Fault) {
	if at < 0 || at >= len(l) {
		return api.Expr{}, 0, &api.Fault{Err: api.ErrSyntax}
	}
	p := &plain{l: l, i: at, mayNot: true}
	for more := true; more; {
		f := p.operand()
		if f == nil {
			more, f = p.behind()
		}
		if f != nil {
			return api.Expr{}, 0, f
		}
	}
	return p.whole[0], p.i, nil
}

// plainPrint writes by the numbers that the chapter lists, and tells the line.
func plainPrint(e api.Expr) (string, int) {
	in := func(e api.Expr, needed int) string {
		s, line := plainPrint(e)
		if line < needed {
			return "(" + s + ")"
		}
		return s
	}
	switch e.Kind {
	case api.ELit:
		return lexer.Print(literalToken(e.Value)), 9
	case api.ECol:
		return strings.TrimPrefix(e.Table+"."+e.Name, "."), 9
	case api.EUnary:
		if e.Op == api.Neg {
			return "- " + in(e.Args[0], 8), 8
		}
		return "NOT " + in(e.Args[0], 3), 3
	case api.ENull:
		return in(e.Args[0], 5) + []string{" IS NULL", " IS NOT NULL"}[e.Op], 4
	case api.EBin:
		line := map[int]int{api.Or: 1, api.And: 2, api.Cat: 5, api.Add: 6, api.Sub: 6, api.Mul: 7, api.Div: 7, api.Rem: 7}[e.Op]
		word := strings.Fields("OR AND = <> < <= > >= + - * / % ||")[e.Op-api.Or]
		if line == 0 {
			return in(e.Args[0], 5) + " " + word + " " + in(e.Args[1], 5), 4
		}
		return in(e.Args[0], line) + " " + word + " " + in(e.Args[1], line+1), line
	case api.ECall:
		return strings.Fields("LENGTH ABS UPPER LOWER SUBSTR COALESCE")[e.Op-1] + plainArgs(e.Args), 9
	}
	if len(e.Args) == 0 {
		return "COUNT(*)", 9
	}
	return strings.Fields("COUNT SUM MIN MAX")[e.Op-1] + plainArgs(e.Args), 9
}

func plainArgs(args []api.Expr) string {
	var s []string
	for _, a := range args {
		text, _ := plainPrint(a)
		s = append(s, text)
	}
	return "(" + strings.Join(s, ", ") + ")"
}

func literalToken(v api.Value) api.Token {
	switch v.Kind {
	case api.Int:
		return api.Token{Kind: api.TInt, Int: v.Int}
	case api.Text:
		return api.Token{Kind: api.TText, Text: v.Text}
	case api.Blob:
		return api.Token{Kind: api.TBlob, Text: v.Text}
	case api.Bool:
		return api.Token{Kind: api.TWord, Text: []string{"FALSE", "TRUE"}[v.Int]}
	}
	return api.Token{Kind: api.TWord, Text: "NULL"}
}

// exact tells whether two expressions are the same in all fields.
func exact(a, b api.Expr) bool {
	return a.Kind == b.Kind && a.Op == b.Op && a.Value == b.Value && a.Table == b.Table && a.Name == b.Name && a.Col == b.Col && a.Type == b.Type && slices.EqualFunc(a.Args, b.Args, exact)
}

// checkPlain holds Read against plainRead, and follows 13.4; it tells whether
// there was an expression.
func checkPlain(t *testing.T, l []api.Token, at int) bool {
	t.Helper()
	e, behind, err := Read(l, at)
	want, place, fault := plainRead(l, at)
	if fault != nil {
		f, ok := err.(*api.Fault)
		if !ok || *f != *fault || behind != 0 || !exact(e, api.Expr{}) {
			t.Fatalf("Read(%s, %d): %s, %d, %v, want %v", tell(l), at, dump(e), behind, err, fault)
		}
		return false
	}
	if err != nil || behind != place || !exact(e, want) {
		t.Fatalf("Read(%s, %d): %s, %d, %v, want %s, %d", tell(l), at, dump(e), behind, err, dump(want), place)
	}
	checkAgain(t, e)
	return true
}

// checkAgain: what was read is read again from its Print, and printed the same.
func checkAgain(t *testing.T, e api.Expr) {
	t.Helper()
	text := Print(e)
	if s, _ := plainPrint(e); s != text {
		t.Fatalf("Print(%s): %s, want %s", dump(e), text, s)
	}
	l := tokensOf(t, text)
	again, behind, err := Read(l, 0)
	if err != nil || behind != len(l) || !Same(e, again) || !exact(e, again) {
		t.Fatalf("%s, printed as %s: %s, %d, %v", dump(e), text, dump(again), behind, err)
	}
	if s := Print(again); s != text {
		t.Fatalf("%s is printed anew as %s", text, s)
	}
}

// 13.1, 13.4: all rows of few tokens, of the kinds that matter.
func TestAllShort(t *testing.T) {
	for _, of := range []struct {
		words string
		most  int
	}{
		{"a 1 ( ) , . * - = + || not is null and or count abs coalesce select", 4},
		{"a ( ) * - = not is null and count ,", 5},
		{"a ( ) = not and is null", 6},
		{"a ( ) - * = not", 6},
		{"coalesce abs count ( ) , * a", 6},
		{"a . count ( * )", 6},
	} {
		t.Run(of.words, func(t *testing.T) {
			t.Parallel()
			words := tokensOf(t, of.words)
			var l []api.Token
			var all func()
			all = func() {
				checkPlain(t, l, 0)
				if len(l) == of.most {
					return
				}
				for _, w := range words {
					w.At = 3 * len(l)
					l = append(l, w)
					all()
					l = l[:len(l)-1]
				}
			}
			all()
		})
	}
}

// chance makes expressions.
type chance struct{ *rand.Rand }

func (c chance) pick(words string) string {
	l := strings.Fields(words)
	return l[c.Intn(len(l))]
}

// text is an expression so deep at most, with brackets that it needs or not.
func (c chance) text(deep int) string {
	if deep == 0 {
		return c.pick("a b t.a count length.sum 1 0 42 'x' '' 'it''s' x'' X'0aFF' null true false count(*) _ 9223372036854775807")
	}
	less := func() string { return c.text(c.Intn(deep)) }
	switch c.Intn(9) {
	case 0:
		return "(" + less() + ")"
	case 1:
		return "not " + less()
	case 2:
		return "- " + less()
	case 3:
		return less() + []string{" is null", " is not null"}[c.Intn(2)]
	case 4:
		return c.pick("length abs upper lower count sum min max") + "(" + less() + ")"
	case 5:
		return "coalesce(" + less() + ", " + less() + ")"
	case 6:
		return "substr(" + less() + ", " + less() + ", " + less() + ")"
	}
	side := func() string {
		if c.Intn(3) == 0 {
			return "(" + less() + ")"
		}
		return less()
	}
	return side() + " " + c.pick("or and = <> < <= > >= || + - * / %") + " " + side()
}

// spoilt is a row of tokens in which some were changed.
func (c chance) spoilt(l []api.Token, others []api.Token) []api.Token {
	for range c.Intn(3) {
		i := c.Intn(len(l) + 1)
		switch other := others[c.Intn(len(others))]; {
		case c.Intn(3) == 0:
			l = slices.Insert(l, i, other)
		case i < len(l) && c.Intn(2) == 0:
			l[i] = other
		case i < len(l):
			l = slices.Delete(l, i, i+1)
		}
	}
	return l
}

// 13.1, 13.4: expressions by chance, whole and spoilt, from any place on.
func TestByChance(t *testing.T) {
	t.Parallel()
	c := chance{rand.New(rand.NewSource(13))}
	others := tokensOf(t, "a 1 'x' x'00' ( ( ) ) , . * - + / % || = < > <= >= <> ; not is null and or true count max abs coalesce substr length select from as tooooooooooooooooooooolong int")
	whole := 0
	for range 60000 {
		l := c.spoilt(tokensOf(t, c.text(c.Intn(6))), others)
		for i := range l {
			l[i].At = 2*i + c.Intn(2)
		}
		if checkPlain(t, l, c.Intn(len(l)+3)-1) {
			whole++
		}
		if checkPlain(t, l, 0) {
			whole++
		}
	}
	if whole < 30000 {
		t.Errorf("only %d were expressions", whole)
	}
}

// 13.1: nestings about the greatest one, of all kinds, by chance.
func TestDeepByChance(t *testing.T) {
	t.Parallel()
	c := chance{rand.New(rand.NewSource(32))}
	kinds := append(openings(), opening{"a or not ", "", 0}, opening{"1 = (", ")", 0}, opening{"b * - ", " + 1", 0}, opening{"coalesce(- - (not a), ", ")", 0}, opening{"(", ") and (b)", 0})
	others := tokensOf(t, "a ( ) - not abs ,")
	whole := 0
	for range 8000 {
		text := c.text(c.Intn(3))
		few := 1 + c.Intn(len(kinds))
		for range 24 + c.Intn(10) {
			o := kinds[c.Intn(few)]
			text = o.open + text + o.close
		}
		l := tokensOf(t, text)
		if c.Intn(4) == 0 {
			l = c.spoilt(l, others)
		}
		if checkPlain(t, l, 0) {
			whole++
		}
	}
	if whole < 1200 || whole > 6800 {
		t.Errorf("%d were expressions", whole)
	}
}

// expr is an expression of any shape, so deep at most, in which tokens that no
// text has do not stand.
func (c chance) expr(deep int) api.Expr {
	if deep == 0 {
		l, _ := lexer.Tokens(c.text(0))
		e, _, _ := Read(l, 0)
		return e
	}
	less := func() api.Expr { return c.expr(c.Intn(deep)) }
	switch c.Intn(8) {
	case 0:
		return of(api.EUnary, api.Neg, less())
	case 1:
		return of(api.EUnary, api.Not, less())
	case 2:
		return of(api.ENull, c.Intn(2), less())
	case 3:
		return of(api.ECall, 1+c.Intn(4), less())
	case 4:
		return of(api.EAgg, 1+c.Intn(4), less())
	}
	return of(api.EBin, api.Or+c.Intn(14), less(), less())
}

// 13.2, 13.4: expressions of any shape are printed so that they are read again,
// and each pair of brackets is needed.
func TestBracketsByChance(t *testing.T) {
	t.Parallel()
	c := chance{rand.New(rand.NewSource(2))}
	pairs := 0
	for range 30000 {
		e := c.expr(c.Intn(6))
		checkAgain(t, e)
		l := tokensOf(t, Print(e))
		var open []int
		for i, x := range l {
			switch {
			case x.Kind == api.TSymbol && x.Text == "(":
				open = append(open, i)
			case x.Kind == api.TSymbol && x.Text == ")":
				from := open[len(open)-1]
				open = open[:len(open)-1]
				if from > 0 && l[from-1].Kind == api.TWord && catalog.Name(l[from-1].Text) == api.OK {
					continue
				}
				pairs++
				without := slices.Concat(l[:from], l[from+1:i], l[i+1:])
				if other, behind, err := Read(without, 0); err == nil && behind == len(without) && exact(e, other) {
					t.Fatalf("%s does not need all its brackets: %s is the same", Print(e), tell(without))
				}
			}
		}
	}
	if pairs < 5000 {
		t.Errorf("only %d pairs of brackets", pairs)
	}
}

// 13.1, 13.4, R1: any text.
func FuzzRead(f *testing.F) {
	for _, s := range []string{"a + 2 * -b.c = 7 and not x is null", "(1 - (2 - 3)) = 4", "length(a, b)", "count(*)", "a = b = c", "substr(a, - 1, not b) is not null or x'00' || 'a'", "((((((((((((((((((((((((((((((((("} {
		f.Add(s, 0)
	}
	f.Fuzz(func(t *testing.T, s string, at int) {
		l, err := lexer.Tokens(s)
		if err != nil {
			return
		}
		checkPlain(t, l, at)
	})
}
