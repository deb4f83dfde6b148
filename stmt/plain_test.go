package stmt

import (
	"slices"
	"strconv"
	"strings"
	"testing"

	"quarry/api"
	"quarry/catalog"
	"quarry/expr"
	"quarry/lexer"
)

// The chapter's grammar, where what stands between ' and ' is a symbol, a list
// has its most behind its name, and < > bind together.
const grammar = `
text    = stmt [ ';' ]
stmt    = select | insert | update | delete | create | drop | BEGIN | COMMIT | ROLLBACK [ TO name ] | SAVEPOINT name | RELEASE name
select  = SELECT [ DISTINCT ] item {32 ',' item } [ FROM table {4 ',' table | JOIN table ON or } ] [ WHERE or ] [ GROUP BY or {32 ',' or } ] [ HAVING or ] [ ORDER BY or [ ASC | DESC ] {32 ',' or [ ASC | DESC ] } ] [ LIMIT int [ OFFSET int ] ]
item    = '*' | or
table   = name [ AS name ]
insert  = INSERT INTO name [ '(' name {32 ',' name } ')' ] VALUES values {32 ',' values }
values  = '(' or {32 ',' or } ')'
update  = UPDATE name SET name '=' or {32 ',' name '=' or } [ WHERE or ]
delete  = DELETE FROM name [ WHERE or ]
create  = CREATE TABLE name '(' column {32 ',' column } ')' | CREATE [ UNIQUE ] INDEX name ON name '(' name [ ASC | DESC ] {32 ',' name [ ASC | DESC ] } ')'
column  = name < INT | TEXT | BLOB | BOOL > [ NOT NULL ]
drop    = DROP TABLE name | DROP INDEX name
`

// rule is a part of the grammar: one of some, all of some in a row, or a word.
type rule struct {
	word      string
	oneOf     []*rule
	row       []*rule
	may, many bool
	most      int // members of a list, of which the first stands ahead
}

// rulesOf reads the grammar.
func rulesOf(text string) map[string]*rule {
	rules := map[string]*rule{}
	for _, line := range strings.Split(strings.TrimSpace(text), "\n") {
		words := strings.Fields(line)
		at := 2
		rules[words[0]] = choice(words, &at)
		if words[1] != "=" || at != len(words) {
			panic(line)
		}
	}
	return rules
}

func choice(words []string, at *int) *rule {
	r := &rule{oneOf: []*rule{{}}}
	for ; *at < len(words); *at++ {
		word := words[*at]
		last := r.oneOf[len(r.oneOf)-1]
		switch word[0] {
		case '|':
			r.oneOf = append(r.oneOf, &rule{})
		case ']', '}', '>':
			return r
		case '[', '{', '<':
			*at++
			inner := choice(words, at)
			inner.may, inner.many = word == "[", word[0] == '{'
			if inner.many {
				inner.most, _ = strconv.Atoi(word[1:])
			}
			last.row = append(last.row, inner)
		default:
			last.row = append(last.row, &rule{word: word})
		}
	}
	return r
}

// plain goes every way through the grammar at once, and keeps in mind the
// furthest place at which a token did not fit.
type plain struct {
	rules map[string]*rule
	l     []api.Token
	at    int
	err   api.Errno
}

func (p *plain) placeOf(i int) int {
	if i < len(p.l) {
		return p.l[i].At
	}
	return endOf(p.l)
}

func (p *plain) wrong(at int, e api.Errno) {
	if at > p.at || at == p.at && p.err == api.ErrSyntax {
		p.at, p.err = at, e
	}
}

// ends are all places behind what a rule may be from that place on.
func (p *plain) ends(r *rule, i int) []int {
	var ends []int
	switch {
	case r.word != "":
		return p.endsOfWord(r.word, i)
	case r.row != nil:
		ends = []int{i}
		for _, part := range r.row {
			var next []int
			for _, end := range ends {
				next = append(next, p.ends(part, end)...)
			}
			ends = unique(next)
		}
		return ends
	case r.many:
		return p.endsOfMany(r, i)
	}
	if r.may {
		ends = append(ends, i)
	}
	for _, one := range r.oneOf {
		ends = append(ends, p.ends(one, i)...)
	}
	return unique(ends)
}

func unique(l []int) []int {
	slices.Sort(l)
	return slices.Compact(l)
}

// endsOfMany goes through the members that may follow the first one. What comes
// behind the most is tried as to its first token alone: it is too many where
// that token fits, and ended the text.
func (p *plain) endsOfMany(r *rule, i int) []int {
	all, ends := []int{i}, []int{i}
	for members := 1; len(ends) > 0; members++ {
		var next []int
		for _, end := range ends {
			if members < r.most {
				for _, one := range r.oneOf {
					next = append(next, p.ends(one, end)...)
				}
				continue
			}
			p.tooMany(r, end)
		}
		ends = unique(next)
		all = append(all, ends...)
	}
	return unique(all)
}

func (p *plain) tooMany(r *rule, end int) {
	for _, one := range r.oneOf {
		for _, first := range p.ends(one.row[0], end) { // a comma, or JOIN
			short := &plain{rules: p.rules, l: p.l[:min(first+1, len(p.l))], at: -1}
			if got := short.ends(&rule{row: one.row[1:]}, first); first < len(p.l) && (len(got) > 0 || short.at > p.placeOf(first)) {
				p.wrong(p.placeOf(first), api.ErrLong)
				continue
			}
			p.wrong(p.placeOf(first), api.ErrSyntax)
		}
	}
}

func (p *plain) endsOfWord(word string, i int) []int {
	if r := p.rules[word]; r != nil {
		return p.ends(r, i)
	}
	var t api.Token
	if i < len(p.l) {
		t = p.l[i]
	}
	fits := false
	switch {
	case word == "or":
		return p.endsOfExpression(i)
	case word == "name":
		fits = t.Kind == api.TWord && catalog.Name(t.Text) == api.OK
	case word == "int":
		fits = t.Kind == api.TInt
		if fits && t.Int >= 1<<31 {
			p.wrong(p.placeOf(i), api.ErrLong)
			return nil
		}
	case word[0] == '\'':
		fits = t.Kind == api.TSymbol && t.Text == strings.Trim(word, "'")
	default:
		fits = t.Kind == api.TWord && t.Text == strings.ToLower(word)
	}
	if !fits {
		p.wrong(p.placeOf(i), api.ErrSyntax)
		return nil
	}
	return []int{i + 1}
}

func (p *plain) endsOfExpression(i int) []int {
	if i >= len(p.l) {
		p.wrong(p.placeOf(i), api.ErrSyntax)
		return nil
	}
	_, behind, err := expr.Read(p.l, i)
	if err != nil {
		f := err.(*api.Fault)
		p.wrong(f.At, f.Err.(api.Errno))
		return nil
	}
	return []int{behind}
}

// fault is what is wrong with tokens by the grammar, or nil.
func fault(rules map[string]*rule, l []api.Token) *api.Fault {
	p := &plain{rules: rules, l: l, at: -1}
	for _, end := range p.ends(rules["text"], 0) {
		if end == len(l) {
			return nil
		}
		p.wrong(p.placeOf(end), api.ErrSyntax)
	}
	return &api.Fault{At: p.at, Err: p.err}
}

// checkPlain holds what Parse answers against the grammar; it tells whether the
// text is a statement, and the place of the fault.
func checkPlain(t *testing.T, rules map[string]*rule, text string) (bool, int) {
	t.Helper()
	l, err := lexer.Tokens(text)
	if err != nil {
		checkFault(t, text, err.(*api.Fault).At, err.(*api.Fault).Err.(api.Errno))
		return false, 0
	}
	f := fault(rules, l)
	if f == nil {
		s, err := Parse(text)
		if err != nil {
			t.Errorf("Parse(%q): %v", short(text), err)
		}
		checkAgain(t, s)
		return true, 0
	}
	checkFault(t, text, f.At, f.Err.(api.Errno))
	return false, f.At
}

// 14.1: all rows of few tokens, at the beginning and further on in statements, as
// far as they may go on.
func TestAllShort(t *testing.T) {
	t.Parallel()
	rules := rulesOf(grammar)
	words := slices.Concat(keywords, strings.Fields("= || ( ) , . * - ;"), []string{"a", "count", "1", "2147483648", "'x'"})
	texts := 0
	var goOn func(text string, left int)
	goOn = func(text string, left int) {
		for _, word := range words {
			longer := text + " " + word
			whole, at := checkPlain(t, rules, longer)
			texts++
			if left > 1 && !t.Failed() && (whole || at > len(longer)-len(word)) {
				goOn(longer, left-1)
			}
		}
	}
	goOn("", 5)
	for _, text := range wholes() {
		beginnings(text, func(beginning string, whole bool) { goOn(beginning, 2) })
	}
	if texts < 100000 {
		t.Errorf("just %d texts", texts)
	}
	t.Logf("%d texts", texts)
}

// FuzzParse: R1, 14.1, 14.3: any text.
func FuzzParse(f *testing.F) {
	for _, text := range wholes() {
		f.Add(strings.ReplaceAll(text, "|", ""))
	}
	for _, l := range lists() {
		f.Add(l.up(l.most) + l.between + l.member + l.behind)
		f.Add(l.up(l.most) + l.between)
	}
	for _, text := range []string{"", ";", "select ?", "selec 1", "select " + strings.Repeat("(", 33), "select 1 limit 2147483648", "drop drop", "update t set a = 1,", "create unique table t (a int)"} {
		f.Add(text)
	}
	rules := rulesOf(grammar)
	f.Fuzz(func(t *testing.T, text string) {
		checkPlain(t, rules, text)
	})
}
