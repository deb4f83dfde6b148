package eval

import (
	"fmt"
	"testing"

	"quarry/api"
	"quarry/value"
)

// roomy is a list with some spare room, in which members lie as well.
func roomy[T any](l []T, spare ...T) []T {
	made := append(append([]T{}, l...), spare...)
	return made[:len(l)]
}

// roomyExpr is an expression whose lists have spare room.
func roomyExpr(e api.Expr) api.Expr {
	var args []api.Expr
	for _, a := range e.Args {
		args = append(args, roomyExpr(a))
	}
	e.Args = roomy(args, api.Expr{Kind: api.ECol, Name: "spare"}, api.Expr{Kind: api.EUnary, Op: api.Neg})
	return e
}

// whole is all that an expression holds, what lies in the spare room, too.
func whole(e api.Expr) string {
	args := e.Args[:cap(e.Args)]
	e.Args = nil
	text := fmt.Sprintf("%+v (", e)
	for _, a := range args {
		text += whole(a) + ","
	}
	return text + ")"
}

func wholeOf(e api.Expr, row []api.Value, known []Known) string {
	text := whole(e) + fmt.Sprint(row[:cap(row)])
	for _, k := range known[:cap(known)] {
		text += whole(k.Expr) + fmt.Sprint(k.Value)
	}
	return text
}

// R4: the expression, the row and the known ones stay as they are, what lies
// behind the ends of their lists, too; and nothing is kept.
func TestMemory(t *testing.T) {
	for text, want := range map[string]string{
		"7": "7", "a": "7", "- a": "-7", "not (a = 7 and b = 'x')": "FALSE", "a + length(b) * sum(a)": "47", "b || upper(b)": "'xX'", "coalesce(c, a)": "7", "coalesce(a, 1 / 0)": "7", "c is null and a > 0": "TRUE", "a < 0 and nope": "FALSE", "substr(b, a, a)": "''", "substr(b, - a, a * 2)": "'x'", "sum(a)": "40", "coalesce(c, c) is not null or a = 7": "TRUE",
		"a / 0": "error 41", "nope": "error 2", "max(a)": "error 36", "a + b": "error 35", "substr(b, a, nope)": "error 2", "a + sum(a) / 0": "error 41", "b || 1 / 0": "error 41",
	} {
		e := roomyExpr(ex(text))
		row := roomy(rowOf(intOf(7), textOf("x"), api.Value{}), intOf(98), textOf("spare"))
		known := roomy([]Known{{roomyExpr(ex("min(a)")), intOf(1)}, {roomyExpr(ex("sum(a)")), intOf(40)}}, Known{roomyExpr(ex("max(a)")), intOf(99)})
		was := wholeOf(e, row, known)
		for range 2 {
			hold(t, e, row, known, wantOf(want))
			if wholeOf(e, row, known) != was {
				t.Fatalf("%s: what was handed in has changed", text)
			}
		}
		// what it was handed the last time does not matter
		row[0], known[1].Value = intOf(0), intOf(-40)
		hold(t, ex("a + sum(a)"), row, known, outcome{v: intOf(-40)})
		hold(t, ex(text), row, nil, plain(ex(text), row, nil))
	}
}

// wild is an expression of anything.
func (c *chance) wild(deep int) api.Expr {
	number := func() int { return one(c, c.Intn(10)-1, c.Intn(19)-1, int(c.Uint64())) }
	e := api.Expr{Kind: c.Intn(9), Op: one(c, 0, number()), Value: c.wildValue(), Table: one(c, "", "t"), Name: one(c, "", "a", "'"), Col: number(), Type: number()}
	if e.Kind == 8 {
		e.Kind = number()
	}
	if deep > 0 {
		for range c.Intn(4) {
			e.Args = append(e.Args, c.wild(deep-1))
		}
	}
	return e
}

func (c *chance) wildValue() api.Value {
	return api.Value{Kind: c.Intn(7) - 1, Int: one(c, 0, 1, 2, -1, int64(c.Uint64())), Text: one(c, "", "x", "\x00")}
}

// R1, R2: of what is not right each call ends, and answers an error or a value.
func TestNotRight(t *testing.T) {
	t.Parallel()
	c := newChance(3, 2)
	told := map[api.Errno]int{}
	for n := range 50000 {
		e := c.wild(3)
		if n%2 == 0 {
			e = c.expr(c.typ(), 4, true)
		}
		var row []api.Value
		for range c.Intn(5) {
			row = append(row, c.wildValue())
		}
		known := c.known(e)
		for i := range known {
			known[i].Value = c.wildValue()
		}
		v, errno := Eval(e, row, known)
		if errno != api.OK && v != (api.Value{}) {
			t.Fatalf("%s over %s: %s beside the error %d", tell(e), show(row), show(v), errno)
		}
		told[errno]++
	}
	checkTally(t, told, 500, api.OK, api.ErrKind, api.ErrGroup, api.ErrRange)
}

// R1: expressions that are nested deep, and rows and known ones that are many.
func TestLarge(t *testing.T) {
	t.Parallel()
	const many = 1 << 16
	nested := func(inner api.Expr, around func(e api.Expr) api.Expr) api.Expr {
		for range many {
			inner = around(inner)
		}
		return inner
	}
	a, b, divide := ex("a"), ex("b"), ex("1 / 0")
	row := rowOf(intOf(1), boolOf(1), api.Value{})
	known := []Known{{ex("count(*)"), intOf(5)}}
	for _, inner := range []struct {
		e    api.Expr
		want outcome
	}{{a, outcome{v: intOf(many + 1)}}, {divide, outcome{e: api.ErrDivide}}, {api.Expr{}, outcome{e: api.ErrKind}}, {ex("count(*)"), outcome{v: intOf(many + 5)}}} {
		hold(t, nested(inner.e, func(e api.Expr) api.Expr { return with(api.EBin, api.Add, e, a) }), row, known, inner.want)
		hold(t, nested(inner.e, func(e api.Expr) api.Expr { return with(api.EBin, api.Add, a, e) }), row, known, inner.want)
	}
	hold(t, nested(a, func(e api.Expr) api.Expr { return with(api.EUnary, api.Neg, e) }), row, nil, outcome{v: intOf(1)})
	hold(t, nested(b, func(e api.Expr) api.Expr { return with(api.EUnary, api.Not, e) }), row, known, outcome{v: boolOf(1)})
	hold(t, nested(divide, func(e api.Expr) api.Expr { return with(api.ENull, 0, e) }), row, nil, outcome{e: api.ErrDivide})
	hold(t, nested(b, func(e api.Expr) api.Expr { return with(api.EBin, api.And, b, e) }), row, nil, outcome{v: boolOf(1)})
	hold(t, nested(b, func(e api.Expr) api.Expr { return with(api.EBin, api.Or, e, divide) }), row, nil, outcome{v: boolOf(1)})
	hold(t, nested(a, func(e api.Expr) api.Expr { return with(api.ECall, api.Coalesce, e, divide) }), row, nil, outcome{v: intOf(1)})
	hold(t, nested(divide, func(e api.Expr) api.Expr { return with(api.ECall, api.Coalesce, ex("c"), e) }), row, nil, outcome{e: api.ErrDivide})
	hold(t, nested(a, func(e api.Expr) api.Expr { return with(api.ECall, api.Abs, e) }), row, nil, outcome{v: intOf(1)})
	hold(t, nested(a, func(e api.Expr) api.Expr { return with(api.EAgg, api.Sum, e) }), row, nil, outcome{e: api.ErrGroup})
	hold(t, nested(a, func(e api.Expr) api.Expr { return with(99, 0, e) }), row, nil, outcome{e: api.ErrKind})

	long := nested(a, func(e api.Expr) api.Expr { return with(api.EBin, api.Add, e, a) })
	hold(t, with(api.EUnary, api.Neg, long), nil, []Known{{long, intOf(7)}}, outcome{v: intOf(-7)})
	wide, all := make([]api.Value, many), make([]Known, many)
	for i := range many {
		wide[i] = intOf(int64(i))
		all[i] = Known{api.Expr{Kind: api.ELit, Value: wide[i]}, intOf(int64(2 * i))}
	}
	hold(t, api.Expr{Kind: api.ECol, Name: "n", Col: many - 1}, wide, nil, outcome{v: wide[many-1]})
	hold(t, api.Expr{Kind: api.ECol, Name: "n", Col: many}, wide, nil, outcome{e: api.ErrRange})
	hold(t, all[many-1].Expr, nil, all, outcome{v: intOf(2*many - 2)})
	hold(t, api.Expr{Kind: api.EBin, Op: api.Add, Args: make([]api.Expr, many)}, nil, nil, outcome{e: api.ErrKind})
	text := api.Value{Kind: api.Text, Text: fmt.Sprintf("%01000000d", 0)}
	if value.Check(text) != api.OK {
		t.Fatal("a long text is not right")
	}
	hold(t, api.Expr{Kind: api.ELit, Value: text}, nil, nil, outcome{v: text})
	hold(t, with(api.ECall, api.Length, a), []api.Value{text}, nil, outcome{v: intOf(1000000)})
	hold(t, with(api.EBin, api.Cat, ex("''"), a), []api.Value{text}, nil, outcome{e: api.ErrLong})
}
