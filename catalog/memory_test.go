package catalog

import (
	"fmt"
	"slices"
	"testing"

	"quarry/api"
)

// roomy is a schema whose lists all have spare room, in which something lies.
func roomy(s api.Schema) api.Schema {
	made := api.Schema{Tables: spare(s.Tables, api.Table{Name: "spare", Id: 900}), Indexes: spare(s.Indexes, api.Index{Name: "spare", Id: 901})}
	for i := range made.Tables {
		made.Tables[i].Cols = spare(made.Tables[i].Cols, col("spare", 77))
	}
	for i := range made.Indexes {
		made.Indexes[i].Cols = spare(made.Indexes[i].Cols, 78)
		made.Indexes[i].Desc = spare(made.Indexes[i].Desc, true)
	}
	return made
}

func spare[T any](l []T, filler T) []T {
	return append(slices.Clone(l), filler, filler, filler)[:len(l)]
}

// whole is a list with its spare room.
func whole[T any](l []T) []T { return l[:cap(l)] }

// tellWhole is all that lies in a schema's lists, and behind their ends.
func tellWhole(s api.Schema) string {
	made := fmt.Sprintf("%+v %+v", whole(s.Tables), whole(s.Indexes))
	for _, t := range s.Tables {
		made += fmt.Sprintf(" %+v", whole(t.Cols))
	}
	for _, x := range s.Indexes {
		made += fmt.Sprintf(" %v %v", whole(x.Cols), whole(x.Desc))
	}
	return made
}

// scribbles is, of each list that a caller may change, how it is changed, spare room and all.
func scribbles(s api.Schema) []func() {
	l := []func(){
		func() { fill(s.Tables, api.Table{Name: "scribble"}) },
		func() { fill(s.Indexes, api.Index{Name: "scribble"}) },
	}
	for _, t := range s.Tables {
		l = append(l, func() { fill(t.Cols, col("scribble", 66)) })
	}
	for _, x := range s.Indexes {
		l = append(l, func() { fill(x.Cols, 67) }, func() { fill(x.Desc, true) }, func() { fill(x.Desc, false) })
	}
	return l
}

func fill[T any](l []T, with T) {
	l = whole(l)
	for i := range l {
		l[i] = with
	}
}

// calls is every call that makes a schema of one, with what it is given beside it.
func calls() map[string]func(s api.Schema) api.Schema {
	return map[string]func(s api.Schema) api.Schema{
		"AddTable": func(s api.Schema) api.Schema {
			made, _ := AddTable(s, "new", spare([]api.Column{col("a", api.Int)}, col("spare", 7)))
			return made
		},
		"AddIndex": func(s api.Schema) api.Schema {
			made, _ := AddIndex(s, index(0, "new", "t", 1, -1))
			return made
		},
		"DropTable": func(s api.Schema) api.Schema {
			made, _, _ := DropTable(s, "u")
			return made
		},
		"the first table": func(s api.Schema) api.Schema {
			made, _, _ := DropTable(s, "t")
			return made
		},
		"DropIndex": func(s api.Schema) api.Schema {
			made, _, _ := DropIndex(s, "j")
			return made
		},
		"Table": func(s api.Schema) api.Schema {
			made, _ := Table(s, "u")
			return schema(tables(made))
		},
		"Indexes": func(s api.Schema) api.Schema { return schema(nil, Indexes(s, "u")...) },
	}
}

// R4: what is handed in is not changed, not even behind the ends of its lists; what
// is answered shares nothing with it, with another answer, nor with itself.
func TestMemory(t *testing.T) {
	for name, call := range calls() {
		t.Run(name, func(t *testing.T) {
			given := roomy(some())
			was := tellWhole(given)
			answer, other := call(given), call(given)
			if tellWhole(given) != was {
				t.Fatalf("%s has become %s", was, tellWhole(given))
			}
			told := tell(answer)
			if tell(other) != told {
				t.Fatalf("%s, and then %s", told, tell(other))
			}
			for i := range scribbles(answer) {
				one := call(given)
				scribbles(one)[i]()
				if tellWhole(given) != was || tell(answer) != told {
					t.Fatalf("list %d of an answer is shared", i)
				}
			}
			for i := range scribbles(given) {
				one := roomy(some())
				answer := call(one)
				scribbles(one)[i]()
				if tell(answer) != told {
					t.Fatalf("list %d of what was handed in is shared", i)
				}
			}
			alone(t, call, given)
		})
	}
}

// alone: no two lists of one answer share memory.
func alone(t *testing.T, call func(s api.Schema) api.Schema, given api.Schema) {
	t.Helper()
	lists := func(s api.Schema) []string {
		var l []string
		for _, one := range s.Tables {
			l = append(l, fmt.Sprint(one.Cols))
		}
		for _, x := range s.Indexes {
			l = append(l, fmt.Sprint(x.Cols), fmt.Sprint(x.Desc))
		}
		return l
	}
	want := lists(call(given))
	for i := range scribbles(call(given)) {
		if i < 2 { // the tables and indexes themselves
			continue
		}
		answer := call(given)
		scribbles(answer)[i]()
		changed := 0
		for k, l := range lists(answer) {
			if l != want[k] {
				changed++
			}
		}
		if changed > 1 {
			t.Fatalf("list %d is shared: %s", i, tell(answer))
		}
	}
}

// R4: the columns of AddTable and the lists of AddIndex are neither changed nor kept.
func TestMemoryOfArguments(t *testing.T) {
	cols := spare([]api.Column{col("a", api.Int), col("b", api.Text)}, col("spare", 7))
	was := fmt.Sprint(whole(cols))
	s, _ := AddTable(api.Schema{}, "t", cols)
	if fmt.Sprint(whole(cols)) != was {
		t.Errorf("the columns have become %v", whole(cols))
	}
	told := tell(s)
	fill(cols, col("scribble", 8))
	if tell(s) != told {
		t.Errorf("the columns are kept: %s", tell(s))
	}
	x := index(9, "i", "t", 1, -1)
	x.Cols, x.Desc = spare(x.Cols, 50), spare(x.Desc, true)
	was = fmt.Sprint(x, whole(x.Cols), whole(x.Desc))
	s, _ = AddIndex(s, x)
	if fmt.Sprint(x, whole(x.Cols), whole(x.Desc)) != was {
		t.Errorf("the index has become %v", x)
	}
	told = tell(s)
	fill(x.Cols, 5)
	fill(x.Desc, false)
	if tell(s) != told {
		t.Errorf("the index is kept: %s", tell(s))
	}
	_, ids, _ := DropTable(s, "t")
	fill(ids, 99)
	if tell(s) != told {
		t.Errorf("the Ids are shared: %s", tell(s))
	}
}

// R4: Save neither changes nor keeps a schema; what Load answers is the caller's.
func TestMemoryOfSaveAndLoad(t *testing.T) {
	w := fresh(t, 300)
	given := roomy(some())
	was := tellWhole(given)
	root := w.save(t, 0, given)
	if tellWhole(given) != was {
		t.Errorf("%s has become %s", was, tellWhole(given))
	}
	for _, scribble := range scribbles(given) {
		scribble()
	}
	w.checkLoad(t, root, some())
	load := func(api.Schema) api.Schema {
		s, _ := Load(w.s, w.p, root)
		return s
	}
	for i := range scribbles(some()) {
		scribbles(load(given))[i]()
		w.checkLoad(t, root, some())
	}
	alone(t, load, given)
}
