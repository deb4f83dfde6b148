package catalog

import (
	"fmt"
	"math"
	"slices"
	"strings"
	"testing"

	"quarry/api"
)

// 11.1: right names, and all reasons why a text is none.
func TestName(t *testing.T) {
	right := []string{"a", "z", "_", "t", "a_1", "a1", "_0", "__", "z9", "selec", "selects", "select_", "_select", "tables", "table1", "sum", "count", "length", "key", "a23456789012345678901234", strings.Repeat("x", 24), strings.Repeat("_", 24), "z" + strings.Repeat("9", 23)}
	wrong := []string{"", "0", "9", "1a", "0_", "9abc", "A", "Z", "aB", "Select", "SELECT", " ", "a ", " a", "a b", "-", "a-b", "a.b", "a'", "\"a\"", "a\x00", "\x00", "a\n", "a\xff", "\x80", "é", "aé", "ａ", "a`", "a{", "`", "{", "@", "[", "/", ":", "a/", "a:", "^", strings.Repeat("x", 25), strings.Repeat("_", 25), strings.Repeat("a", 1000), strings.Repeat("a", 1<<20)}
	for _, s := range right {
		if e := Name(s); e != api.OK {
			t.Errorf("Name(%q): error %d", s, e)
		}
	}
	for _, s := range append(wrong, strings.Fields(keywords)...) {
		if e := Name(s); e != api.ErrField {
			t.Errorf("Name of %.30q, of %d bytes: error %d, want %d", s, len(s), e, api.ErrField)
		}
	}
	for c := range 256 {
		for _, s := range []string{string([]byte{byte(c)}), string([]byte{'a', byte(c)}), string([]byte{'a', byte(c), 'b'}), strings.Repeat("a", 23) + string([]byte{byte(c)})} {
			if e := Name(s); (e == api.OK) != isRightName(s) || e != api.OK && e != api.ErrField {
				t.Errorf("Name(%q): error %d", s, e)
			}
		}
	}
}

// 11.1: Table and Indexes of schemas with several of each, and of none.
func TestLookup(t *testing.T) {
	s := some()
	for _, of := range s.Tables {
		if got, ok := Table(s, of.Name); !ok || fmt.Sprint(got) != fmt.Sprint(of) {
			t.Errorf("Table(%s): %v, %t, want %v", of.Name, got, ok, of)
		}
	}
	for _, name := range []string{"", "i", "T", "t ", "no", "no_index_", "j"} {
		if got, ok := Table(s, name); ok || fmt.Sprint(got) != fmt.Sprint(api.Table{}) {
			t.Errorf("Table(%q): %v, %t", name, got, ok)
		}
	}
	if got, ok := Table(api.Schema{}, "t"); ok || got.Id != 0 || got.Name != "" || got.Cols != nil {
		t.Errorf("Table of nothing: %v, %t", got, ok)
	}
	for name, want := range map[string][]api.Index{
		"t": {s.Indexes[0], s.Indexes[2]}, "u": {s.Indexes[1], s.Indexes[3]}, "no_index": nil, "": nil, "i": nil, "k": nil, "T": nil,
	} {
		if got := Indexes(s, name); fmt.Sprint(got) != fmt.Sprint(want) {
			t.Errorf("Indexes(%q): %v, want %v", name, got, want)
		}
	}
	if got := Indexes(api.Schema{}, "t"); len(got) != 0 {
		t.Errorf("Indexes of nothing: %v", got)
	}
}

// 11.1: of schemas that are not right: the first table counts, and the indexes of a
// table that is not there are told all the same.
func TestLookupNotRight(t *testing.T) {
	s := schema(tables(table(4, "t", col("a", 1)), table(2, "t"), table(-7, "", col("", 99))), index(1, "", "gone", 70, -70), index(1, "i", "t"), index(0, "i", "gone"))
	if got, ok := Table(s, "t"); !ok || got.Id != 4 || len(got.Cols) != 1 {
		t.Errorf("Table(t): %v, %t", got, ok)
	}
	if got, ok := Table(s, ""); !ok || got.Id != -7 || got.Cols[0].Type != 99 {
		t.Errorf("Table of no name: %v, %t", got, ok)
	}
	if got, want := Indexes(s, "gone"), []api.Index{s.Indexes[0], s.Indexes[2]}; fmt.Sprint(got) != fmt.Sprint(want) {
		t.Errorf("Indexes(gone): %v, want %v", got, want)
	}
}

func checkAddTable(t *testing.T, s api.Schema, name string, cols []api.Column, want api.Errno) api.Schema {
	t.Helper()
	made, e := AddTable(s, name, cols)
	if e != want || e != api.OK && (made.Tables != nil || made.Indexes != nil) {
		t.Errorf("AddTable(%s, %q, %v): %s, error %d, want %d", tell(s), name, cols, tell(made), e, want)
	}
	return made
}

// fault is an argument, and the error for which it stands alone.
type fault[T any] struct {
	given T
	e     api.Errno
}

// first is the first error of some.
func first(l ...api.Errno) api.Errno {
	for _, e := range l {
		if e != api.OK {
			return e
		}
	}
	return api.OK
}

func columnLists() []fault[[]api.Column] {
	many := wide(0, "", 16).Cols
	type l = []api.Column
	return []fault[l]{
		{l{col("a", api.Bool)}, api.OK}, {l{col("a", api.Int), needed("b", api.Text), col("c", api.Blob)}, api.OK}, {many, api.OK}, {l{col("t", api.Int), col("u", api.Int)}, api.OK},
		{nil, api.ErrCount}, {l{}, api.ErrCount}, {append(slices.Clone(many), col("a", api.Int)), api.ErrCount}, {make(l, 17), api.ErrCount}, {make(l, 5000), api.ErrCount},
		{l{col("", api.Int)}, api.ErrField}, {l{col("A", api.Int)}, api.ErrField}, {l{col("a", api.Int), col("int", api.Int)}, api.ErrField}, {l{col("1", 0)}, api.ErrField}, {l{col(strings.Repeat("a", 25), api.Int)}, api.ErrField},
		{l{col("a", api.Int), col("a", api.Int)}, api.ErrExists}, {l{col("a", api.Int), col("b", api.Int), col("a", api.Text)}, api.ErrExists}, {append(slices.Clone(many[:15]), many[0]), api.ErrExists},
		{l{col("a", api.Null)}, api.ErrType}, {l{col("a", 5)}, api.ErrType}, {l{col("a", -1)}, api.ErrType}, {l{col("a", math.MaxInt)}, api.ErrType}, {l{col("a", math.MinInt)}, api.ErrType}, {l{col("a", api.Int), col("b", 258)}, api.ErrType},
		// several faults: those of one column in their order, the columns in theirs
		{l{col("", api.Int), col("", api.Int)}, api.ErrField}, {l{col("a", api.Int), col("a", 9)}, api.ErrExists}, {l{col("a", 9), col("a", api.Int)}, api.ErrType}, {l{col("a", 9), col("", api.Int)}, api.ErrType},
		{l{col("A", 9)}, api.ErrField}, {l{col("a", api.Int), col("a", api.Int), col("", 9)}, api.ErrExists}, {l{col("a", api.Int), col("", 9), col("a", api.Int)}, api.ErrField}, {l{col("b", api.Int), col("a", 0), col("b", 0)}, api.ErrType},
	}
}

// schemas is right schemas that have a table t, with the error that each of them
// has for a table more, and for an index more.
func schemas() []struct {
	s             api.Schema
	table, index  api.Errno
	next, columns int
} {
	last := some()
	last.Indexes[1].Id = math.MaxInt32
	lastTable := numbered(32, 32)
	lastTable.Tables[5].Id = math.MaxInt32
	named := func(s api.Schema) api.Schema {
		s.Tables[0].Name = "t"
		for i := range s.Indexes {
			s.Indexes[i].Table = "t"
		}
		return s
	}
	belowLast := named(numbered(2, 1))
	belowLast.Indexes[0].Id = math.MaxInt32 - 1
	return []struct {
		s             api.Schema
		table, index  api.Errno
		next, columns int
	}{
		{schema(tables(table(1, "t", col("a", api.Int)))), api.OK, api.OK, 2, 1},
		{some(), api.OK, api.OK, 301, 2},
		{named(numbered(31, 31)), api.OK, api.OK, 63, 1},
		{named(numbered(32, 31)), api.ErrLong, api.OK, 64, 1},
		{named(numbered(31, 32)), api.OK, api.ErrLong, 64, 1},
		{named(numbered(32, 32)), api.ErrLong, api.ErrLong, 0, 1},
		{last, api.ErrLong, api.ErrLong, 0, 2},
		{named(lastTable), api.ErrLong, api.ErrLong, 0, 1},
		{belowLast, api.OK, api.OK, math.MaxInt32, 1},
	}
}

// 11.2: every error of AddTable, alone and together with those that come behind it,
// and the tables that are added.
func TestAddTable(t *testing.T) {
	names := []fault[string]{{"new", api.OK}, {"i", api.OK}, {"i0", api.OK}, {"", api.ErrField}, {"values", api.ErrField}, {"New", api.ErrField}, {strings.Repeat("n", 25), api.ErrField}, {"t", api.ErrExists}}
	for _, s := range schemas() {
		if !isRight(s.s) {
			t.Fatalf("%s is not right", tell(s.s))
		}
		for _, name := range names {
			for _, cols := range columnLists() {
				was := tell(s.s)
				want := first(name.e, cols.e, s.table)
				made := checkAddTable(t, s.s, name.given, cols.given, want)
				if tell(s.s) != was {
					t.Fatalf("AddTable has changed %s to %s", was, tell(s.s))
				}
				if want != api.OK {
					continue
				}
				grown := copyOf(s.s)
				grown.Tables = append(grown.Tables, table(s.next, name.given, cols.given...))
				if tell(made) != tell(grown) || !isRight(made) {
					t.Errorf("AddTable(%s, %q): %s", was, name.given, tell(made))
				}
			}
		}
	}
}

func indexes() []fault[api.Index] {
	x := func(places ...int) api.Index { return index(0, "", "", places...) }
	without := func(x api.Index, desc ...bool) api.Index {
		x.Desc = desc
		return x
	}
	from0 := []int{0, 1, 2, 3, 4, 5, 6, 7, 8, 9, 10, 11, 12, 13, 14, 15}
	return []fault[api.Index]{
		{x(0), api.OK}, {x(-1), api.OK}, {unique(x(0)), api.OK},
		{x(), api.ErrCount}, {without(x(), false), api.ErrCount}, {x(append(from0, 16)...), api.ErrCount}, {x(make([]int, 17)...), api.ErrCount}, {x(make([]int, 4000)...), api.ErrCount},
		{without(x(0)), api.ErrCount}, {without(x(0), true, false), api.ErrCount}, {without(x(0, 0), true), api.ErrCount}, {without(x(from0...), make([]bool, 15)...), api.ErrCount}, {without(x(from0...), make([]bool, 17)...), api.ErrCount}, {without(x(99)), api.ErrCount},
		{x(2), api.ErrColumn}, {x(0, 0), api.ErrColumn}, {x(0, -1), api.ErrColumn}, {x(0, 2), api.ErrColumn}, {x(0, 1, 0), api.ErrColumn}, {x(2, 0), api.ErrColumn}, {x(make([]int, 16)...), api.ErrColumn}, {x(from0...), api.ErrColumn}, {x(math.MaxInt), api.ErrColumn},
		{without(api.Index{Cols: []int{-1}}, false), api.ErrColumn}, {without(api.Index{Cols: []int{math.MinInt}}, false), api.ErrColumn}, {without(api.Index{Cols: []int{0, -1}}, false, true), api.ErrColumn},
	}
}

// 11.3: every error of AddIndex, alone and together with those that come behind it,
// and the indexes that are added.
func TestAddIndex(t *testing.T) {
	t.Parallel()
	names := []fault[string]{{"new", api.OK}, {"t", api.OK}, {"", api.ErrField}, {"index", api.ErrField}, {"2", api.ErrField}, {strings.Repeat("n", 25), api.ErrField}}
	for _, s := range schemas() {
		names := slices.Clone(names)
		if len(s.s.Indexes) > 0 {
			names = slices.DeleteFunc(names, func(f fault[string]) bool { return f.given == "t" })
			for _, x := range s.s.Indexes {
				names = append(names, fault[string]{x.Name, api.ErrExists})
			}
		}
		for _, name := range names {
			for _, of := range []fault[string]{{"t", api.OK}, {"", api.ErrTable}, {"gone", api.ErrTable}, {"i", api.ErrTable}, {"T", api.ErrTable}} {
				for _, x := range indexes() {
					given, was := x.given, tell(s.s)
					given.Id, given.Name, given.Table = len(was)-900, name.given, of.given
					want := first(name.e, x.e, s.index)
					if name.e != api.ErrField { // that of the table stands between those of the name
						want = first(of.e, name.e, x.e, s.index)
					}
					made, e := AddIndex(s.s, given)
					if e != want || e != api.OK && (made.Tables != nil || made.Indexes != nil) {
						t.Errorf("AddIndex(%s, %+v): %s, error %d, want %d", was, given, tell(made), e, want)
					}
					if tell(s.s) != was {
						t.Fatalf("AddIndex has changed %s to %s", was, tell(s.s))
					}
					if want != api.OK {
						continue
					}
					given.Id = s.next
					grown := copyOf(s.s)
					grown.Indexes = append(grown.Indexes, given)
					if tell(made) != tell(grown) || !isRight(made) {
						t.Errorf("AddIndex(%s): %s", was, tell(made))
					}
				}
			}
		}
	}
}

// 11.3: places up to the last column, and 16 of them.
func TestAddIndexPlaces(t *testing.T) {
	s := schema(tables(wide(1, "w", 16), wide(2, "three", 3)))
	for _, c := range []struct {
		of     string
		places []int
		e      api.Errno
	}{
		{"w", []int{15}, api.OK}, {"w", []int{16}, api.ErrColumn}, {"w", []int{15, -15, 13, 12, -12, 10, 9, 8, 7, 6, 5, 4, 3, 2, 1, 0}, api.OK}, {"w", []int{15, 14, 13, 12, 11, 10, 9, 8, 7, 6, 5, 4, 3, 2, 1, -2}, api.ErrColumn},
		{"three", []int{2}, api.OK}, {"three", []int{3}, api.ErrColumn}, {"three", []int{2, 1, 0}, api.OK}, {"three", []int{0, 1, 2, 3}, api.ErrColumn},
	} {
		made, e := AddIndex(s, index(77, "x", c.of, c.places...))
		if e != c.e {
			t.Errorf("AddIndex of %s %v: error %d, want %d", c.of, c.places, e, c.e)
		}
		if e == api.OK && fmt.Sprint(made.Indexes) != fmt.Sprint([]api.Index{index(3, "x", c.of, c.places...)}) {
			t.Errorf("AddIndex of %s %v: %+v", c.of, c.places, made.Indexes)
		}
	}
}

// 11.2: the next Id of the empty schema, behind gaps and behind what was dropped.
func TestNextId(t *testing.T) {
	one := []api.Column{col("a", api.Int)}
	s := checkAddTable(t, api.Schema{}, "t", one, api.OK)
	s = checkAddTable(t, s, "u", one, api.OK)
	s, _ = AddIndex(s, index(50, "i", "u", 0))
	if tell(s) != tell(schema(tables(table(1, "t", one...), table(2, "u", one...)), index(3, "i", "u", 0))) {
		t.Fatalf("three: %s", tell(s))
	}
	s, _, _ = DropTable(s, "t")
	s = checkAddTable(t, s, "t", one, api.OK)
	if s.Tables[1].Id != 4 {
		t.Errorf("behind a gap: %s", tell(s))
	}
	s, _, _ = DropTable(s, "t")
	s = checkAddTable(t, s, "v", one, api.OK)
	if s.Tables[1].Id != 4 {
		t.Errorf("the greatest was dropped: %s", tell(s))
	}
	s, _, _ = DropTable(s, "v")
	s, _, _ = DropTable(s, "u")
	if s = checkAddTable(t, s, "w", one, api.OK); s.Tables[0].Id != 1 {
		t.Errorf("all were dropped: %s", tell(s))
	}
	for _, id := range []int{math.MaxInt32, math.MaxInt32 + 1, math.MaxInt} {
		checkAddTable(t, schema(tables(table(id, "t", one...))), "u", one, api.ErrLong)
	}
	// an Id that no right schema has does not bring one that is none
	if s := checkAddTable(t, schema(tables(table(-5, "t", one...))), "u", one, api.OK); s.Tables[1].Id != 1 {
		t.Errorf("behind -5: %s", tell(s))
	}
}

// 11.2, 11.3: 32 tables and 32 indexes, and one more of each.
func TestMost(t *testing.T) {
	var s api.Schema
	for i := range 32 {
		made, e := AddTable(s, fmt.Sprintf("t%d", i), []api.Column{col("a", api.Int)})
		if e != api.OK {
			t.Fatalf("table %d: error %d", i, e)
		}
		s, e = AddIndex(made, index(0, fmt.Sprintf("i%d", i), fmt.Sprintf("t%d", i/2), 0))
		if e != api.OK {
			t.Fatalf("index %d: error %d", i, e)
		}
	}
	if !isRight(s) || len(s.Tables) != 32 || len(s.Indexes) != 32 || s.Indexes[31].Id != 64 {
		t.Errorf("%s", tell(s))
	}
	checkAddTable(t, s, "more", []api.Column{col("a", api.Int)}, api.ErrLong)
	if _, e := AddIndex(s, index(0, "more", "t1", 0)); e != api.ErrLong {
		t.Errorf("index 33: error %d", e)
	}
}

// 11.4: DropTable and DropIndex, and of what is not there.
func TestDrop(t *testing.T) {
	s := some()
	was := tell(s)
	for _, c := range []struct {
		name string
		left api.Schema
		ids  []int
	}{
		{"t", schema(s.Tables[1:], s.Indexes[1], s.Indexes[3]), []int{1, 2, 6}},
		{"u", schema(tables(s.Tables[0], s.Tables[2]), s.Indexes[0], s.Indexes[2]), []int{3, 5, 300}},
		{"no_index", schema(s.Tables[:2], s.Indexes...), []int{9}},
	} {
		made, ids, e := DropTable(s, c.name)
		if e != api.OK || tell(made) != tell(c.left) || !slices.Equal(ids, c.ids) || !isRight(made) {
			t.Errorf("DropTable(%s): %s, %v, error %d", c.name, tell(made), ids, e)
		}
	}
	for i, x := range s.Indexes {
		made, id, e := DropIndex(s, x.Name)
		want := schema(s.Tables, slices.Concat(s.Indexes[:i], s.Indexes[i+1:])...)
		if e != api.OK || tell(made) != tell(want) || id != x.Id || !isRight(made) {
			t.Errorf("DropIndex(%s): %s, %d, error %d", x.Name, tell(made), id, e)
		}
	}
	for _, name := range []string{"", "i", "j", "gone", "T", "select"} {
		if made, ids, e := DropTable(s, name); e != api.ErrTable || made.Tables != nil || made.Indexes != nil || len(ids) != 0 {
			t.Errorf("DropTable(%q): %s, %v, error %d", name, tell(made), ids, e)
		}
	}
	for _, name := range []string{"", "u", "no_index", "gone", "I", "index"} {
		if made, id, e := DropIndex(s, name); e != api.ErrIndex || made.Tables != nil || made.Indexes != nil || id != 0 {
			t.Errorf("DropIndex(%q): %s, %d, error %d", name, tell(made), id, e)
		}
	}
	if tell(s) != was {
		t.Errorf("%s has become %s", was, tell(s))
	}
	if _, _, e := DropTable(api.Schema{}, "t"); e != api.ErrTable {
		t.Errorf("DropTable of nothing: error %d", e)
	}
	if _, _, e := DropIndex(api.Schema{}, "t"); e != api.ErrIndex {
		t.Errorf("DropIndex of nothing: error %d", e)
	}
}

// 11.4: Ids come in the order of the schema, not in their own; indexes of other
// tables between them stay.
func TestDropOrder(t *testing.T) {
	one := []api.Column{col("a", api.Int)}
	s := schema(tables(table(7, "u", one...), table(20, "t", one...)),
		index(9, "a", "t", 0), index(30, "b", "u", 0), index(3, "c", "t", 0), index(12, "d", "t", 0), index(1, "e", "u", 0))
	made, ids, e := DropTable(s, "t")
	if e != api.OK || !slices.Equal(ids, []int{20, 9, 3, 12}) || tell(made) != tell(schema(s.Tables[:1], s.Indexes[1], s.Indexes[4])) {
		t.Errorf("%s, %v, error %d", tell(made), ids, e)
	}
}

// The chapter's first example.
func TestExample(t *testing.T) {
	s, e := AddTable(api.Schema{}, "t", []api.Column{needed("a", api.Int), col("b", api.Text)})
	if e != api.OK || s.Tables[0].Id != 1 {
		t.Fatalf("%s, error %d", tell(s), e)
	}
	s, e = AddIndex(s, api.Index{Name: "i", Table: "t", Cols: []int{1}, Desc: []bool{true}})
	if e != api.OK || s.Indexes[0].Id != 2 {
		t.Fatalf("%s, error %d", tell(s), e)
	}
	if made, ids, e := DropTable(s, "t"); e != api.OK || !slices.Equal(ids, []int{1, 2}) || len(made.Tables)+len(made.Indexes) != 0 {
		t.Errorf("%s, %v, error %d", tell(made), ids, e)
	}
	if Name("select") != api.ErrField || Name("a_1") != api.OK {
		t.Error("select is no name, a_1 is one")
	}
}

// R1: whatever a schema is, these calls end.
func TestAnySchema(t *testing.T) {
	for _, s := range []api.Schema{
		{Tables: make([]api.Table, 100), Indexes: make([]api.Index, 100)}, {Indexes: []api.Index{{Name: "t", Table: "t"}}}, {Tables: []api.Table{{Name: "t", Id: math.MinInt}}},
		schema(tables(table(1, "t"), table(1, "t")), index(1, "t", "t", 5), index(1, "t", "t", -5)),
	} {
		Table(s, "t")
		Indexes(s, "")
		AddTable(s, "u", []api.Column{col("a", api.Int)})
		AddIndex(s, index(1, "u", "t", 0))
		AddIndex(s, index(1, "u", "", 0))
		for _, name := range []string{"", "t"} {
			DropTable(s, name)
			DropIndex(s, name)
		}
	}
}

// 11.5: Prefix of numbers within 32 bits, and beyond.
func TestPrefix(t *testing.T) {
	for id, want := range map[int][]byte{
		0: {0, 0, 0, 0}, 1: {0, 0, 0, 1}, 255: {0, 0, 0, 255}, 256: {0, 0, 1, 0}, 258: {0, 0, 1, 2}, 0x01020304: {1, 2, 3, 4},
		math.MaxInt32: {127, 255, 255, 255}, 1 << 31: {128, 0, 0, 0}, math.MaxUint32: {255, 255, 255, 255}, 1 << 32: {0, 0, 0, 0}, 1<<32 + 7: {0, 0, 0, 7}, 0x0102030405060708: {5, 6, 7, 8},
		math.MaxInt: {255, 255, 255, 255}, math.MinInt: {0, 0, 0, 0}, -1: {255, 255, 255, 255}, -2: {255, 255, 255, 254}, -256: {255, 255, 255, 0}, math.MinInt + 258: {0, 0, 1, 2},
	} {
		if got := Prefix(id); !slices.Equal(got, want) {
			t.Errorf("Prefix(%d): %v, want %v", id, got, want)
		}
	}
	a := Prefix(5)
	for i := range a[:cap(a)] {
		a[:cap(a)][i] = 9
	}
	if b := Prefix(5); !slices.Equal(b, []byte{0, 0, 0, 5}) {
		t.Errorf("Prefix(5) has become %v", b)
	}
}
