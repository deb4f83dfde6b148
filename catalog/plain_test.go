package catalog

import (
	"bytes"
	"fmt"
	"maps"
	"regexp"
	"slices"
	"strings"
	"testing"

	"quarry/api"
	"quarry/btree"
	"quarry/cursor"
	"quarry/disk"
	"quarry/free"
	"quarry/node"
	"quarry/pager"
	"quarry/rows"
)

// world is a space with all that lies beneath it.
type world struct {
	d *disk.Disk
	p *pager.Pager
	f *free.Set
	s *btree.Space
}

// fresh is a world over a new disk.
func fresh(t testing.TB, pages int) *world {
	t.Helper()
	d, e := disk.New(pages)
	if e != api.OK || pager.Format(d) != api.OK {
		t.Fatalf("a disk of %d pages: error %d", pages, e)
	}
	p, e := pager.Open(d)
	if e != api.OK {
		t.Fatalf("pager.Open: error %d", e)
	}
	f := free.New(pages)
	return &world{d, p, f, btree.New(p, f)}
}

func (w *world) save(t testing.TB, root int, s api.Schema) int {
	t.Helper()
	made, e := Save(w.s, w.p, root, s)
	if e != api.OK {
		t.Fatalf("Save(%d, %s): error %d", root, tell(s), e)
	}
	return made
}

func (w *world) put(t testing.TB, root int, key, value string) int {
	t.Helper()
	made, e := w.s.Put(root, []byte(key), []byte(value))
	if e != api.OK {
		t.Fatalf("Put(%d, %q, of %d bytes): error %d", root, key, len(value), e)
	}
	return made
}

func (w *world) putAll(t testing.TB, root int, values map[string]string) int {
	t.Helper()
	for _, key := range slices.Sorted(maps.Keys(values)) {
		root = w.put(t, root, key, values[key])
		w.keep(t, root)
	}
	return root
}

func (w *world) keep(t testing.TB, roots ...int) {
	t.Helper()
	if e := w.s.Keep(roots); e != api.OK {
		t.Fatalf("Keep(%v): error %d", roots, e)
	}
}

func (w *world) layNode(t testing.TB, page int, n node.Node) {
	t.Helper()
	load, e := node.Encode(n)
	if e != api.OK {
		t.Fatalf("the node for page %d: error %d", page, e)
	}
	if e := w.p.Write(page, load); e != api.OK {
		t.Fatalf("page %d cannot be written: error %d", page, e)
	}
}

// all is every key of a tree, with its value.
func (w *world) all(t testing.TB, root int) map[string]string {
	t.Helper()
	values := map[string]string{}
	c := cursor.New(w.p, w.s, root)
	ok, e := c.First()
	for ; ok; ok, e = c.Next() {
		v, e := c.Value()
		if e != api.OK {
			t.Fatalf("the value of %q: error %d", c.Key(), e)
		}
		values[string(c.Key())] = string(v)
	}
	if e != api.OK {
		t.Fatalf("going through the tree %d: error %d", root, e)
	}
	return values
}

func (w *world) checkAll(t testing.TB, root int, want map[string]string) {
	t.Helper()
	if got := w.all(t, root); !maps.Equal(got, want) {
		t.Fatalf("the tree %d has\n%q, want\n%q", root, got, want)
	}
}

// checkLoad: Load answers a schema, and touches nothing.
func (w *world) checkLoad(t testing.TB, root int, want api.Schema) {
	t.Helper()
	same := w.unchanged(t)
	if s, e := Load(w.s, w.p, root); e != api.OK || tell(s) != tell(want) {
		t.Fatalf("Load: %s, error %d, want %s", tell(s), e, tell(want))
	}
	same()
}

// checkLoadFails: Load answers an error alone, and touches nothing.
func (w *world) checkLoadFails(t testing.TB, root int, want api.Errno) {
	t.Helper()
	same := w.unchanged(t)
	if s, e := Load(w.s, w.p, root); e != want || s.Tables != nil || s.Indexes != nil {
		t.Fatalf("Load: %s, error %d, want none, %d", tell(s), e, want)
	}
	same()
}

// unchanged tells what no call may have touched, when it is asked again.
func (w *world) unchanged(t testing.TB) func() {
	image, pending, left := w.d.Image(), w.d.Pending(), w.f.Left()
	return func() {
		t.Helper()
		if !bytes.Equal(w.d.Image(), image) || !slices.Equal(w.d.Pending(), pending) || w.f.Left() != left {
			t.Fatalf("something was written: the pages %v; %d are free, were %d", w.d.Pending()[len(pending):], w.f.Left(), left)
		}
	}
}

// tell is a schema as a text, in which empty lists are all the same.
func tell(s api.Schema) string { return fmt.Sprintf("%+v", s) }

func col(name string, kind int) api.Column { return api.Column{Name: name, Type: kind} }

func needed(name string, kind int) api.Column {
	return api.Column{Name: name, Type: kind, NotNull: true}
}

func table(id int, name string, cols ...api.Column) api.Table {
	return api.Table{Id: id, Name: name, Cols: cols}
}

// index is an index with some columns, of which those below 0 fall: -1 is the place 0.
func index(id int, name, of string, places ...int) api.Index {
	x := api.Index{Id: id, Name: name, Table: of}
	for _, p := range places {
		x.Cols, x.Desc = append(x.Cols, max(p, -p-1)), append(x.Desc, p < 0)
	}
	return x
}

func unique(x api.Index) api.Index {
	x.Unique = true
	return x
}

func schema(tables []api.Table, indexes ...api.Index) api.Schema {
	return api.Schema{Tables: tables, Indexes: indexes}
}

func tables(l ...api.Table) []api.Table { return l }

// some is a schema of several tables and indexes, whose Ids have gaps.
func some() api.Schema {
	return schema(
		tables(
			table(1, "t", needed("a", api.Int), col("b", api.Text)),
			table(3, "u", col("x", api.Blob), needed("y", api.Bool), col("a", api.Int)),
			table(9, "no_index", col("only", api.Text)),
		),
		index(2, "i", "t", -2),
		unique(index(5, "j", "u", 2, -1, 1)),
		index(6, "t", "t", 0, 1),
		unique(index(300, "k", "u", 0)),
	)
}

// numbered is a schema with so many tables and so many indexes, all of the first one.
func numbered(tableCount, indexCount int) api.Schema {
	var s api.Schema
	for i := range tableCount {
		s.Tables = append(s.Tables, table(i+1, fmt.Sprintf("t%d", i), col("a", api.Int)))
	}
	for i := range indexCount {
		s.Indexes = append(s.Indexes, index(tableCount+i+1, fmt.Sprintf("i%d", i), "t0", 0))
	}
	return s
}

// wide is a table with so many columns, with the longest names.
func wide(id int, name string, count int) api.Table {
	t := table(id, name)
	for i := range count {
		t.Cols = append(t.Cols, needed(fmt.Sprintf("c%02d%s", i, strings.Repeat("_", api.MaxName-3)), 1+i%4))
	}
	return t
}

// full is the greatest schema: 32 tables of 16 columns, 32 indexes of 16 places.
func full() api.Schema {
	var s api.Schema
	for i := range 32 {
		s.Tables = append(s.Tables, wide(2*i+1, fmt.Sprintf("t%02d%s", i, strings.Repeat("x", 21)), 16))
		s.Indexes = append(s.Indexes, unique(index(2*i+2, fmt.Sprintf("i%02d%s", i, strings.Repeat("y", 21)), s.Tables[i].Name, 15, -15, 13, 12, 11, 10, 9, 8, 7, 6, 5, 4, 3, 2, 1, 0)))
	}
	return s
}

var rightName = regexp.MustCompile(`^[a-z_][a-z_0-9]{0,23}$`)

// keywords is the list of chapter 12.
const keywords = " select distinct from join on where group by having order asc desc limit offset as insert into values update set delete create table unique index drop not null is and or true false begin commit rollback to savepoint release int text blob bool "

func isRightName(s string) bool {
	return rightName.MatchString(s) && !strings.Contains(keywords, " "+s+" ")
}

// isRight tells, by the chapter's words, whether a schema is right.
func isRight(s api.Schema) bool {
	if len(s.Tables) > 32 || len(s.Indexes) > 32 {
		return false
	}
	ids, columns, indexNames := map[int]int{}, map[string]int{}, map[string]int{}
	for _, t := range s.Tables {
		names := map[string]int{}
		for _, c := range t.Cols {
			names[c.Name]++
			if !isRightName(c.Name) || c.Type != api.Bool && c.Type != api.Int && c.Type != api.Text && c.Type != api.Blob {
				return false
			}
		}
		if !isRightName(t.Name) || columns[t.Name] != 0 || len(names) != len(t.Cols) || len(t.Cols) < 1 || len(t.Cols) > 16 {
			return false
		}
		ids[t.Id]++
		columns[t.Name] = len(t.Cols)
	}
	for _, x := range s.Indexes {
		places := map[int]int{}
		for _, p := range x.Cols {
			places[p]++
			if p < 0 || p >= columns[x.Table] {
				return false
			}
		}
		if !isRightName(x.Name) || len(places) != len(x.Cols) || len(x.Cols) != len(x.Desc) || len(x.Cols) < 1 || len(x.Cols) > 16 {
			return false
		}
		ids[x.Id]++
		indexNames[x.Name]++
	}
	for id := range ids {
		if id < 1 || id > 1<<31-1 {
			return false
		}
	}
	return len(ids) == len(s.Tables)+len(s.Indexes) && len(indexNames) == len(s.Indexes)
}

func text(s string) api.Value { return api.Value{Kind: api.Text, Text: s} }

func number(n int) api.Value { return api.Value{Kind: api.Int, Int: int64(n)} }

func truth(b bool) api.Value {
	v := api.Value{Kind: api.Bool}
	if b {
		v.Int = 1
	}
	return v
}

func stored(t testing.TB, values ...api.Value) string {
	t.Helper()
	b, e := rows.Encode(values)
	if e != api.OK {
		t.Fatalf("rows.Encode(%v): error %d", values, e)
	}
	return string(b)
}

// keyAt is the key of what has an Id.
func keyAt(id int) string {
	return string([]byte{0, 0, 0, 0, byte(id / (1 << 24) % 256), byte(id / (1 << 16) % 256), byte(id / 256 % 256), byte(id % 256)})
}

// laid is the catalog's rows of a schema.
func laid(t testing.TB, s api.Schema) map[string]string {
	t.Helper()
	values := map[string]string{}
	for _, of := range s.Tables {
		l := []api.Value{text("table"), text(of.Name)}
		for _, c := range of.Cols {
			l = append(l, text(c.Name), number(c.Type), truth(c.NotNull))
		}
		values[keyAt(of.Id)] = stored(t, l...)
	}
	for _, x := range s.Indexes {
		l := []api.Value{text("index"), text(x.Name), text(x.Table), truth(x.Unique)}
		for i, p := range x.Cols {
			l = append(l, number(p), truth(x.Desc[i]))
		}
		values[keyAt(x.Id)] = stored(t, l...)
	}
	return values
}

// both is the keys of two trees together.
func both(a, b map[string]string) map[string]string {
	made := maps.Clone(a)
	maps.Copy(made, b)
	return made
}

// others is keys that are not the catalog's, some of them right beside it.
func others() map[string]string {
	values := map[string]string{
		"": "the empty key", "\x00": "one", "\x00\x00": "two", "\x00\x00\x00": "three", "\x00\x00\x00\x01": "four",
		"\x00\x00\x01": "short", "\x00\x01\x00\x00\x00\x00\x00\x00": "turned", "\x01\x00\x00\x00\x00": "x", "t": "", "table": strings.Repeat("y", 2048),
		strings.Repeat("\xff", 128): "the last",
	}
	for i := range 60 {
		values[fmt.Sprintf("\x00\x00\x00\x01%08d", i)] = strings.Repeat("row", i)
	}
	return values
}
