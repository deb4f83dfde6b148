package catalog

import (
	"fmt"
	"maps"
	"math"
	"math/rand"
	"slices"
	"strings"
	"testing"

	"quarry/api"
	"quarry/btree"
	"quarry/disk"
	"quarry/free"
	"quarry/pager"
)

// 11.5: the catalog's keys and values, byte for byte: the chapter's second example,
// and an index of it.
func TestRowBytes(t *testing.T) {
	w := fresh(t, 100)
	s := schema(tables(table(1, "t", needed("a", api.Int), col("b", api.Text))), unique(index(1<<24+2, "ix", "t", -2, 0)))
	root := w.save(t, 0, s)
	w.checkAll(t, root, map[string]string{
		"\x00\x00\x00\x00\x00\x00\x00\x01": "\x08\x03\x05table\x03\x01t\x03\x01a\x02\x04\x01\x01\x03\x01b\x02\x06\x01\x00",
		"\x00\x00\x00\x00\x01\x00\x00\x02": "\x08\x03\x05index\x03\x02ix\x03\x01t\x01\x01\x02\x02\x01\x01\x02\x00\x01\x00",
	})
	w.checkAll(t, w.save(t, 0, schema(tables(table(math.MaxInt32, "_", col("z", api.Bool), needed("y", api.Blob))), index(3, "a", "_", 0))), map[string]string{
		"\x00\x00\x00\x00\x7f\xff\xff\xff": "\x08\x03\x05table\x03\x01_\x03\x01z\x02\x02\x01\x00\x03\x01y\x02\x08\x01\x01",
		"\x00\x00\x00\x00\x00\x00\x00\x03": "\x06\x03\x05index\x03\x01a\x03\x01_\x01\x00\x02\x00\x01\x00",
	})
}

// saved is schemas that are laid one behind the other.
func saved() []api.Schema {
	renamed := some()
	renamed.Tables[2].Name = "other"
	unlike := some()
	unlike.Indexes[1].Unique = false
	unlike.Indexes[3].Desc[0] = true
	unlike.Tables[1].Cols[0].NotNull = true
	fewer, _, _ := DropTable(some(), "t")
	return []api.Schema{{}, some(), some(), {}, numbered(1, 0), some(), renamed, unlike, fewer, some(), numbered(32, 32), full(), full(), numbered(3, 5), {}, full(), {}}
}

// 11.6: Save of one schema behind another: just the keys of the last one are there,
// all other keys are as they were, and so is the tree ahead of it.
func TestSave(t *testing.T) {
	for name, beside := range map[string]map[string]string{"alone": {}, "with others": others()} {
		t.Run(name, func(t *testing.T) {
			w := fresh(t, 2000)
			root := w.putAll(t, 0, beside)
			was := beside
			for _, s := range saved() {
				if !isRight(s) {
					t.Fatalf("%s is not right", tell(s))
				}
				want := both(beside, laid(t, s))
				made := w.save(t, root, s)
				w.checkAll(t, made, want)
				w.checkAll(t, root, was)
				w.checkLoad(t, made, s)
				if maps.Equal(want, was) != (made == root) {
					t.Fatalf("the root %d has become %d", root, made)
				}
				w.keep(t, made)
				w.checkAll(t, made, want)
				root, was = made, want
			}
		})
	}
}

// 11.6: a Save that changes nothing answers the same root, and writes nothing.
func TestSaveSame(t *testing.T) {
	t.Parallel()
	for _, s := range saved() {
		w := fresh(t, 1500)
		root := w.save(t, w.putAll(t, 0, others()), s)
		same := w.unchanged(t)
		if made := w.save(t, root, s); made != root {
			t.Errorf("%d has become %d", root, made)
		}
		same()
	}
	w := fresh(t, 10)
	same := w.unchanged(t)
	if made := w.save(t, 0, api.Schema{}); made != 0 {
		t.Errorf("nothing has become %d", made)
	}
	same()
}

// 11.6: only what differs is laid anew: where one value does, as many pages are
// written as for that one.
func TestSaveWritesLittle(t *testing.T) {
	w := fresh(t, 1500)
	s := full()
	root := w.save(t, 0, s)
	w.keep(t, root)
	s.Indexes[20].Unique = false
	left := w.s.Left()
	_, e := w.s.Put(root, []byte(keyAt(s.Indexes[20].Id)), []byte(laid(t, s)[keyAt(s.Indexes[20].Id)]))
	if e != api.OK {
		t.Fatalf("Put: error %d", e)
	}
	took := left - w.s.Left()
	w.keep(t, root)
	made := w.save(t, root, s)
	if left-w.s.Left() != took {
		t.Errorf("Save has taken %d pages, Put %d", left-w.s.Left(), took)
	}
	w.checkAll(t, made, laid(t, s))
}

// 11.6: keys that begin with Prefix(0) and are no rows of a schema go, too.
func TestSaveOverStrayKeys(t *testing.T) {
	w := fresh(t, 1000)
	stray := map[string]string{
		"\x00\x00\x00\x00": "", "\x00\x00\x00\x00\x00": "x", "\x00\x00\x00\x00\x00\x00\x00": "seven", keyAt(0): "", keyAt(1) + "\x00": "nine", keyAt(1): "no row", keyAt(1 << 31): stored(t, text("table")),
		keyAt(7): strings.Repeat("long", 500), "\x00\x00\x00\x00" + strings.Repeat("\xff", 124): "the last",
	}
	for i := range 200 {
		stray[fmt.Sprintf("\x00\x00\x00\x00%d", i)] = "stray"
	}
	root := w.putAll(t, 0, both(stray, others()))
	for _, s := range []api.Schema{some(), {}} {
		made := w.save(t, root, s)
		w.checkAll(t, made, both(others(), laid(t, s)))
		w.keep(t, root)
	}
	w.checkAll(t, root, both(stray, others()))
}

// 11.6: where there is no room, the space's error; the tree is what it was, and when
// just that is kept, as many pages are free as were.
func TestSaveFull(t *testing.T) {
	t.Parallel()
	beside := map[string]string{"\x00\x00\x00\x01": "a row", "\x00\x00\x00\x02": "another one"}
	failed := 0
	for pages := 8; pages < 400; pages += 3 {
		w := fresh(t, pages)
		root, was := w.putAll(t, 0, beside), beside
		for _, s := range []api.Schema{some(), full(), numbered(32, 32), {}} {
			left := w.s.Left()
			made, e := Save(w.s, w.p, root, s)
			w.checkAll(t, root, was)
			if e == api.OK {
				root, was = made, both(beside, laid(t, s))
				w.checkAll(t, root, was)
				w.keep(t, root)
				continue
			}
			failed++
			if e != api.ErrFull || made != 0 {
				t.Fatalf("%d pages: the root %d, error %d", pages, made, e)
			}
			w.keep(t, root)
			if w.s.Left() != left {
				t.Fatalf("%d pages are free, were %d", w.s.Left(), left)
			}
		}
	}
	if failed < 50 {
		t.Errorf("just %d have failed", failed)
	}
}

// 11.6: where rows must go, and there is no room even for that.
func TestSaveNothingFull(t *testing.T) {
	t.Parallel()
	beside := map[string]string{"\x00\x00\x00\x01": "a row"}
	was := both(beside, laid(t, numbered(32, 32)))
	failed := 0
	for pages := 30; pages < 230; pages += 5 {
		w := fresh(t, pages)
		root := w.putAll(t, 0, was)
		left := w.s.Left()
		made, e := Save(w.s, w.p, root, api.Schema{})
		w.checkAll(t, root, was)
		if e == api.OK {
			w.checkAll(t, made, beside)
			continue
		}
		failed++
		if e != api.ErrFull || made != 0 {
			t.Fatalf("%d pages: the root %d, error %d", pages, made, e)
		}
		w.keep(t, root)
		if w.s.Left() != left {
			t.Fatalf("%d pages are free, were %d", w.s.Left(), left)
		}
	}
	if failed < 10 || failed > 38 {
		t.Errorf("%d have failed", failed)
	}
}

// 11.6: where the power fails, the space's error; what was committed is there.
func TestSaveDown(t *testing.T) {
	t.Parallel()
	base := fresh(t, 400)
	root := base.save(t, 0, some())
	if e := base.p.Commit(root); e != api.OK {
		t.Fatalf("Commit: error %d", e)
	}
	writes := 0
	for ; ; writes++ {
		w := moved(t, base.d.Clone(), root)
		w.d.Arm(writes)
		made, e := Save(w.s, w.p, root, full())
		if e == api.OK {
			w.checkAll(t, made, laid(t, full()))
			break
		}
		if e != api.ErrDown || made != 0 {
			t.Fatalf("at the write %d: the root %d, error %d", writes, made, e)
		}
		if made, e := Save(w.s, w.p, root, some()); e != api.ErrDown || made != 0 {
			t.Fatalf("without power: the root %d, error %d", made, e)
		}
		if s, e := Load(w.s, w.p, root); e != api.ErrDown || s.Tables != nil || s.Indexes != nil {
			t.Fatalf("without power: %s, error %d", tell(s), e)
		}
		keep := make([]bool, len(w.d.Pending()))
		for i := range keep {
			keep[i] = i%2 == 0
		}
		w.d.Mend(keep, writes%5, 100)
		w = moved(t, w.d, root)
		w.checkAll(t, root, laid(t, some()))
		w.checkLoad(t, root, some())
	}
	if writes < 64 {
		t.Errorf("just %d writes", writes)
	}
}

// moved is a world over a disk that was formatted, in which one tree is in use.
func moved(t testing.TB, d *disk.Disk, root int) *world {
	t.Helper()
	p, e := pager.Open(d)
	if e != api.OK {
		t.Fatalf("pager.Open: error %d", e)
	}
	f := free.New(d.Pages())
	w := &world{d, p, f, btree.New(p, f)}
	w.keep(t, root)
	return w
}

// 11.6: Load answers tables by their Ids, and indexes by theirs, in whatever order
// they stand in what was saved; an index may have a lower Id than its table.
func TestLoadOrder(t *testing.T) {
	w := fresh(t, 1500)
	s := schema(
		tables(table(70, "c", col("x", api.Int)), table(2, "b", col("x", api.Int)), table(math.MaxInt32, "a", needed("x", api.Int), col("y", api.Blob))),
		index(300, "z", "a", 1), index(1, "x", "a", -1), index(65536, "y", "b", 0), index(69, "w", "c", 0),
	)
	want := schema(tables(s.Tables[1], s.Tables[0], s.Tables[2]), s.Indexes[1], s.Indexes[3], s.Indexes[0], s.Indexes[2])
	if !isRight(s) {
		t.Fatalf("%s is not right", tell(s))
	}
	root := w.save(t, w.putAll(t, 0, others()), s)
	w.checkLoad(t, root, want)
	if made := w.save(t, root, want); made != root {
		t.Errorf("another order is another root: %d, %d", root, made)
	}
}

// R1: Save of a schema that is not right ends, with a root or an error: that of a row,
// if it can't be written.
func TestSaveNotRight(t *testing.T) {
	long := strings.Repeat("n", 3000)
	for _, s := range []api.Schema{
		schema(nil, api.Index{Name: "i", Cols: []int{1, 2, 3}}), schema(nil, api.Index{Name: "i", Cols: []int{1}, Desc: []bool{true, true}}),
		schema(tables(table(1, "t"), table(1, "u"))), schema(tables(table(1<<40, "", col("", math.MinInt)))), schema(tables(table(1, long))), schema(nil, index(1, "i", long, 0)),
		{Tables: make([]api.Table, 100), Indexes: make([]api.Index, 100)},
	} {
		w := fresh(t, 1000)
		root := w.putAll(t, 0, others())
		made, e := Save(w.s, w.p, root, s)
		if e != api.OK && made != 0 || strings.Contains(tell(s), long) && e != api.ErrLong {
			t.Errorf("%.60s: the root %d, error %d", tell(s), made, e)
		}
		w.checkAll(t, root, others())
	}
}

// anyName is one of few names, so that they meet, some of them not right.
func anyName(r *rand.Rand) string {
	return []string{"a", "b", "c", "d", "e", "f", "g", "h", "i", "j", "k", "l", "select", "", "A", strings.Repeat("z", 24), strings.Repeat("z", 25)}[r.Intn(17)]
}

func anyColumns(r *rand.Rand) []api.Column {
	var l []api.Column
	for range r.Intn(5) {
		l = append(l, api.Column{Name: anyName(r), Type: 1 + r.Intn(4), NotNull: r.Intn(2) == 0})
	}
	return l
}

// step is a schema behind any of the calls, or the same one, where that is refused.
func step(t testing.TB, r *rand.Rand, s api.Schema) api.Schema {
	t.Helper()
	was := tell(s)
	var made api.Schema
	var e api.Errno
	switch r.Intn(7) {
	case 0, 1, 2:
		made, e = AddTable(s, anyName(r), anyColumns(r))
	case 3, 4:
		x := unique(index(r.Intn(50), anyName(r), anyName(r), r.Intn(3), -1-r.Intn(3)))
		x.Cols, x.Desc = x.Cols[r.Intn(2):], x.Desc[r.Intn(2):]
		made, e = AddIndex(s, x)
	case 5:
		made, _, e = DropTable(s, anyName(r))
	default:
		made, _, e = DropIndex(s, anyName(r))
	}
	if tell(s) != was {
		t.Fatalf("%s has become %s", was, tell(s))
	}
	if e != api.OK {
		return s
	}
	return made
}

// 11.7: any calls make right schemas of right ones; what is saved of them is loaded,
// and all other keys are as they were.
func TestAnyCalls(t *testing.T) {
	t.Parallel()
	for seed := range int64(15) {
		r := rand.New(rand.NewSource(seed))
		w := fresh(t, 1000)
		beside := others()
		root := w.putAll(t, 0, beside)
		var s api.Schema
		for range 30 {
			for range r.Intn(8) {
				s = step(t, r, s)
				if !isRight(s) {
					t.Fatalf("%s is not right", tell(s))
				}
			}
			root = w.save(t, root, s)
			w.keep(t, root)
			w.checkAll(t, root, both(beside, laid(t, s)))
			byId := copyOf(s)
			slices.SortFunc(byId.Tables, func(a, b api.Table) int { return a.Id - b.Id })
			slices.SortFunc(byId.Indexes, func(a, b api.Index) int { return a.Id - b.Id })
			w.checkLoad(t, root, byId)
			if tell(byId) != tell(s) {
				t.Fatalf("Ids do not rise: %s", tell(s))
			}
		}
	}
}
