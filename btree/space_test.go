package btree

import (
	"bytes"
	"fmt"
	"math/rand"
	"slices"
	"testing"

	"quarry/api"
	"quarry/free"
)

// oneChange is a Put or a Delete, as tests do it.
type oneChange struct {
	key, value string
	gone       bool
}

// do does it, and answers what both calls have in common; -1, if Delete answers
// true beside an error.
func (o oneChange) do(w *world, root int) (int, api.Errno) {
	if o.gone {
		r, ok, e := w.s.Delete(root, []byte(o.key))
		if ok && e != api.OK {
			return -1, -1
		}
		return r, e
	}
	return w.s.Put(root, []byte(o.key), []byte(o.value))
}

func (o oneChange) of(m model) model {
	if o.gone {
		return m.without(o.key)
	}
	return m.with(o.key, o.value)
}

// changes is some changes of a tree with these cells: new keys, other values,
// short ones made long and the other way round, keys that go.
func changes(r *rand.Rand, m model, count int) []oneChange {
	keys := m.keys()
	var l []oneChange
	for i := range count {
		k := keys[r.Intn(len(keys))]
		if i%3 == 0 {
			l = append(l, oneChange{key: k, gone: true})
			continue
		}
		if i%3 == 1 {
			k = k[:min(len(k), 120)] + fmt.Sprint(i)
		}
		v := data(i, r.Intn(65))
		if i%4 == 0 {
			v = data(i, r.Intn(2049))
		}
		l = append(l, oneChange{key: k, value: v})
	}
	return l
}

// someTree is a world with a tree of a shape.
func someTree(t testing.TB, s shape, pages, keys int) (*world, int, model) {
	t.Helper()
	w, m := fresh(t, pages), model{}
	root := 0
	for _, i := range rand.New(rand.NewSource(3)).Perm(keys) {
		m[s.key(i)] = s.value(i)
		root = w.put(t, root, s.key(i), s.value(i))
		w.keep(t, root)
	}
	return w, root, m
}

// 9.3: just pages that were free are written, each once, and these are in use
// then: those that the new tree has, and the old one has not.
func TestWrites(t *testing.T) {
	t.Parallel()
	for n, s := range shapes() {
		w, root, m := someTree(t, s, 900, 100)
		r := rand.New(rand.NewSource(int64(n)))
		w.leave(t, root, 100) // so that there are pages in use that no tree has
		for _, o := range changes(r, m, 60) {
			c := w.clone()
			c.d.Sync()
			made, e := o.do(c, root)
			if e != api.OK {
				t.Fatalf("%s: error %d", s.name, e)
			}
			c.checkRight(t, root, m)
			l := c.checkRight(t, made, o.of(m))
			written := c.d.Pending()
			slices.Sort(written)
			for _, page := range written {
				if !w.f.Free(page) || c.f.Free(page) {
					t.Fatalf("%s: page %d was free %t, and is free %t", s.name, page, w.f.Free(page), c.f.Free(page))
				}
			}
			want := slices.DeleteFunc(slices.Clone(l.pages), func(page int) bool { return !w.f.Free(page) })
			if !slices.Equal(written, want) || c.f.Left() != 100-len(want) {
				t.Fatalf("%s: written are %v, want %v; %d are free", s.name, written, want, c.f.Left())
			}
		}
	}
}

// 9.3: with as many free pages as the new tree has of its own a change is done,
// with fewer it is refused, and nothing is changed then.
func TestFull(t *testing.T) {
	t.Parallel()
	for n, s := range shapes() {
		w, root, m := someTree(t, s, 900, 100)
		r := rand.New(rand.NewSource(int64(n)))
		for _, o := range changes(r, m, 24) {
			c := w.clone()
			if _, e := o.do(c, root); e != api.OK {
				t.Fatalf("%s: error %d", s.name, e)
			}
			need := w.f.Left() - c.f.Left()
			for left := range need + 2 {
				c := w.clone()
				c.leave(t, root, left)
				if left < need {
					c.checkFull(t, root, o)
					c.checkRight(t, root, m)
					continue
				}
				made, e := o.do(c, root)
				if e != api.OK || c.f.Left() != left-need {
					t.Fatalf("%s: with %d free pages: error %d, %d are left, %d must be taken", s.name, left, e, c.f.Left(), need)
				}
				c.checkRight(t, made, o.of(m))
			}
		}
	}
}

// checkFull: the change is refused for want of room, and nothing has changed.
func (w *world) checkFull(t testing.TB, root int, o oneChange) {
	t.Helper()
	same := w.unchanged(t)
	if r, e := o.do(w, root); r != 0 || e != api.ErrFull {
		t.Fatalf("with %d free pages: %d, error %d, want %d", w.f.Left(), r, e, api.ErrFull)
	}
	same()
}

// 9.3: what needs no page needs none: the last key goes; a leaf goes, and its
// neighbour is all that stays.
func TestNoRoomNeeded(t *testing.T) {
	w := fresh(t, 3)
	root := w.put(t, 0, "a", "1")
	w.checkNoDelete(t, root, "b")
	if root = w.remove(t, root, "a"); root != 0 || w.f.Left() != 0 {
		t.Errorf("the tree is %d, %d pages are left", root, w.f.Left())
	}
	w = fresh(t, 5)
	w.layNode(t, 2, leafOf(cellOf("a", "")))
	w.layNode(t, 3, leafOf(cellOf("b"+times("k", 127), times("v", 64)), cellOf("c"+times("k", 127), times("v", 64)), cellOf("d"+times("k", 100), "")))
	w.layNode(t, 4, innerOf([]int{2, 3}, "b"))
	w.leave(t, 4, 0)
	if root = w.remove(t, 4, "a"); root != 3 {
		t.Errorf("the tree is %d, want 3", root)
	}
	w.checkFull(t, 4, oneChange{key: "b" + times("k", 127), gone: true})
	w.checkFull(t, 3, oneChange{key: "a"})
	w.checkFull(t, 0, oneChange{key: "a"})
}

// 9.3 with R2: where no page is free, nothing can be put, whatever else is wrong.
func TestFullAhead(t *testing.T) {
	for left := range 6 {
		w := fresh(t, 2+1+left)
		w.put(t, 0, "a", "1")
		w.turn(t, 2, 5)
		for _, size := range []int{0, 64, 65, 503, 504, 2048} {
			want := api.ErrCorrupt
			if left < piecesOf(size)+1 {
				want = api.ErrFull
			}
			for _, root := range []int{2, 1, -1, 77} {
				w.checkNoPut(t, root, "b", data(1, size), want)
			}
		}
		w.checkNoPut(t, 0, "b", data(1, 2048), api.ErrFull)
	}
}

// 9.3: with 64 free pages or more there is room for each change.
func TestRoom(t *testing.T) {
	t.Parallel()
	for n, s := range shapes() {
		w, root, m := someTree(t, s, 1100, 150)
		r := rand.New(rand.NewSource(int64(70 + n)))
		for _, o := range changes(r, m, 40) {
			w.leave(t, root, 64)
			made, e := o.do(w, root)
			if e != api.OK {
				t.Fatalf("%s: error %d with 64 free pages", s.name, e)
			}
			root, m = made, o.of(m)
			w.checkRight(t, root, m)
		}
	}
}

// 9.3: the power fails at each of the writes: the pages are free again, and
// behind any mending the tree is what it was.
func TestDown(t *testing.T) {
	t.Parallel()
	for n, s := range shapes() {
		w, root, m := someTree(t, s, 900, 100)
		w.leave(t, root, 70)
		w.d.Sync()
		r := rand.New(rand.NewSource(int64(n)))
		for _, o := range changes(r, m, 12) {
			steps := 0
			for ; ; steps++ {
				c := w.clone()
				c.d.Arm(steps)
				made, e := o.do(c, root)
				if e == api.OK {
					c.checkRight(t, made, o.of(m))
					break
				}
				if made != 0 || e != api.ErrDown || !slices.Equal(c.used(), w.used()) {
					t.Fatalf("%s: %d, error %d, in use are %v, were %v", s.name, made, e, c.used(), w.used())
				}
				keep := make([]bool, steps)
				for i := range keep {
					keep[i] = r.Intn(2) == 0
				}
				c.d.Mend(keep, r.Intn(steps+1), r.Intn(513))
				c.checkRight(t, root, m)
				if made, e = o.do(c, root); e != api.OK {
					t.Fatalf("%s: error %d with the power back", s.name, e)
				}
				c.checkRight(t, made, o.of(m))
			}
			if steps == 0 {
				t.Fatalf("%s: nothing is written", s.name)
			}
		}
	}
}

// 9.3: where a page cannot be read for want of power, the answer is ErrDown; what
// reads none does not see it.
func TestDownReading(t *testing.T) {
	w, root, _ := someTree(t, shapes()[0], 200, 60)
	w.d.Arm(0)
	w.d.Sync()
	same := w.unchanged(t)
	if v, ok, e := w.s.Get(root, []byte("0003")); len(v) != 0 || ok || e != api.ErrDown {
		t.Errorf("Get: %q, %t, error %d", v, ok, e)
	}
	if r, e := w.s.Put(root, []byte("0003"), nil); r != 0 || e != api.ErrDown {
		t.Errorf("Put: %d, error %d", r, e)
	}
	if r, e := w.s.Put(0, []byte("0003"), data2048()); r != 0 || e != api.ErrDown {
		t.Errorf("Put into the empty tree: %d, error %d", r, e)
	}
	for _, key := range []string{"0003", "none"} {
		if r, ok, e := w.s.Delete(root, []byte(key)); r != 0 || ok || e != api.ErrDown {
			t.Errorf("Delete: %d, %t, error %d", r, ok, e)
		}
	}
	if l, e := w.s.Pages(root); len(l) != 0 || e != api.ErrDown {
		t.Errorf("Pages: %v, error %d", l, e)
	}
	if e := w.s.Keep([]int{0, root}); e != api.ErrDown {
		t.Errorf("Keep: error %d", e)
	}
	w.checkNoGet(t, 0, "0003")
	w.checkNoDelete(t, 0, "0003")
	w.checkPages(t, 0, nil)
	same()
	w.keep(t, 0)
	if w.s.Left() != 198 {
		t.Errorf("%d pages are left", w.s.Left())
	}
}

func data2048() []byte { return []byte(data(5, 2048)) }

// 9.4: Pages, Keep and Left over trees that share pages.
func TestPagesAndKeep(t *testing.T) {
	w := fresh(t, 60)
	one := w.put(t, 0, "a", data(1, 600))
	two := w.put(t, one, "b", data(2, 2048))
	three := w.put(t, 0, "c", "")
	w.checkPages(t, one, w.checkRight(t, one, model{"a": data(1, 600)}).pages)
	shared, _ := w.s.Pages(one)
	all, _ := w.s.Pages(two)
	if len(shared) != 3 || len(all) != 1+2+5 {
		t.Errorf("the pages %v and %v", shared, all)
	}
	for _, page := range shared {
		if page != one && !slices.Contains(all, page) {
			t.Errorf("the page %d of the long value is not shared: %v", page, all)
		}
	}
	for _, c := range []struct {
		roots []int
		used  int
	}{{[]int{one, two, three}, 3 + 8 + 1 - 2}, {[]int{two, two, 0, one}, 9}, {[]int{one}, 3}, {nil, 0}} {
		roots := slices.Clone(c.roots)
		w.keep(t, roots...)
		if !slices.Equal(roots, c.roots) || w.s.Left() != 58-c.used || w.f.Left() != 58-c.used {
			t.Errorf("behind Keep(%v) there are %d and %d left, want %d", c.roots, w.s.Left(), w.f.Left(), 58-c.used)
		}
		for _, root := range c.roots {
			l, _ := w.s.Pages(root)
			if !slices.IsSorted(l) || slices.ContainsFunc(l, w.f.Free) {
				t.Errorf("Pages(%d): %v, some of them free", root, l)
			}
		}
	}
	// what no one has kept is still there, till it is written over
	w.keep(t, two)
	w.checkTree(t, two, model{"a": data(1, 600), "b": data(2, 2048)})
}

// 9.4: Keep tells the error of the first root that has one, and then does nothing.
func TestKeepRefused(t *testing.T) {
	w := fresh(t, 30)
	good := w.put(t, 0, "a", "1")
	bad := w.put(t, 0, "b", data(1, 900))
	w.f.Take()
	w.turn(t, w.nodeAt(bad).Cells[0].Over, 100)
	for _, roots := range [][]int{{bad}, {good, bad}, {bad, good}, {0, good, 1}, {-1}, {good, 30}, {4096}, {29}} {
		same := w.unchanged(t)
		if e := w.s.Keep(roots); e != api.ErrCorrupt {
			t.Errorf("Keep(%v): error %d", roots, e)
		}
		same()
	}
	// a set of fewer pages than the tree has
	s := New(w.p, free.New(3))
	if e := s.Keep([]int{good}); e != api.OK || s.Left() != 0 {
		t.Errorf("Keep: error %d, %d are left", e, s.Left())
	}
	other := w.put(t, 0, "c", "")
	if e := s.Keep([]int{other}); e != api.ErrRange || s.Left() != 0 {
		t.Errorf("Keep of a page that the set has not: error %d, %d are left", e, s.Left())
	}
}

// 9.1: New keeps the pager and the set that it is handed, and uses them.
func TestSharedSet(t *testing.T) {
	w := fresh(t, 20)
	root := w.put(t, 0, "a", "1")
	if w.f.Free(root) || w.s.Left() != w.f.Left() {
		t.Errorf("the page %d is free %t; %d and %d are left", root, w.f.Free(root), w.s.Left(), w.f.Left())
	}
	page, _ := w.f.Take()
	if next := w.put(t, root, "b", "2"); next == page || next == root {
		t.Errorf("the page %d is taken, which is in use", next)
	}
	w.f.Give(page)
	other := New(w.p, w.f)
	if v, ok, e := other.Get(root, []byte("a")); string(v) != "1" || !ok || e != api.OK {
		t.Errorf("another space over the same pages: %q, %t, error %d", v, ok, e)
	}
	if other.Left() != w.s.Left() {
		t.Errorf("%d and %d are left", other.Left(), w.s.Left())
	}
}

// A set of free pages that knows more of them than the disk has: the others are no room.
func TestSetBeyondDisk(t *testing.T) {
	w := fresh(t, 5)
	w.f = free.New(100)
	w.s = New(w.p, w.f)
	root := w.put(t, 0, "a", "1")
	root = w.put(t, root, "b", "2")
	w.checkFull(t, root, oneChange{key: "c", value: data(1, 600)})
	root = w.put(t, root, "c", "3")
	w.checkFull(t, root, oneChange{key: "d"})
	w.checkRight(t, root, model{"a": "1", "b": "2", "c": "3"})
}

// R4: what is handed in is neither changed nor kept, what is handed out is new memory.
func TestMemory(t *testing.T) {
	w, root, m := someTree(t, shapes()[6], 600, 40)
	room := func(text string) []byte { return append([]byte(text), "behind the end"...)[:len(text)] }
	isRoom := func(b []byte, text string) bool {
		return string(b) == text && string(b[:len(b)+14]) == text+"behind the end"
	}
	for _, size := range []int{0, 10, 64, 65, 503, 1006, 2048} {
		key, value := room("0007x"), room(data(9, size))
		made, e := w.s.Put(root, key, value)
		if e != api.OK || !isRoom(key, "0007x") || !isRoom(value, data(9, size)) {
			t.Fatalf("Put of %d bytes: error %d, or what it was handed is changed", size, e)
		}
		overwrite(key)
		overwrite(value)
		more := m.with("0007x", data(9, size))
		w.checkRight(t, made, more)
		key = room("0007x")
		one, _, _ := w.s.Get(made, key)
		two, _, _ := w.s.Get(made, key)
		overwrite(one)
		if string(two) != data(9, size) || !isRoom(key, "0007x") {
			t.Errorf("two answers of Get share memory, or the key is changed")
		}
		w.checkGet(t, made, "0007x", data(9, size))
		less, _, e := w.s.Delete(made, key)
		if e != api.OK || !isRoom(key, "0007x") {
			t.Fatalf("Delete: error %d, or its key is changed", e)
		}
		overwrite(key)
		w.checkRight(t, less, m)
		w.checkRight(t, made, more)
		pages, _ := w.s.Pages(made)
		again, _ := w.s.Pages(made)
		clear(pages[:cap(pages)])
		w.checkPages(t, made, again)
		roots := append(make([]int, 0, 2), root, 77)[:1]
		if w.s.Keep(roots); roots[0] != root || roots[:2][1] != 77 {
			t.Errorf("Keep has changed its list")
		}
	}
}

// overwrite fills some bytes, and the room behind them.
func overwrite(b []byte) {
	copy(b[:cap(b)], bytes.Repeat([]byte{0xDD}, cap(b)))
}
