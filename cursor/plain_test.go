package cursor

import (
	"bytes"
	"fmt"
	"maps"
	"math/rand"
	"slices"
	"strings"
	"testing"

	"quarry/api"
	"quarry/btree"
	"quarry/disk"
	"quarry/free"
	"quarry/node"
	"quarry/pager"
)

// world is a space with all that lies beneath it.
type world struct {
	d *disk.Disk
	p *pager.Pager
	f *free.Set
	s *btree.Space
}

// fresh is a world over a new disk.
func fresh(t testing.TB, pages int) *world {
	t.Helper()
	d, e := disk.New(pages)
	if e != api.OK || pager.Format(d) != api.OK {
		t.Fatalf("a disk of %d pages: error %d", pages, e)
	}
	p, e := pager.Open(d)
	if e != api.OK {
		t.Fatalf("pager.Open: error %d", e)
	}
	f := free.New(pages)
	return &world{d, p, f, btree.New(p, f)}
}

func (w *world) cursor(root int) *Cursor { return New(w.p, w.s, root) }

func (w *world) put(t testing.TB, root int, key, value string) int {
	t.Helper()
	made, e := w.s.Put(root, []byte(key), []byte(value))
	if e != api.OK {
		t.Fatalf("Put(%d, %q, of %d bytes): error %d", root, key, len(value), e)
	}
	return made
}

func (w *world) keep(t testing.TB, roots ...int) {
	t.Helper()
	if e := w.s.Keep(roots); e != api.OK {
		t.Fatalf("Keep(%v): error %d", roots, e)
	}
}

func (w *world) lay(t testing.TB, page int, load []byte) {
	t.Helper()
	if e := w.p.Write(page, load); e != api.OK {
		t.Fatalf("page %d cannot be written: error %d", page, e)
	}
}

func (w *world) layNode(t testing.TB, page int, n node.Node) {
	t.Helper()
	load, e := node.Encode(n)
	if e != api.OK {
		t.Fatalf("the node for page %d: error %d", page, e)
	}
	w.lay(t, page, load)
}

func (w *world) layPiece(t testing.TB, page int, data string, next int) {
	t.Helper()
	load, e := node.Piece([]byte(data), next)
	if e != api.OK {
		t.Fatalf("the piece for page %d: error %d", page, e)
	}
	w.lay(t, page, load)
}

// turn turns a bit of a page, so that its sum is another's.
func (w *world) turn(t testing.TB, page, at int) {
	t.Helper()
	b, e := w.d.Read(page)
	if e != api.OK {
		t.Fatalf("page %d cannot be read: error %d", page, e)
	}
	b[at] ^= 4
	if e := w.d.Write(page, b); e != api.OK {
		t.Fatalf("page %d cannot be turned: error %d", page, e)
	}
}

func leafOf(cells ...node.Cell) node.Node { return node.Node{Leaf: true, Cells: cells} }

func cellOf(key, value string) node.Cell {
	return node.Cell{Key: []byte(key), Value: []byte(value), Size: len(value)}
}

func longOf(key string, over, size int) node.Cell {
	return node.Cell{Key: []byte(key), Over: over, Size: size}
}

func innerOf(kids []int, keys ...string) node.Node {
	n := node.Node{Kids: kids}
	for _, k := range keys {
		n.Keys = append(n.Keys, []byte(k))
	}
	return n
}

func times(text string, count int) string { return strings.Repeat(text, count) }

// data is some bytes that differ from their neighbours, and from those of another kind.
func data(kind, count int) string {
	b := make([]byte, count)
	for i := range b {
		b[i] = byte(kind*31 + i*7 + i/256)
	}
	return string(b)
}

// shape is how many keys a tree has, and how these and their values look.
type shape struct {
	name  string
	count int
	key   func(i int) string
	value func(i int) string
}

func shapes() []shape {
	none := func(int) string { return "" }
	short := func(i int) string { return data(i, i%65) }
	digits := func(i int) string { return fmt.Sprintf("%04d", 2*i) }
	return []shape{
		{"no key", 0, digits, none},
		{"the empty key", 1, func(int) string { return "" }, short},
		{"one key", 1, digits, short},
		{"one leaf", 9, digits, none},
		{"two leaves", 20, digits, func(i int) string { return data(i, 20) }},
		{"short", 400, digits, short},
		{"numbers", 300, func(i int) string { return fmt.Sprint(i) }, none},
		{"beginnings of one another", 128, func(i int) string { return times("a", i) }, short},
		{"alike up to the end", 200, func(i int) string { return times("k", 124) + digits(i) }, short},
		{"alike from the beginning on", 200, func(i int) string { return digits(i) + times("k", 124) }, none},
		{"noughts and greatest bytes", 129, func(i int) string { return times("\x00", i%65) + times("\xff", i/2) }, none},
		{"long values", 120, digits, func(i int) string { return data(i, i*211%2049) }},
	}
}

// tree is a right tree in a world, its keys, rising, and their values.
type tree struct {
	*world
	root   int
	keys   []string
	values map[string]string
}

// grown is a tree of a shape, whose keys were put in a mixed order.
func grown(t testing.TB, s shape) tree {
	t.Helper()
	g := tree{world: fresh(t, 1200), values: map[string]string{}}
	for _, i := range rand.New(rand.NewSource(5)).Perm(s.count) {
		g.values[s.key(i)] = s.value(i)
		g.root = g.put(t, g.root, s.key(i), s.value(i))
		g.keep(t, g.root)
	}
	g.keys = slices.Sorted(maps.Keys(g.values))
	return g
}

// notBelow is the place of the least key that is not below one; -1, if there is none.
func (g tree) notBelow(key string) int {
	for i, k := range g.keys {
		if k >= key {
			return i
		}
	}
	return -1
}

// beside is the place that many keys behind another; -1, if there is none.
func (g tree) beside(at, by int) int {
	if at < 0 || at+by < 0 || at+by >= len(g.keys) {
		return -1
	}
	return at + by
}

// checkAt: a call has answered ok and e, and the cursor stands at the key at a
// place, with its value; -1: at none.
func (g tree) checkAt(t testing.TB, c *Cursor, ok bool, e api.Errno, at int) {
	t.Helper()
	if at < 0 {
		checkNone(t, c, ok, e)
		return
	}
	checkStands(t, c, ok, e, g.keys[at], g.values[g.keys[at]])
}

func checkStands(t testing.TB, c *Cursor, ok bool, e api.Errno, key, value string) {
	t.Helper()
	if !ok || e != api.OK {
		t.Fatalf("%t, error %d, want the key %q", ok, e, key)
	}
	if !c.Valid() || string(c.Key()) != key {
		t.Fatalf("Valid %t, Key %q, want %q", c.Valid(), c.Key(), key)
	}
	if v, e := c.Value(); string(v) != value || e != api.OK {
		t.Fatalf("the value of %q: %d bytes, error %d, want %d bytes", key, len(v), e, len(value))
	}
}

// checkNone: a call has answered ok and e, and the cursor stands at no key.
func checkNone(t testing.TB, c *Cursor, ok bool, e api.Errno) {
	t.Helper()
	if ok || e != api.OK {
		t.Fatalf("%t, error %d, want no key, and %q is there", ok, e, c.Key())
	}
	checkNowhere(t, c)
}

// checkNowhere: the cursor stands at no key.
func checkNowhere(t testing.TB, c *Cursor) {
	t.Helper()
	if c.Valid() || len(c.Key()) != 0 {
		t.Fatalf("Valid %t, Key %q, want none", c.Valid(), c.Key())
	}
	if v, e := c.Value(); len(v) != 0 || e != api.ErrState {
		t.Fatalf("the value at no key: %q, error %d, want %d", v, e, api.ErrState)
	}
}

// checkCorrupt: a call has answered ok and e for a damaged page; the cursor stands
// at no key then, and stays there.
func checkCorrupt(t testing.TB, c *Cursor, ok bool, e api.Errno) {
	t.Helper()
	if ok || e != api.ErrCorrupt {
		t.Fatalf("%t, error %d, want %d; %q is there", ok, e, api.ErrCorrupt, c.Key())
	}
	checkNowhere(t, c)
	ok, e = c.Next()
	checkNone(t, c, ok, e)
	ok, e = c.Prev()
	checkNone(t, c, ok, e)
}

// unchanged tells what no call may have touched, when it is asked again.
func (w *world) unchanged(t testing.TB) func() {
	image, pending, left := w.d.Image(), w.d.Pending(), w.f.Left()
	return func() {
		t.Helper()
		if !bytes.Equal(w.d.Image(), image) || !slices.Equal(w.d.Pending(), pending) || w.f.Left() != left {
			t.Fatalf("something was written: the pages %v; %d are free, were %d", w.d.Pending()[len(pending):], w.f.Left(), left)
		}
	}
}
