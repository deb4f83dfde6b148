package btree

import (
	"bytes"
	"fmt"
	"maps"
	"slices"
	"strings"
	"testing"

	"quarry/api"
	"quarry/disk"
	"quarry/free"
	"quarry/node"
	"quarry/pager"
)

// world is a space with all that lies beneath it.
type world struct {
	d *disk.Disk
	p *pager.Pager
	f *free.Set
	s *Space
}

// over is a world over a disk, all of whose pages are free.
func over(t testing.TB, d *disk.Disk) *world {
	t.Helper()
	p, e := pager.Open(d)
	if e != api.OK {
		t.Fatalf("pager.Open: error %d", e)
	}
	f := free.New(d.Pages())
	return &world{d, p, f, New(p, f)}
}

// fresh is a world over a new disk.
func fresh(t testing.TB, pages int) *world {
	t.Helper()
	d, e := disk.New(pages)
	if e != api.OK || pager.Format(d) != api.OK {
		t.Fatalf("a disk of %d pages: error %d", pages, e)
	}
	return over(t, d)
}

// clone is a world of its own that is the same.
func (w *world) clone() *world {
	c := &world{d: w.d.Clone(), f: w.f.Clone()}
	c.p = w.p.Move(c.d)
	c.s = New(c.p, c.f)
	return c
}

// used is all pages that are in use.
func (w *world) used() []int {
	var l []int
	for n := 2; n < w.d.Pages(); n++ {
		if !w.f.Free(n) {
			l = append(l, n)
		}
	}
	return l
}

// leave lets just so many pages be free, beside those of a tree; the least ones
// are in use.
func (w *world) leave(t testing.TB, root, count int) {
	t.Helper()
	if e := w.s.Keep([]int{root}); e != api.OK {
		t.Fatalf("Keep(%d): error %d", root, e)
	}
	for w.f.Left() > count {
		w.f.Take()
	}
	if w.f.Left() != count {
		t.Fatalf("%d pages are free, want %d", w.f.Left(), count)
	}
}

func (w *world) lay(t testing.TB, page int, load []byte) {
	t.Helper()
	if e := w.p.Write(page, load); e != api.OK {
		t.Fatalf("page %d cannot be written: error %d", page, e)
	}
}

func (w *world) layNode(t testing.TB, page int, n node.Node) {
	t.Helper()
	load, e := node.Encode(n)
	if e != api.OK {
		t.Fatalf("the node for page %d: error %d", page, e)
	}
	w.lay(t, page, load)
}

func (w *world) layPiece(t testing.TB, page int, data []byte, next int) {
	t.Helper()
	load, e := node.Piece(data, next)
	if e != api.OK {
		t.Fatalf("the piece for page %d: error %d", page, e)
	}
	w.lay(t, page, load)
}

// turn turns a bit of a page, so that its sum is another's.
func (w *world) turn(t testing.TB, page, at int) {
	t.Helper()
	b, e := w.d.Read(page)
	if e != api.OK {
		t.Fatalf("page %d cannot be read: error %d", page, e)
	}
	b[at] ^= 4
	if e := w.d.Write(page, b); e != api.OK {
		t.Fatalf("page %d cannot be turned: error %d", page, e)
	}
}

func leafOf(cells ...node.Cell) node.Node { return node.Node{Leaf: true, Cells: cells} }

func cellOf(key, value string) node.Cell {
	return node.Cell{Key: []byte(key), Value: []byte(value), Size: len(value)}
}

func longOf(key string, over, size int) node.Cell {
	return node.Cell{Key: []byte(key), Over: over, Size: size}
}

func innerOf(kids []int, keys ...string) node.Node {
	n := node.Node{Kids: kids}
	for _, k := range keys {
		n.Keys = append(n.Keys, []byte(k))
	}
	return n
}

func times(text string, count int) string { return strings.Repeat(text, count) }

// data is some bytes that differ from their neighbours, and from those of another kind.
func data(kind, count int) string {
	b := make([]byte, count)
	for i := range b {
		b[i] = byte(kind*31 + i*7 + i/256)
	}
	return string(b)
}

// model is the cells of a tree, by their keys.
type model map[string]string

func (m model) with(key, value string) model {
	c := maps.Clone(m)
	if c == nil {
		c = model{}
	}
	c[key] = value
	return c
}

func (m model) without(key string) model {
	c := maps.Clone(m)
	delete(c, key)
	return c
}

// keys is all keys, rising.
func (m model) keys() []string { return slices.Sorted(maps.Keys(m)) }

// look is what a right tree has, found by the chapter's words.
type look struct {
	cells     model
	order     []string // the keys from the left to the right
	pages     []int    // rising
	ways      map[string][]int
	pieces    map[string][]int
	depth     int // of the leaves
	leaves    int
	leafBytes int
	parents   int // how many nodes have leaves as their kids; 1, if the root is a leaf
}

// lookAt goes through a tree; wrong is what is not right about it.
func (w *world) lookAt(root int) (l look, wrong error) {
	l = look{cells: model{}, ways: map[string][]int{}, pieces: map[string][]int{}, depth: -1}
	if root == 0 {
		return l, nil
	}
	defer func() {
		if thrown := recover(); thrown != nil {
			wrong = thrown.(error)
		}
	}()
	if n := w.through(&l, root, nil, "", ""); n.Leaf {
		l.parents = 1
	}
	slices.Sort(l.pages)
	if len(slices.Compact(slices.Clone(l.pages))) != len(l.pages) {
		return l, fmt.Errorf("a page is reached twice: %v", l.pages)
	}
	if !slices.IsSorted(l.order) || len(l.order) != len(l.cells) {
		return l, fmt.Errorf("the keys do not rise: %q", l.order)
	}
	return l, nil
}

// through goes through a node whose keys are from low on, and below high, if that
// is not empty.
func (w *world) through(l *look, page int, way []int, low, high string) node.Node {
	n := w.nodeAt(page)
	l.pages = append(l.pages, page)
	way = append(slices.Clone(way), page)
	within := func(key []byte) {
		if string(key) < low || high != "" && string(key) >= high {
			panic(fmt.Errorf("the key %q in page %d is not from %q up to %q", key, page, low, high))
		}
	}
	if n.Leaf {
		w.throughLeaf(l, n, way, within)
		return n
	}
	for _, k := range n.Keys {
		within(k)
	}
	var last node.Node
	for i, kid := range n.Kids {
		from, to := low, high
		if i > 0 {
			from = string(n.Keys[i-1])
		}
		if i < len(n.Keys) {
			to = string(n.Keys[i])
		}
		m := w.through(l, kid, way, from, to)
		if i > 0 && goTogether(last, m, []byte(from)) {
			panic(fmt.Errorf("the kids %d and %d of page %d go together", i-1, i, page))
		}
		last = m
	}
	if last.Leaf {
		l.parents++
	}
	return n
}

func (w *world) throughLeaf(l *look, n node.Node, way []int, within func([]byte)) {
	if depth := len(way) - 1; l.depth < 0 {
		l.depth = depth
	} else if depth != l.depth {
		panic(fmt.Errorf("leaves lie %d and %d deep", depth, l.depth))
	}
	if l.depth > 12 {
		panic(fmt.Errorf("leaves lie %d deep", l.depth))
	}
	l.leaves++
	l.leafBytes += node.Size(n)
	for _, c := range n.Cells {
		within(c.Key)
		k := string(c.Key)
		l.order = append(l.order, k)
		l.ways[k] = way
		if c.Over == 0 {
			l.cells[k] = string(c.Value)
			continue
		}
		for page := c.Over; page != 0; {
			data, next := w.pieceAt(page)
			if next != 0 && len(data) != 503 {
				panic(fmt.Errorf("a piece of %q has %d bytes, and is not the last one", k, len(data)))
			}
			l.cells[k] += string(data)
			l.pieces[k] = append(l.pieces[k], page)
			l.pages = append(l.pages, page)
			page = next
			if len(l.cells[k]) > c.Size {
				break
			}
		}
		if len(l.cells[k]) != c.Size {
			panic(fmt.Errorf("the value of %q has %d bytes, and Size is %d", k, len(l.cells[k]), c.Size))
		}
	}
}

func (w *world) nodeAt(page int) node.Node {
	load, e := w.p.Read(page)
	if e != api.OK {
		panic(fmt.Errorf("page %d: error %d", page, e))
	}
	n, e := node.Decode(load)
	if e != api.OK {
		panic(fmt.Errorf("the node of page %d: error %d", page, e))
	}
	return n
}

func (w *world) pieceAt(page int) ([]byte, int) {
	load, e := w.p.Read(page)
	if e != api.OK {
		panic(fmt.Errorf("page %d: error %d", page, e))
	}
	data, next, e := node.Open(load)
	if e != api.OK {
		panic(fmt.Errorf("the piece of page %d: error %d", page, e))
	}
	return data, next
}

// goTogether tells whether two neighbours would have at most 508 bytes as one node.
func goTogether(a, b node.Node, key []byte) bool {
	if a.Leaf != b.Leaf {
		return false // the leaves are not equally deep then
	}
	return node.Size(node.Node{
		Leaf:  a.Leaf,
		Cells: slices.Concat(a.Cells, b.Cells),
		Keys:  slices.Concat(a.Keys, [][]byte{key}, b.Keys),
	}) <= 508
}

// checkRight: the tree is right, and has just these cells.
func (w *world) checkRight(t testing.TB, root int, want model) look {
	t.Helper()
	l, wrong := w.lookAt(root)
	if wrong != nil {
		t.Fatalf("the tree %d: %v", root, wrong)
	}
	if !maps.Equal(l.cells, want) {
		t.Fatalf("the tree %d has the keys %q, want %q, or other values", root, brief(l.order), brief(want.keys()))
	}
	if (root == 0) != (len(want) == 0) {
		t.Fatalf("the tree %d has %d cells", root, len(want))
	}
	if most := 2*l.leafBytes/508 + l.parents; l.leaves > most {
		t.Fatalf("the tree %d has %d leaves of %d bytes under %d nodes, at most %d", root, l.leaves, l.leafBytes, l.parents, most)
	}
	return l
}

func brief(l []string) []string { return l[:min(len(l), 20)] }

// checkTree: the tree is right, has just these cells, and the calls tell them.
func (w *world) checkTree(t testing.TB, root int, want model) look {
	t.Helper()
	l := w.checkRight(t, root, want)
	for k, v := range want {
		w.checkGet(t, root, k, v)
		for _, other := range []string{k + "\x00", k[:len(k)/2], k + "~", "~" + k} {
			if _, there := want[other]; !there {
				w.checkNoGet(t, root, other)
			}
		}
	}
	w.checkPages(t, root, l.pages)
	return l
}

func (w *world) checkGet(t testing.TB, root int, key, want string) {
	t.Helper()
	if v, ok, e := w.s.Get(root, []byte(key)); string(v) != want || !ok || e != api.OK {
		t.Fatalf("Get(%d, %q): %d bytes, %t, error %d, want %d bytes", root, key, len(v), ok, e, len(want))
	}
}

func (w *world) checkNoGet(t testing.TB, root int, key string) {
	t.Helper()
	if v, ok, e := w.s.Get(root, []byte(key)); len(v) != 0 || ok || e != api.OK {
		t.Fatalf("Get(%d, %q): %q, %t, error %d, want none", root, key, v, ok, e)
	}
}

func (w *world) checkPages(t testing.TB, root int, want []int) {
	t.Helper()
	if l, e := w.s.Pages(root); !slices.Equal(l, want) || e != api.OK {
		t.Fatalf("Pages(%d): %v, error %d, want %v", root, l, e, want)
	}
}

func (w *world) put(t testing.TB, root int, key, value string) int {
	t.Helper()
	r, e := w.s.Put(root, []byte(key), []byte(value))
	if e != api.OK || r == 0 {
		t.Fatalf("Put(%d, %q, of %d bytes): %d, error %d", root, key, len(value), r, e)
	}
	return r
}

func (w *world) remove(t testing.TB, root int, key string) int {
	t.Helper()
	r, ok, e := w.s.Delete(root, []byte(key))
	if e != api.OK || !ok {
		t.Fatalf("Delete(%d, %q): %d, %t, error %d", root, key, r, ok, e)
	}
	return r
}

func (w *world) keep(t testing.TB, roots ...int) {
	t.Helper()
	if e := w.s.Keep(roots); e != api.OK {
		t.Fatalf("Keep(%v): error %d", roots, e)
	}
}

// all is the tree with all of some cells, put in the order of their keys.
func (w *world) all(t testing.TB, m model) int {
	t.Helper()
	root := 0
	for _, k := range m.keys() {
		root = w.put(t, root, k, m[k])
		w.keep(t, root)
	}
	return root
}

// unchanged tells what a call that is refused may not have touched, when it is asked again.
func (w *world) unchanged(t testing.TB) func() {
	used, image, pending := w.used(), w.d.Image(), w.d.Pending()
	return func() {
		t.Helper()
		if !slices.Equal(w.used(), used) {
			t.Fatalf("in use are %v, were %v", w.used(), used)
		}
		if !bytes.Equal(w.d.Image(), image) || !slices.Equal(w.d.Pending(), pending) {
			t.Fatalf("something was written: the pages %v", w.d.Pending()[len(pending):])
		}
	}
}
