package cursor

import (
	"fmt"
	"math/rand"
	"slices"
	"testing"

	"quarry/api"
	"quarry/node"
)

// lying is where a key lies in a tree.
type lying struct {
	key    string
	way    []int // the pages from the root down to its leaf
	pieces []int // those of its long value
}

// leaves is where all keys of a right tree lie, rising.
func (w *world) leaves(root int) []lying {
	if root == 0 {
		return nil
	}
	return w.under(root, nil)
}

func (w *world) under(page int, way []int) []lying {
	load, _ := w.p.Read(page)
	n, _ := node.Decode(load)
	way = append(slices.Clone(way), page)
	var l []lying
	for _, c := range n.Cells {
		one := lying{key: string(c.Key), way: way}
		for piece := c.Over; piece != 0; {
			one.pieces = append(one.pieces, piece)
			load, _ := w.p.Read(piece)
			_, piece, _ = node.Open(load)
		}
		l = append(l, one)
	}
	for _, kid := range n.Kids {
		l = append(l, w.under(kid, way)...)
	}
	return l
}

// wayOf is the pages from the root down to the leaf to which a key belongs.
func (w *world) wayOf(root int, key string) []int {
	way := []int{root}
	for {
		load, _ := w.p.Read(way[len(way)-1])
		n, _ := node.Decode(load)
		if n.Leaf {
			return way
		}
		kid := 0
		for kid < len(n.Keys) && string(n.Keys[kid]) <= key {
			kid++
		}
		way = append(way, n.Kids[kid])
	}
}

// mustRead is the pages that must be read for the least key that is not below one.
func (g tree) mustRead(key string, all []lying) []int {
	pages := g.wayOf(g.root, key)
	if at := g.notBelow(key); at >= 0 {
		pages = append(pages, all[at].way...)
	}
	return pages
}

// spoils is ways in which a page is no more what it was.
func spoils() map[string]func(t testing.TB, w *world, page int) {
	return map[string]func(t testing.TB, w *world, page int){
		"turned":        func(t testing.TB, w *world, page int) { w.turn(t, page, page*37%512) },
		"turned sum":    func(t testing.TB, w *world, page int) { w.turn(t, page, 508+page%4) },
		"noughts":       func(t testing.TB, w *world, page int) { w.lay(t, page, make([]byte, 508)) },
		"no load":       func(t testing.TB, w *world, page int) { w.lay(t, page, []byte(data(7, 508))) },
		"without cells": func(t testing.TB, w *world, page int) { w.lay(t, page, append([]byte{1}, make([]byte, 507)...)) },
		"the other kind": func(t testing.TB, w *world, page int) {
			if load, _ := w.p.Read(page); load[0] == 3 {
				w.layNode(t, page, leafOf(cellOf("a", "b")))
			} else {
				w.layPiece(t, page, "data", 0)
			}
		},
	}
}

// spoilt does something while a page is spoilt; then it is what it was.
func (w *world) spoilt(t testing.TB, page int, spoil func(testing.TB, *world, int), do func()) {
	t.Helper()
	was, _ := w.d.Read(page)
	spoil(t, w, page)
	do()
	w.d.Write(page, was)
}

// fewKeys is shapes of trees, deep ones and such with long values, that are gone
// through page by page.
func fewKeys() []shape {
	l := slices.Clone(shapes())
	l = slices.DeleteFunc(l, func(s shape) bool { return s.count < 9 || s.name == "numbers" })
	for i := range l {
		l[i].count = min(l[i].count, 50)
	}
	return l
}

// eachSpoil does a test of each page of some trees, spoilt in each way.
func eachSpoil(t *testing.T, test func(t *testing.T, g tree, all []lying, page int, spoil func(testing.TB, *world, int))) {
	t.Parallel()
	for _, s := range fewKeys() {
		for name, spoil := range spoils() {
			t.Run(s.name+", "+name, func(t *testing.T) {
				t.Parallel()
				g := grown(t, s)
				all := g.leaves(g.root)
				pages, _ := g.s.Pages(g.root)
				for _, page := range pages {
					test(t, g, all, page, spoil)
				}
			})
		}
	}
}

// 10.1: First, Last and Seek tell a damaged page if they must read it, and no other.
func TestSpoiltFromRoot(t *testing.T) {
	eachSpoil(t, func(t *testing.T, g tree, all []lying, page int, spoil func(testing.TB, *world, int)) {
		last := len(g.keys) - 1
		probes := []string{"", times("\xff", 128)}
		for i, k := range append(slices.Clone(g.keys), g.between(g.root)...) {
			probes = append(probes, around(k)[i%6], k)
		}
		needed := map[string][]int{}
		for _, key := range probes {
			needed[key] = g.mustRead(key, all)
		}
		c := g.cursor(g.root)
		check := func(ok bool, e api.Errno, at int, pages []int) {
			t.Helper()
			switch {
			case slices.Contains(pages, page):
				checkCorrupt(t, c, ok, e)
			case at < 0:
				checkNone(t, c, ok, e)
			case !ok || e != api.OK || !c.Valid() || string(c.Key()) != g.keys[at]:
				t.Fatalf("%t, error %d, Valid %t, Key %q, want %q", ok, e, c.Valid(), c.Key(), g.keys[at])
			}
		}
		g.spoilt(t, page, spoil, func() {
			ok, e := c.First()
			check(ok, e, 0, all[0].way)
			ok, e = c.Last()
			check(ok, e, last, all[last].way)
			for _, key := range probes {
				ok, e = c.Seek([]byte(key))
				check(ok, e, g.notBelow(key), needed[key])
			}
		})
		ok, e := c.First()
		g.checkAt(t, c, ok, e, 0)
	})
}

// 10.1: Next and Prev tell a damaged page if they must read it: one on the way to
// the other key that is not on the way to the first. The others do not matter.
func TestSpoiltSteps(t *testing.T) {
	eachSpoil(t, func(t *testing.T, g tree, all []lying, page int, spoil func(testing.TB, *world, int)) {
		c := g.cursor(g.root)
		for at, key := range g.keys {
			for _, by := range []int{1, -1} {
				c.Seek([]byte(key))
				g.spoilt(t, page, spoil, func() {
					call := c.Next
					if by < 0 {
						call = c.Prev
					}
					ok, e := call()
					to := g.beside(at, by)
					switch {
					case to < 0:
						checkNone(t, c, ok, e)
					case slices.Contains(all[to].way, page) && !slices.Contains(all[at].way, page):
						checkCorrupt(t, c, ok, e)
					case !ok || e != api.OK || !c.Valid() || string(c.Key()) != g.keys[to]:
						t.Fatalf("beside %q: %t, error %d, Key %q, want %q", key, ok, e, c.Key(), g.keys[to])
					}
				})
			}
		}
	})
}

// 10.2: Value tells a damaged page of a long value, and one on the way to it; the
// cursor stands where it stood. A short value has no such page.
func TestSpoiltValues(t *testing.T) {
	eachSpoil(t, func(t *testing.T, g tree, all []lying, page int, spoil func(testing.TB, *world, int)) {
		c := g.cursor(g.root)
		for at, key := range g.keys {
			ok, e := c.Seek([]byte(key))
			long := len(all[at].pieces) > 0
			g.spoilt(t, page, spoil, func() {
				if !long || !slices.Contains(all[at].way, page) && !slices.Contains(all[at].pieces, page) {
					g.checkAt(t, c, ok, e, at)
					return
				}
				if v, e := c.Value(); len(v) != 0 || e != api.ErrCorrupt {
					t.Fatalf("the value of %q: %d bytes, error %d", key, len(v), e)
				}
				if !c.Valid() || string(c.Key()) != key {
					t.Fatalf("Valid %t, Key %q, want %q", c.Valid(), c.Key(), key)
				}
			})
			g.checkAt(t, c, ok, e, at)
		}
	})
}

// 10.2: long values whose pieces are right, but not those of the value.
func TestOtherPieces(t *testing.T) {
	for name, lay := range map[string]func(w *world){
		"one byte fewer":     func(w *world) { w.layPiece(t, 6, data(2, 96), 0) },
		"one byte more":      func(w *world) { w.layPiece(t, 6, data(2, 98), 0) },
		"one piece fewer":    func(w *world) { w.layPiece(t, 5, data(1, 503), 0) },
		"one piece more":     func(w *world) { w.layPiece(t, 6, data(2, 97), 7) },
		"a ring":             func(w *world) { w.layPiece(t, 5, data(1, 1), 5) },
		"a piece of no page": func(w *world) { w.layPiece(t, 5, data(1, 503), 30) },
		"no such value":      func(w *world) { w.layNode(t, 2, leafOf(cellOf("a", "1"), longOf("b", 4095, 600))) },
	} {
		t.Run(name, func(t *testing.T) {
			w := fresh(t, 30)
			w.layNode(t, 2, leafOf(cellOf("a", "1"), longOf("b", 5, 600)))
			w.layPiece(t, 5, data(1, 503), 6)
			w.layPiece(t, 6, data(2, 97), 0)
			w.layPiece(t, 7, "x", 0)
			c := w.cursor(2)
			ok, e := c.Last()
			checkStands(t, c, ok, e, "b", data(1, 503)+data(2, 97))
			lay(w)
			ok, e = c.Last()
			if v, e := c.Value(); !ok || e != api.ErrCorrupt || len(v) != 0 || string(c.Key()) != "b" {
				t.Errorf("%t, Key %q, %d bytes, error %d", ok, c.Key(), len(v), e)
			}
			ok, e = c.Prev()
			checkStands(t, c, ok, e, "a", "1")
		})
	}
}

// 10.1: roots and kids that are no page.
func TestNoPage(t *testing.T) {
	w := fresh(t, 40)
	w.layNode(t, 2, leafOf(cellOf("a", "1")))
	w.layNode(t, 3, leafOf(cellOf("z", "2")))
	w.layNode(t, 4, innerOf([]int{2, 40, 3}, "m", "t"))
	for _, root := range []int{-1 << 62, -4096, -1, 1, 40, 41, 4095, 4096, 1<<62 + 2} {
		c := w.cursor(root)
		for _, call := range []func() (bool, api.Errno){c.First, c.Last, func() (bool, api.Errno) { return c.Seek(nil) }} {
			ok, e := call()
			checkCorrupt(t, c, ok, e)
		}
	}
	c := w.cursor(4)
	ok, e := c.First()
	checkStands(t, c, ok, e, "a", "1")
	ok, e = c.Next()
	checkCorrupt(t, c, ok, e)
	ok, e = c.Last()
	checkStands(t, c, ok, e, "z", "2")
	ok, e = c.Prev()
	checkCorrupt(t, c, ok, e)
	for key, want := range map[string]string{"": "a", "a": "a", "aa": "", "m": "", "s": "", "t": "z", "z": "z"} {
		ok, e := c.Seek([]byte(key))
		if want == "" {
			checkCorrupt(t, c, ok, e)
		} else if !ok || e != api.OK || string(c.Key()) != want {
			t.Errorf("Seek(%q): %t, error %d, %q", key, ok, e, c.Key())
		}
	}
}

// spine lays nodes one below the other, each the last kid, or the first one, of that
// above it; its other kid is a leaf. So their keys rise, and leaves lie from 1 node
// below the root, at page 2, down to depth. Answered are the keys, from above to below.
func (w *world) spine(t testing.TB, depth int, left bool) []string {
	t.Helper()
	var keys []string
	key := func(i int) string {
		if left {
			i = 60 - i
		}
		return fmt.Sprintf("%02d", i)
	}
	for i := range depth {
		w.layNode(t, 50+i, leafOf(cellOf(key(i), "v")))
		keys = append(keys, key(i))
		if left {
			w.layNode(t, 2+i, innerOf([]int{3 + i, 50 + i}, key(i)))
		} else {
			w.layNode(t, 2+i, innerOf([]int{50 + i, 3 + i}, key(i+1)))
		}
	}
	w.layNode(t, 2+depth, leafOf(cellOf(key(depth), "v")))
	return append(keys, key(depth))
}

// 10.1: a page may lie 12 nodes below the root, and no deeper: then it is told as
// soon as it must be read.
func TestDepth(t *testing.T) {
	for depth := range 20 {
		for _, left := range []bool{false, true} {
			w := fresh(t, 100)
			keys := w.spine(t, depth, left)
			c := w.cursor(2)
			near, far, step := c.First, c.Last, c.Next
			if left {
				near, far, step = c.Last, c.First, c.Prev
			}
			ok, e := near()
			for i, key := range keys {
				// the two deepest keys lie at depth, the others one below their nodes
				if min(i+1, depth) > 12 {
					checkCorrupt(t, c, ok, e)
					break
				}
				checkStands(t, c, ok, e, key, "v")
				ok, e = step()
			}
			if depth <= 12 {
				checkNone(t, c, ok, e)
			}
			ok, e = far()
			if depth > 12 {
				checkCorrupt(t, c, ok, e)
			} else {
				checkStands(t, c, ok, e, keys[depth], "v")
			}
			for i, key := range keys {
				ok, e = c.Seek([]byte(key))
				if min(i+1, depth) > 12 {
					checkCorrupt(t, c, ok, e)
				} else {
					checkStands(t, c, ok, e, key, "v")
				}
			}
		}
	}
}

// 10.1 with R1: pages that lead back to themselves.
func TestRings(t *testing.T) {
	w := fresh(t, 20)
	w.layNode(t, 2, innerOf([]int{2, 2}, "m"))
	w.layNode(t, 3, innerOf([]int{4, 4}, "m"))
	w.layNode(t, 4, innerOf([]int{3, 3}, "m"))
	for root := 2; root <= 4; root++ {
		c := w.cursor(root)
		for _, call := range []func() (bool, api.Errno){
			c.First, c.Last, func() (bool, api.Errno) { return c.Seek(nil) },
			func() (bool, api.Errno) { return c.Seek([]byte("m")) },
		} {
			ok, e := call()
			checkCorrupt(t, c, ok, e)
		}
	}
	// a leaf on the one side, and the node itself on the other
	w.layNode(t, 5, leafOf(cellOf("a", "1")))
	w.layNode(t, 6, innerOf([]int{5, 6}, "m"))
	c := w.cursor(6)
	ok, e := c.First()
	for range 12 {
		checkStands(t, c, ok, e, "a", "1")
		ok, e = c.Next()
	}
	checkCorrupt(t, c, ok, e)
	ok, e = c.Last()
	checkCorrupt(t, c, ok, e)
}

// A key that stands in a leaf to which it does not belong: its long value is not told.
func TestStrayLongValue(t *testing.T) {
	w := fresh(t, 20)
	w.layPiece(t, 2, data(1, 100), 0)
	w.layNode(t, 3, leafOf(longOf("x", 2, 100)))
	w.layNode(t, 4, leafOf(cellOf("y", "1")))
	w.layNode(t, 5, innerOf([]int{3, 4}, "m"))
	c := w.cursor(5)
	c.First()
	if v, e := c.Value(); len(v) != 0 || e != api.ErrCorrupt {
		t.Errorf("%d bytes, error %d", len(v), e)
	}
}

// Without power a page cannot be read: that is told as the pager tells it, and the
// cursor stands at no key then; what need not be read is there.
func TestDown(t *testing.T) {
	w := fresh(t, 40)
	w.layNode(t, 2, leafOf(cellOf("a", "1"), cellOf("b", "2")))
	w.layPiece(t, 3, data(1, 100), 0)
	w.layNode(t, 4, leafOf(longOf("n", 3, 100)))
	w.layNode(t, 5, innerOf([]int{2, 4}, "m"))
	c, long := w.cursor(5), w.cursor(5)
	c.First()
	long.Last()
	w.d.Arm(0)
	w.d.Sync()
	if v, e := long.Value(); len(v) != 0 || e != api.ErrDown {
		t.Errorf("a long value: %d bytes, error %d", len(v), e)
	}
	ok, e := c.Next()
	checkStands(t, c, ok, e, "b", "2")
	for _, call := range []func() (bool, api.Errno){
		c.Next, long.Prev, c.First, c.Last, func() (bool, api.Errno) { return c.Seek(nil) },
	} {
		if ok, e := call(); ok || e != api.ErrDown {
			t.Errorf("%t, error %d", ok, e)
		}
	}
	checkNowhere(t, c)
	checkNowhere(t, long)
	w.d.Mend([]bool{true, true, true, true, true, true}, -1, 0)
	ok, e = c.Last()
	checkStands(t, c, ok, e, "n", data(1, 100))
}

// anyPage is a page's load by chance: a node, a piece, or neither.
func anyPage(r *rand.Rand, pages int) []byte {
	page := func() int { return 2 + r.Intn(pages) }
	n := node.Node{Leaf: r.Intn(3) > 0}
	var keys []string
	for range 1 + r.Intn(5) {
		keys = append(keys, times(string(rune('a'+r.Intn(6))), r.Intn(4))+times("k", r.Intn(2)*r.Intn(124)))
	}
	slices.Sort(keys)
	for _, k := range slices.Compact(keys) {
		switch {
		case !n.Leaf:
			n.Keys, n.Kids = append(n.Keys, []byte(k)), append(n.Kids, page())
		case r.Intn(3) == 0:
			n.Cells = append(n.Cells, longOf(k, page(), 65+r.Intn(300)))
		default:
			n.Cells = append(n.Cells, cellOf(k, times("v", r.Intn(30))))
		}
	}
	if !n.Leaf {
		n.Kids = append(n.Kids, page())
	}
	if load, e := node.Encode(n); e == api.OK && r.Intn(9) > 0 {
		return load
	}
	if load, e := node.Piece([]byte(data(1, 65+r.Intn(300))), page()*r.Intn(2)); e == api.OK && r.Intn(9) > 0 {
		return load
	}
	b := make([]byte, 508)
	r.Read(b[:r.Intn(508)])
	return b
}

// through hands on the cells below a page one behind the other, from the left or
// from the right, as long as each wants more; not ok: a page is none of a tree's.
func (w *world) through(page, depth int, falling bool, each func(node.Cell) bool) (more, ok bool) {
	load, e := w.p.Read(page)
	if e != api.OK || depth > 12 {
		return false, false
	}
	n, e := node.Decode(load)
	if e != api.OK {
		return false, false
	}
	if falling {
		slices.Reverse(n.Cells)
		slices.Reverse(n.Kids)
	}
	for _, c := range n.Cells {
		if !each(c) {
			return false, true
		}
	}
	for _, kid := range n.Kids {
		if more, ok := w.through(kid, depth+1, falling, each); !more {
			return false, ok
		}
	}
	return true, true
}

// checkThrough: a cursor goes through any pages, as far as these are a tree's; so
// many steps at most.
func (w *world) checkThrough(t testing.TB, root, most int, falling bool) {
	t.Helper()
	c := w.cursor(root)
	start, step := c.First, c.Next
	if falling {
		start, step = c.Last, c.Prev
	}
	at, e := start()
	more, ok := w.through(root, 0, falling, func(cell node.Cell) bool {
		if !at || e != api.OK || !c.Valid() || string(c.Key()) != string(cell.Key) {
			t.Fatalf("%t, error %d, Key %q, want %q", at, e, c.Key(), cell.Key)
		}
		value, e1 := c.Value()
		if cell.Over == 0 && (string(value) != string(cell.Value) || e1 != api.OK) || len(value) != 0 && e1 != api.OK {
			t.Fatalf("the value of %q: %d bytes, error %d", cell.Key, len(value), e1)
		}
		at, e = step()
		most--
		return most > 0
	})
	switch {
	case !ok:
		checkCorrupt(t, c, at, e)
	case more:
		checkNone(t, c, at, e)
	}
}

// checkAnySeek: over any pages Seek tells a page on the way down that is none of a
// tree's, and finds a key that is where it belongs; it ends whatever is there.
func (w *world) checkAnySeek(t testing.TB, root int, key string) {
	t.Helper()
	c := w.cursor(root)
	ok, e := c.Seek([]byte(key))
	page := root
	for range 13 {
		load, _ := w.p.Read(page)
		n, wrong := node.Decode(load)
		if wrong != api.OK {
			break
		}
		if n.Leaf {
			for _, cell := range n.Cells {
				if string(cell.Key) >= key {
					if !ok || e != api.OK || string(c.Key()) != string(cell.Key) {
						t.Fatalf("Seek(%q): %t, error %d, Key %q, want %q", key, ok, e, c.Key(), cell.Key)
					}
					return
				}
			}
			if ok != c.Valid() || ok && e != api.OK {
				t.Fatalf("Seek(%q): %t, error %d, Valid %t", key, ok, e, c.Valid())
			}
			return
		}
		kid := 0
		for kid < len(n.Keys) && string(n.Keys[kid]) <= key {
			kid++
		}
		page = n.Kids[kid]
	}
	checkCorrupt(t, c, ok, e)
}

// 10.1, 10.2 with R1: over any pages whatever all calls end, and tell what the words say.
func TestAnyPages(t *testing.T) {
	t.Parallel()
	for seed := range int64(200) {
		r := rand.New(rand.NewSource(seed))
		w := fresh(t, 40)
		count := 3 + r.Intn(25)
		for page := 2; page < 2+count; page++ {
			w.lay(t, page, anyPage(r, count+r.Intn(2)))
			if r.Intn(15) == 0 {
				w.turn(t, page, r.Intn(512))
			}
		}
		same := w.unchanged(t)
		for root := 1; root < 3+count; root++ {
			w.checkThrough(t, root, 300, false)
			w.checkThrough(t, root, 300, true)
			for _, key := range []string{"", "a", "bb", "c" + times("k", r.Intn(128)), "f", "zz", times("d", 500)} {
				w.checkAnySeek(t, root, key)
			}
		}
		same()
	}
}

// R1: calls in any order over any pages end, and each says what Valid says.
func TestAnyCallsOverAnyPages(t *testing.T) {
	t.Parallel()
	for seed := range int64(150) {
		r := rand.New(rand.NewSource(1000 + seed))
		w := fresh(t, 30)
		for page := 2; page < 30; page++ {
			w.lay(t, page, anyPage(r, 29))
		}
		for root := 2; root < 30; root++ {
			c := w.cursor(root)
			for range 60 {
				calls := []func() (bool, api.Errno){
					c.First, c.Last, c.Next, c.Next, c.Next, c.Prev, c.Prev, c.Prev,
					func() (bool, api.Errno) { return c.Seek([]byte(times("c", r.Intn(5)))) },
				}
				ok, e := calls[r.Intn(len(calls))]()
				if ok != c.Valid() || ok && e != api.OK || e != api.OK && e != api.ErrCorrupt {
					t.Fatalf("%t, error %d, Valid %t", ok, e, c.Valid())
				}
				if !ok {
					checkNowhere(t, c)
				}
				c.Value()
			}
		}
	}
}
