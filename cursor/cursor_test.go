package cursor

import (
	"math/rand"
	"testing"

	"quarry/api"
	"quarry/node"
)

// The chapter's example.
func TestExample(t *testing.T) {
	w := fresh(t, 20)
	root := w.put(t, w.put(t, 0, "a", "1"), "c", "3")
	c := w.cursor(root)
	ok, e := c.Seek([]byte("b"))
	checkStands(t, c, ok, e, "c", "3")
	ok, e = c.Next()
	checkNone(t, c, ok, e)
	ok, e = c.First()
	checkStands(t, c, ok, e, "a", "1")
	for range 2 {
		ok, e = c.Prev()
		checkNone(t, c, ok, e)
	}
	ok, e = c.Seek([]byte("d"))
	checkNone(t, c, ok, e)
}

// 10.1: a new cursor stands at no key, and has read nothing: whatever the root is.
func TestNew(t *testing.T) {
	w := fresh(t, 20)
	for _, root := range []int{w.put(t, 0, "a", "1"), 0, 1, -1, 19, 20, 4096, 1 << 40} {
		c := w.cursor(root)
		checkNowhere(t, c)
		ok, e := c.Next()
		checkNone(t, c, ok, e)
		ok, e = c.Prev()
		checkNone(t, c, ok, e)
	}
}

// 10.1: the empty tree has no key, whichever is asked for.
func TestEmptyTree(t *testing.T) {
	w := fresh(t, 3)
	c := w.cursor(0)
	for range 2 {
		for _, call := range []func() (bool, api.Errno){c.First, c.Last, c.Next, c.Prev} {
			ok, e := call()
			checkNone(t, c, ok, e)
		}
		for _, key := range []string{"", "a", times("\xff", 200)} {
			ok, e := c.Seek([]byte(key))
			checkNone(t, c, ok, e)
		}
	}
}

// eachShape does a test over a tree of each shape.
func eachShape(t *testing.T, test func(t *testing.T, g tree)) {
	t.Parallel()
	for _, s := range shapes() {
		t.Run(s.name, func(t *testing.T) {
			t.Parallel()
			g := grown(t, s)
			same := g.unchanged(t)
			test(t, g)
			same()
		})
	}
}

// The trees of the tests are of one leaf, and of several nodes one below the other.
func TestShapesAreDeep(t *testing.T) {
	most := 0
	for _, s := range shapes() {
		g := grown(t, s)
		for _, l := range g.leaves(g.root) {
			most = max(most, len(l.way)-1)
		}
	}
	if most < 3 {
		t.Errorf("the deepest leaf lies %d nodes below its root", most)
	}
}

// 10.1, 10.3: from First on Next goes through all keys, rising, each once; behind
// the last one there is none, and it stays so.
func TestRising(t *testing.T) {
	eachShape(t, func(t *testing.T, g tree) {
		c := g.cursor(g.root)
		for range 2 {
			ok, e := c.First()
			for at := range g.keys {
				g.checkAt(t, c, ok, e, at)
				ok, e = c.Next()
			}
			checkNone(t, c, ok, e)
			ok, e = c.Next()
			checkNone(t, c, ok, e)
			ok, e = c.Prev()
			checkNone(t, c, ok, e)
		}
	})
}

// 10.1, 10.3: from Last on Prev goes through all keys, falling, each once; ahead of
// the first one there is none, and it stays so.
func TestFalling(t *testing.T) {
	eachShape(t, func(t *testing.T, g tree) {
		c := g.cursor(g.root)
		for range 2 {
			ok, e := c.Last()
			for i := range g.keys {
				g.checkAt(t, c, ok, e, len(g.keys)-1-i)
				ok, e = c.Prev()
			}
			checkNone(t, c, ok, e)
			ok, e = c.Prev()
			checkNone(t, c, ok, e)
			ok, e = c.Next()
			checkNone(t, c, ok, e)
		}
	})
}

// around is keys on both sides of one, as near as may be, and farther off.
func around(key string) []string {
	l := []string{key, key + "\x00", key + "\xff", key + times("\xff", 200), key + times("\x00", 129)}
	if last := len(key) - 1; last >= 0 {
		l = append(l, key[:last], key[:len(key)/2], key[:last]+string([]byte{key[last] - 1}),
			key[:last]+string([]byte{key[last] + 1}), key[:last]+string([]byte{key[last] - 1})+times("\xff", 130))
	}
	return l
}

// probes is keys to look for in a tree: below all, above all, at and around all
// that stand in its leaves, and those that stand between its nodes.
func (g tree) probes() []string {
	l := []string{"", "\x00", times("\x00", 300), "\xff", times("\xff", 128), times("\xff", 300), "m"}
	for _, k := range g.keys {
		l = append(l, around(k)...)
	}
	for _, k := range g.between(g.root) {
		l = append(l, around(k)...)
	}
	return l
}

// between is all keys of the nodes that are no leaves.
func (w *world) between(page int) []string {
	if page == 0 {
		return nil
	}
	load, _ := w.p.Read(page)
	n, _ := node.Decode(load)
	var l []string
	for _, k := range n.Keys {
		l = append(l, string(k))
	}
	for _, kid := range n.Kids {
		l = append(l, w.between(kid)...)
	}
	return l
}

// 10.1: Seek of keys that are there, and of others; its neighbours are found from there.
func TestSeek(t *testing.T) {
	eachShape(t, func(t *testing.T, g tree) {
		c := g.cursor(g.root)
		for _, key := range g.probes() {
			at := g.notBelow(key)
			for _, by := range []int{1, -1} {
				ok, e := c.Seek([]byte(key))
				g.checkAt(t, c, ok, e, at)
				if by > 0 {
					ok, e = c.Next()
				} else {
					ok, e = c.Prev()
				}
				g.checkAt(t, c, ok, e, g.beside(at, by))
			}
		}
	})
}

// 10.3: Next behind Prev stands where it stood, and the other way round, from every
// key that has one on both sides; at the ends it stands at none then.
func TestThereAndBack(t *testing.T) {
	eachShape(t, func(t *testing.T, g tree) {
		c := g.cursor(g.root)
		for at, key := range g.keys {
			ok, e := c.Seek([]byte(key))
			g.checkAt(t, c, ok, e, at)
			place := at
			for _, by := range []int{1, -1, -1, 1, 1, -1} {
				if by > 0 {
					ok, e = c.Next()
				} else {
					ok, e = c.Prev()
				}
				place = g.beside(place, by)
				g.checkAt(t, c, ok, e, place)
			}
		}
	})
}

// 10.1 to 10.3: calls of all kinds in any order, with two cursors over one tree.
func TestAnyCalls(t *testing.T) {
	eachShape(t, func(t *testing.T, g tree) {
		r := rand.New(rand.NewSource(int64(len(g.keys))))
		probes := g.probes()
		cursors := []*Cursor{g.cursor(g.root), g.cursor(g.root)}
		places := []int{-1, -1}
		for range 3000 {
			i := r.Intn(2)
			c, at := cursors[i], places[i]
			var ok bool
			var e api.Errno
			switch r.Intn(12) {
			case 0:
				ok, e = c.First()
				at = g.notBelow("")
			case 1:
				ok, e = c.Last()
				at = len(g.keys) - 1
			case 2:
				key := probes[r.Intn(len(probes))]
				ok, e = c.Seek([]byte(key))
				at = g.notBelow(key)
			case 3, 4, 5, 6:
				ok, e = c.Prev()
				at = g.beside(at, -1)
			default:
				ok, e = c.Next()
				at = g.beside(at, 1)
			}
			g.checkAt(t, c, ok, e, at)
			places[i] = at
		}
	})
}

// 10.2: values of all sizes at the edges: short ones, and long ones of one piece and of several.
func TestValueSizes(t *testing.T) {
	sizes := []int{0, 1, 63, 64, 65, 502, 503, 504, 1006, 1007, 1509, 1510, 2012, 2013, 2047, 2048}
	w, root := fresh(t, 300), 0
	for i, size := range sizes {
		root = w.put(t, root, string(rune('a'+i)), data(i, size))
	}
	c := w.cursor(root)
	ok, e := c.First()
	for i, size := range sizes {
		checkStands(t, c, ok, e, string(rune('a'+i)), data(i, size))
		checkStands(t, c, ok, e, string(rune('a'+i)), data(i, size))
		ok, e = c.Next()
	}
	checkNone(t, c, ok, e)
}

// A cursor goes through its own tree, whatever other trees are made meanwhile.
func TestOlderTree(t *testing.T) {
	g := grown(t, shapes()[11])
	c := g.cursor(g.root)
	ok, e := c.First()
	newer := g.root
	for at, key := range g.keys {
		g.checkAt(t, c, ok, e, at)
		made, _, e1 := g.s.Delete(newer, []byte(key))
		if e1 != api.OK {
			t.Fatalf("Delete: error %d", e1)
		}
		newer = g.put(t, made, "x"+key, "new")
		g.keep(t, g.root, newer)
		ok, e = c.Next()
	}
	checkNone(t, c, ok, e)
	c = g.cursor(newer)
	ok, e = c.First()
	for _, key := range g.keys {
		checkStands(t, c, ok, e, "x"+key, "new")
		ok, e = c.Next()
	}
	checkNone(t, c, ok, e)
}

// overwrite fills some bytes, and the room behind them.
func overwrite(b []byte) {
	b = b[:cap(b)]
	for i := range b {
		b[i] = 0xDD
	}
}

// R4: what Key and Value answer is the caller's own; the key that is looked for is
// neither changed nor kept.
func TestMemory(t *testing.T) {
	eachShape(t, func(t *testing.T, g tree) {
		c := g.cursor(g.root)
		for at, key := range g.keys {
			given := append([]byte(key), "behind the end"...)[:len(key)]
			ok, e := c.Seek(given)
			if string(given) != key || string(given[:len(key)+14]) != key+"behind the end" {
				t.Fatalf("Seek has changed its key: %q", given[:len(key)+14])
			}
			overwrite(given)
			g.checkAt(t, c, ok, e, at)
			value, _ := c.Value()
			other, _ := c.Value()
			overwrite(value)
			if string(other) != g.values[key] {
				t.Fatalf("two values of %q share memory", key)
			}
			held := c.Key()
			overwrite(c.Key())
			overwrite(other)
			g.checkAt(t, c, ok, e, at)
			ok, e = c.Next()
			g.checkAt(t, c, ok, e, g.beside(at, 1))
			if string(held) != key {
				t.Fatalf("the key %q has become %q", key, held)
			}
		}
	})
}
