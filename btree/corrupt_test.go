package btree

import (
	"fmt"
	"math/rand"
	"slices"
	"testing"

	"quarry/api"
	"quarry/node"
)

// use lets just the pages up to one be in use.
func (w *world) use(last int) {
	w.f.Only(nil)
	for range last - 1 {
		w.f.Take()
	}
}

// checkCorrupt: a key's way, of which a page is wrong, is told by all calls that
// must go there, and nothing is changed.
func (w *world) checkCorrupt(t testing.TB, root int, key string) {
	t.Helper()
	same := w.unchanged(t)
	w.checkNoValue(t, root, key)
	for _, size := range []int{0, 3, 64, 65, 2048} {
		w.checkNoPut(t, root, key, data(1, size), api.ErrCorrupt)
	}
	if r, ok, e := w.s.Delete(root, []byte(key)); r != 0 || ok || e != api.ErrCorrupt {
		t.Fatalf("Delete(%d, %q): %d, %t, error %d", root, key, r, ok, e)
	}
	w.checkNoPages(t, root)
	same()
}

func (w *world) checkNoValue(t testing.TB, root int, key string) {
	t.Helper()
	if v, ok, e := w.s.Get(root, []byte(key)); len(v) != 0 || ok || e != api.ErrCorrupt {
		t.Fatalf("Get(%d, %q): %d bytes, %t, error %d, want %d", root, key, len(v), ok, e, api.ErrCorrupt)
	}
}

func (w *world) checkNoPages(t testing.TB, root int) {
	t.Helper()
	same := w.unchanged(t)
	if l, e := w.s.Pages(root); len(l) != 0 || e != api.ErrCorrupt {
		t.Fatalf("Pages(%d): %v, error %d", root, l, e)
	}
	if e := w.s.Keep([]int{root}); e != api.ErrCorrupt {
		t.Fatalf("Keep(%d): error %d", root, e)
	}
	same()
}

// 9.5: one page of a tree is spoilt: what must read it tells so, what lies
// elsewhere is found as it was; a change that may do without it is a right one.
func TestSpoiltPages(t *testing.T) {
	t.Parallel()
	spoil := map[string]func(w *world, page int, r *rand.Rand){
		"turned":   func(w *world, page int, r *rand.Rand) { w.turn(t, page, r.Intn(512)) },
		"no load":  func(w *world, page int, r *rand.Rand) { w.lay(t, page, []byte(data(7, 508))) },
		"noughts":  func(w *world, page int, r *rand.Rand) { w.lay(t, page, make([]byte, 508)) },
		"no empty": func(w *world, page int, r *rand.Rand) { w.lay(t, page, append([]byte{1}, make([]byte, 507)...)) },
		"the other kind": func(w *world, page int, r *rand.Rand) {
			if load, _ := w.p.Read(page); load[0] == 3 {
				w.layNode(t, page, leafOf(cellOf("a", "b")))
			} else {
				w.layPiece(t, page, []byte("data"), 0)
			}
		},
	}
	for _, n := range []int{2, 3, 6} {
		s := shapes()[n]
		w, root, m := someTree(t, s, 250, 50)
		l := w.checkRight(t, root, m)
		for name, how := range spoil {
			t.Run(s.name+", "+name, func(t *testing.T) {
				t.Parallel()
				r := rand.New(rand.NewSource(1))
				for i, page := range l.pages {
					if i%5 != n%5 {
						continue
					}
					c := w.clone()
					how(c, page, r)
					c.checkNoPages(t, root)
					c.checkSpoilt(t, root, page, m, l)
				}
			})
		}
	}
}

// checkSpoilt: one page of a tree is spoilt, the others are not.
func (w *world) checkSpoilt(t testing.TB, root, page int, m model, l look) {
	t.Helper()
	for i, k := range l.order {
		switch {
		case slices.Contains(l.ways[k], page):
			w.checkNoValue(t, root, k)
			if i%10 == 0 {
				w.checkCorrupt(t, root, k)
			}
			continue
		case slices.Contains(l.pieces[k], page):
			w.checkNoValue(t, root, k)
		default:
			w.checkGet(t, root, k, m[k])
		}
		if i%4 == page%4 {
			w.checkPerhaps(t, root, page, oneChange{key: k, value: data(i, i%65)}, l)
			w.checkPerhaps(t, root, page, oneChange{key: k, gone: true}, l)
		}
	}
}

// checkPerhaps: a change whose way is not spoilt is done, unless neighbours must be
// read for it, and one of these is; pieces need never be read.
func (w *world) checkPerhaps(t testing.TB, root, page int, o oneChange, l look) {
	t.Helper()
	c := w.clone()
	same := c.unchanged(t)
	made, e := o.do(c, root)
	if e == api.ErrCorrupt && made == 0 {
		same()
		if l.isPiece(page) {
			t.Fatalf("a change of %q is refused, for a piece that it need not read", o.key)
		}
		return
	}
	if e != api.OK {
		t.Fatalf("a change of %q: error %d", o.key, e)
	}
	for _, k := range l.order {
		if k != o.key && !slices.Contains(l.ways[k], page) && !slices.Contains(l.pieces[k], page) {
			c.checkGet(t, made, k, l.cells[k])
		}
	}
	if o.gone {
		c.checkNoGet(t, made, o.key)
	} else {
		c.checkGet(t, made, o.key, o.value)
	}
}

func (l look) isPiece(page int) bool {
	for _, pieces := range l.pieces {
		if slices.Contains(pieces, page) {
			return true
		}
	}
	return false
}

// 9.5: a leaf that gets greater, and fits, needs none of its neighbours: these may be spoilt.
func TestNoNeighbourNeeded(t *testing.T) {
	w, root, m := someTree(t, shapes()[0], 400, 80)
	l := w.checkRight(t, root, m)
	for _, k := range l.order {
		c := w.clone()
		leaf := l.ways[k][len(l.ways[k])-1]
		if node.Size(c.nodeAt(leaf)) > 440 || len(m[k]) > 3 {
			continue
		}
		for _, page := range l.pages {
			if !slices.Contains(l.ways[k], page) {
				c.turn(t, page, 17)
			}
		}
		made := c.put(t, root, k, m[k]+"more")
		c.checkGet(t, made, k, m[k]+"more")
	}
}

// 9.5: roots, kids and pieces that are no page.
func TestNoPage(t *testing.T) {
	w := fresh(t, 40)
	w.layNode(t, 2, leafOf(cellOf("a", "1")))
	w.layNode(t, 4, innerOf([]int{2, 40}, "m"))
	w.layNode(t, 5, leafOf(longOf("n", 40, 65)))
	w.layNode(t, 6, innerOf([]int{2, 5}, "m"))
	w.layNode(t, 7, leafOf(longOf("n", 8, 600)))
	w.layPiece(t, 8, []byte(data(1, 503)), 4095)
	w.use(8)
	for _, root := range []int{-1 << 62, -4096, -1, 1, 40, 41, 4095, 4096, 1<<62 + 2} {
		w.checkCorrupt(t, root, "a")
		w.checkCorrupt(t, root, "")
	}
	w.checkGet(t, 4, "a", "1")
	w.checkCorrupt(t, 4, "n")
	w.checkCorrupt(t, 4, "m")
	for _, root := range []int{5, 6, 7} {
		w.checkNoValue(t, root, "n")
		w.checkNoPages(t, root)
		w.checkNoGet(t, root, "z")
		// the pieces of a value that goes need not be read
		made := w.put(t, root, "n", "new")
		w.checkGet(t, made, "n", "new")
		w.checkNoGet(t, w.remove(t, root, "n"), "n")
	}
}

// chain lays nodes one below the other, of which each has the next one twice as
// its kid, down to a leaf; the root is at page 2.
func (w *world) chain(t testing.TB, depth int) {
	t.Helper()
	for page := 2; page < 2+depth; page++ {
		w.layNode(t, page, innerOf([]int{page + 1, page + 1}, "m"))
	}
	w.layNode(t, 2+depth, leafOf(cellOf("a", "1"), cellOf("n", "2")))
}

// 9.5: a leaf may lie 12 nodes below the root, and no deeper.
func TestDepth(t *testing.T) {
	for depth := range 20 {
		w := fresh(t, 200)
		w.chain(t, depth)
		w.use(2 + depth)
		if depth > 12 {
			w.checkCorrupt(t, 2, "a")
			w.checkCorrupt(t, 2, "z")
			continue
		}
		w.checkGet(t, 2, "a", "1")
		w.checkGet(t, 2, "n", "2")
		w.checkNoGet(t, 2, "b")
		w.checkNoDelete(t, 2, "b")
		made := w.put(t, 2, "b", "3")
		w.checkGet(t, made, "b", "3")
		w.checkGet(t, made, "n", "2")
		if depth > 0 {
			w.checkNoPages(t, 2)
		}
	}
	// pages that lead back to themselves
	w := fresh(t, 20)
	w.layNode(t, 2, innerOf([]int{2, 2}, "m"))
	w.layNode(t, 3, innerOf([]int{4, 4}, "m"))
	w.layNode(t, 4, innerOf([]int{3, 3}, "m"))
	for root := 2; root <= 4; root++ {
		w.checkCorrupt(t, root, "a")
		w.checkCorrupt(t, root, "m")
	}
}

// A tree that is not right, and as deep as one may be, whose root would have to be
// cut: what that makes would lie too deep.
func TestDeeperBelowNewRoot(t *testing.T) {
	// the keys of a node stand behind those of its kid
	full := func(kid int) node.Node {
		n := node.Node{Kids: []int{kid}}
		for i := range 4 {
			n.Keys = append(n.Keys, []byte(string(rune('z'-kid))+fmt.Sprint(i)+times("k", 120)))
			n.Kids = append(n.Kids, kid)
		}
		return n
	}
	for depth := 10; depth <= 12; depth++ {
		w := fresh(t, 200)
		for page := 2; page < 2+depth; page++ {
			w.layNode(t, page, full(page+1))
		}
		w.layNode(t, 2+depth, leafOf(cellOf("00"+times("k", 126), times("v", 64)), cellOf("0"+times("k", 127), times("v", 64))))
		w.use(2 + depth)
		made, e := w.s.Put(2, []byte("000"+times("k", 125)), []byte(times("v", 64)))
		if want := []api.Errno{api.OK, api.OK, api.ErrCorrupt}[depth-10]; e != want || (made == 0) != (want != api.OK) {
			t.Errorf("%d deep: %d, error %d, want %d", depth, made, e, want)
		}
	}
}

// 9.5: Pages tells a page that is reached twice, wherever.
func TestTwice(t *testing.T) {
	w := fresh(t, 40)
	w.layNode(t, 2, leafOf(cellOf("a", "1")))
	w.layNode(t, 3, leafOf(cellOf("n", "1")))
	w.layNode(t, 4, innerOf([]int{2, 3}, "m"))
	w.layNode(t, 5, innerOf([]int{2, 2}, "m"))
	w.layNode(t, 6, innerOf([]int{4, 3}, "m"))
	w.layPiece(t, 7, []byte(data(1, 100)), 0)
	w.layPiece(t, 8, []byte(data(2, 503)), 7)
	w.layNode(t, 9, leafOf(longOf("a", 7, 100), longOf("b", 7, 100)))
	w.layNode(t, 10, leafOf(longOf("a", 8, 603), longOf("b", 7, 100)))
	w.layNode(t, 11, leafOf(longOf("a", 8, 603)))
	w.layNode(t, 12, leafOf(longOf("n", 7, 100)))
	w.layNode(t, 13, innerOf([]int{11, 12}, "m"))
	w.layPiece(t, 14, []byte(data(1, 503)), 14)
	w.layNode(t, 15, leafOf(longOf("a", 14, 1006)))
	w.layNode(t, 16, leafOf(longOf("a", 16, 100)))
	w.checkPages(t, 4, []int{2, 3, 4})
	w.checkPages(t, 11, []int{7, 8, 11})
	w.checkGet(t, 11, "a", data(2, 503)+data(1, 100))
	for _, root := range []int{5, 6, 9, 10, 13, 15, 16} {
		w.checkNoPages(t, root)
	}
	w.keep(t, 4, 11)
	if want := []int{2, 3, 4, 7, 8, 11}; !slices.Equal(w.used(), want) {
		t.Errorf("in use are %v, want %v", w.used(), want)
	}
	// pages of two trees may be the same
	w.keep(t, 4, 2, 3, 4, 11)
	if want := []int{2, 3, 4, 7, 8, 11}; !slices.Equal(w.used(), want) {
		t.Errorf("in use are %v, want %v", w.used(), want)
	}
}

// 9.5: Pages tells a long value of another number of bytes than its Size says;
// nobody tells its bytes.
func TestLengths(t *testing.T) {
	for _, c := range []struct {
		size   int
		pieces []int
		right  bool
	}{
		{65, []int{65}, true}, {65, []int{64}, false}, {65, []int{66}, false}, {65, []int{1}, false},
		{503, []int{503}, true}, {504, []int{503}, false}, {504, []int{503, 1}, true}, {503, []int{503, 1}, false},
		{2048, []int{503, 503, 503, 503, 36}, true}, {2048, []int{503, 503, 503, 503, 35}, false},
		{2048, []int{503, 503, 503, 503, 37}, false}, {2048, []int{503, 503, 503, 503, 36, 1}, false},
		{2048, []int{503, 503, 503, 503}, false}, {600, []int{503, 96}, false}, {600, []int{503, 98}, false},
	} {
		w := fresh(t, 60)
		value, next := "", 0
		for i := len(c.pieces) - 1; i >= 0; i-- {
			part := data(i, c.pieces[i])
			w.layPiece(t, 10+i, []byte(part), next)
			value, next = part+value, 10+i
		}
		w.layNode(t, 2, leafOf(cellOf("a", "1"), longOf("b", 10, c.size)))
		w.f.Only([]int{2, 10, 11, 12, 13, 14, 15})
		w.checkGet(t, 2, "a", "1")
		if c.right {
			w.checkTree(t, 2, model{"a": "1", "b": value})
			continue
		}
		w.checkNoValue(t, 2, "b")
		w.checkNoPages(t, 2)
		w.checkTree(t, w.put(t, 2, "b", "2"), model{"a": "1", "b": "2"})
		w.checkTree(t, w.remove(t, 2, "b"), model{"a": "1"})
	}
}

// Pieces that lead back to themselves end.
func TestPiecesInARing(t *testing.T) {
	w := fresh(t, 20)
	for _, size := range []int{1, 2, 503} {
		w.layPiece(t, 5, []byte(data(1, size)), 6)
		w.layPiece(t, 6, []byte(data(2, size)), 5)
		w.layNode(t, 2, leafOf(longOf("a", 5, 2048)))
		w.checkNoValue(t, 2, "a")
		w.checkNoPages(t, 2)
	}
}

// Leaves that are not equally deep, and keys that are not where they belong, may
// be told or not; the calls end, and with an error nothing is changed.
func TestUneven(t *testing.T) {
	w := fresh(t, 100)
	w.layNode(t, 2, leafOf(cellOf("b", "1"), cellOf("d", "1")))
	w.layNode(t, 3, leafOf(cellOf("p", "1"), cellOf("q", "1")))
	w.layNode(t, 4, innerOf([]int{2, 3}, "m"))
	w.layNode(t, 5, innerOf([]int{4, 3}, "o"))
	w.layNode(t, 6, innerOf([]int{3, 2}, "m"))
	w.layNode(t, 7, innerOf([]int{2, 4}, "a"))
	w.layNode(t, 8, innerOf([]int{4, 2, 5}, "c", "n"))
	w.use(8)
	for root := 4; root <= 8; root++ {
		for _, key := range []string{"", "a", "b", "c", "d", "m", "n", "o", "p", "q", "z"} {
			for _, size := range []int{0, 64, 2048} {
				w.checkEnds(t, root, oneChange{key: key, value: data(1, size)})
			}
			w.checkEnds(t, root, oneChange{key: key, gone: true})
		}
	}
}

// Nodes are joined whose kids that meet there lead back to themselves: that ends, too.
func TestRingsThatMeet(t *testing.T) {
	w := fresh(t, 60)
	w.lays(t,
		filled("a", 390), filled("b", 122), innerOf([]int{4, 4}, "d"), // 2 to 4
		innerOf([]int{2, 3, 4}, ahead("b", 128), ahead("d", 128)),
		innerOf([]int{6, 6}, "f"), filled("g", 480),
		innerOf([]int{6, 7, 7}, ahead("g", 110), ahead("h", 110)),
		innerOf([]int{5, 8}, ahead("e", 20)))
	for _, c := range w.nodeAt(2).Cells {
		if e := w.checkEnds(t, 9, oneChange{key: string(c.Key), gone: true}); e != api.ErrCorrupt {
			t.Errorf("Delete: error %d", e)
		}
	}
}

// checkEnds: a change ends; nothing that is in use is changed, and with an error nothing at all.
func (w *world) checkEnds(t testing.TB, root int, o oneChange) api.Errno {
	t.Helper()
	c := w.clone()
	same := c.unchanged(t)
	made, e := o.do(c, root)
	if e != api.OK {
		if made != 0 {
			t.Fatalf("the root %d beside the error %d", made, e)
		}
		same()
		return e
	}
	for _, page := range w.used() {
		was, _ := w.d.Read(page)
		is, _ := c.d.Read(page)
		if string(was) != string(is) {
			t.Fatalf("the page %d, which was in use, has changed", page)
		}
	}
	return e
}

// plainWay is the way to a key through any pages, by the chapter's words: the
// cells of the leaf, if there is one.
func (w *world) plainWay(root int, key string) ([]node.Cell, bool) {
	if root == 0 {
		return nil, true
	}
	for range 13 {
		load, e := w.p.Read(root)
		if e != api.OK {
			return nil, false
		}
		n, e := node.Decode(load)
		if e != api.OK {
			return nil, false
		}
		if n.Leaf {
			return n.Cells, true
		}
		i := 0
		for i < len(n.Keys) && string(n.Keys[i]) <= key {
			i++
		}
		root = n.Kids[i]
	}
	return nil, false
}

// plainPieces is the pages and the bytes of a long value, if it has as many as Size says.
func (w *world) plainPieces(c node.Cell) (pages []int, value string, ok bool) {
	for page := c.Over; page != 0 && len(value) <= c.Size; {
		load, _ := w.p.Read(page)
		data, next, e := node.Open(load)
		if e != api.OK {
			return nil, "", false
		}
		pages, value, page = append(pages, page), value+string(data), next
	}
	return pages, value, len(value) == c.Size
}

// plainPages is all pages below one, by the chapter's words, or not ok.
func (w *world) plainPages(page, depth int) (pages []int, ok bool) {
	load, _ := w.p.Read(page)
	n, e := node.Decode(load)
	if e != api.OK || depth > 12 {
		return nil, false
	}
	pages = []int{page}
	for _, c := range n.Cells {
		if c.Over != 0 {
			l, _, ok := w.plainPieces(c)
			if !ok {
				return nil, false
			}
			pages = append(pages, l...)
		}
	}
	for _, kid := range n.Kids {
		l, ok := w.plainPages(kid, depth+1)
		if !ok || len(pages)+len(l) > 5000 {
			return nil, false
		}
		pages = append(pages, l...)
	}
	slices.Sort(pages)
	return pages, len(slices.Compact(slices.Clone(pages))) == len(pages)
}

// anyPage is a page's load by chance: a node, a piece, or neither.
func anyPage(r *rand.Rand, pages int) []byte {
	page := func() int { return 2 + r.Intn(pages) }
	text := func() string {
		return times(string(rune('a'+r.Intn(6))), r.Intn(4)) + times("k", r.Intn(2)*r.Intn(124))
	}
	var keys []string
	for range 1 + r.Intn(5) {
		keys = append(keys, text())
	}
	slices.Sort(keys)
	keys = slices.Compact(keys)
	n := node.Node{Leaf: r.Intn(3) > 0}
	for _, k := range keys {
		switch {
		case !n.Leaf:
			n.Keys, n.Kids = append(n.Keys, []byte(k)), append(n.Kids, page())
		case r.Intn(3) == 0:
			n.Cells = append(n.Cells, longOf(k, page(), 65+r.Intn(300)))
		default:
			n.Cells = append(n.Cells, cellOf(k, times("v", r.Intn(30))))
		}
	}
	if !n.Leaf {
		n.Kids = append(n.Kids, page())
	}
	if load, e := node.Encode(n); e == api.OK && r.Intn(6) > 0 {
		return load
	}
	if load, e := node.Piece([]byte(data(1, 1+r.Intn(300))), page()*r.Intn(2)); e == api.OK && r.Intn(9) > 0 {
		return load
	}
	b := make([]byte, 508)
	r.Read(b[:r.Intn(508)])
	return b
}

// 9.5 with R1: over any pages whatever the calls end, and tell what the words say.
func TestAnyPages(t *testing.T) {
	t.Parallel()
	for seed := range int64(120) {
		r := rand.New(rand.NewSource(seed))
		w := fresh(t, 60)
		count := 3 + r.Intn(20)
		for page := 2; page < 2+count; page++ {
			w.lay(t, page, anyPage(r, count+r.Intn(2)))
			w.f.Take()
			if r.Intn(15) == 0 {
				w.turn(t, page, r.Intn(512))
			}
		}
		for root := range 2 + count {
			w.checkAny(t, r, root)
			if t.Failed() {
				t.Fatalf("seed %d", seed)
			}
		}
	}
}

// checkAny: what the calls answer for a root, over any pages.
func (w *world) checkAny(t testing.TB, r *rand.Rand, root int) {
	t.Helper()
	if pages, ok := w.plainPages(root, 0); ok {
		w.checkPages(t, root, pages)
	} else if root != 0 {
		w.checkNoPages(t, root)
	}
	for _, key := range []string{"", "a", "bb", "c" + times("k", r.Intn(128)), "f", "zz"} {
		cells, ok := w.plainWay(root, key)
		if !ok {
			w.checkCorrupt(t, root, key)
			continue
		}
		at := slices.IndexFunc(cells, func(c node.Cell) bool { return string(c.Key) == key })
		switch {
		case at < 0:
			w.checkNoGet(t, root, key)
			w.checkNoDelete(t, root, key)
		case cells[at].Over == 0:
			w.checkGet(t, root, key, string(cells[at].Value))
		default:
			if _, value, ok := w.plainPieces(cells[at]); ok {
				w.checkGet(t, root, key, value)
			} else {
				w.checkNoValue(t, root, key)
			}
		}
		w.checkEnds(t, root, oneChange{key: key, value: data(1, r.Intn(70)*r.Intn(30))})
		w.checkEnds(t, root, oneChange{key: key, gone: true})
	}
}
